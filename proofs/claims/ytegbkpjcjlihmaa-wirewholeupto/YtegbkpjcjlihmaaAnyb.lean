/-
  strings.IndexAny, strings.ContainsAny at CR and LF, at every string.
-/
import Derived.Test.YtegbkpjcjlihmaaAny
namespace Go.Proofs.Ytegbkpjcjlihmaa
open Go.RowKit

theorem Keeps.iterAt {S : Nat → Prop} {a w : World} (h : Keeps S a w) {k : Nat} (hk : k < a.heap.size → S k) (s : ByteArray) (n : Nat) : Keeps S a (w.iterAt k s n) := by
  refine h.then (S' := fun i => i = k) ?_ (fun _ hi e => by subst e; exact hk hi)
  have hb := Lib.below_iterAt (Below.refl k w) (k := k) (Nat.le_refl _) s n
  refine ⟨hb.os, hb.tape, hb.output, hb.size, fun i hi hn => ?_⟩
  simp only [World.iterAt]
  first | (rw [Array.getElem?_setIfInBounds, if_neg (fun e => hn e.symm)]) | (simp [Array.getElem?_setIfInBounds]; omega)

set_option maxHeartbeats 2000000 in
set_option maxRecDepth 100000 in
theorem indexAny_short (s : ByteArray) (h8 : s.size ≤ 8) (w : World) :
    Calls Try.prog 79 #[.string s, .string ⟨#[13, 10]⟩] w fun e w' => ∃ n : Int, e = .returned (.int .i64 n) ∧ decide (0 ≤ n) = hasCL s.data.toList ∧ Fresh w w' := by
  have h8z : decide ((8 : Int) < (s.size : Int)) = false := decide_eq_false (by omega)
  go_enter Try.func79, Try.ntmps79
  go_wp2_with (go_at_call 88; refine (Try.strings_shouldUseASCIISet _ _).mono ?_; rintro e w' ⟨rfl, hw⟩; rw [hw, h8z])
  go_loopw [9, 10] (fun _ _ wr => ∃ pos : Nat, wr.heap[w.heap.size]? = some (.stringIter s pos) ∧ Fresh w wr ∧ NoCL s.data.toList pos) (fun _ _ wr => s.size - wr.iterPos w.heap.size)
  case atStart =>
    exact ⟨0, World.iter_heap w s 0, Fresh.iter w s 0, fun j x h _ => by omega⟩
  case round =>
    obtain ⟨pos, hit, hf, hno⟩ := hrel
    have HN : Hid (NoCL s.data.toList pos) := hno
    clear hno
    by_cases hp : pos < s.size
    · have hnx : ∀ ty, (Instr.next (.pointer (some ⟨w.heap.size, 0, none⟩)) true ty).run Try.prog wr = _ := fun ty => Lib.run_next_any_at wr w.heap.size s pos ty hit hp
      have hwd : 1 ≤ (Utf8.decode s pos).2 := by
        by_cases ha : (s[pos]'hp).toNat < 128
        · rw [decode_ascii s pos hp ha]; exact Nat.le_refl _
        · exact (decode_high s pos hp (by omega)).2
      have hit2 := Lib.iterAt_heap wr w.heap.size s pos (pos + (Utf8.decode s pos).2) hit
      have hf2 : Fresh w (wr.iterAt w.heap.size s (pos + (Utf8.decode s pos).2)) := hf.iterAt (fun h => absurd h (Nat.lt_irrefl _)) _ _
      obtain ⟨x, hx⟩ : ∃ x : UInt8, s.data.toList[pos]? = some x := ⟨_, Lib.data_getElem? s pos hp⟩
      have Hx : Hid (s.data.toList[pos]? = some x) := hx
      have hxe : s[pos]'hp = x := by
        have := Lib.data_getElem? s pos hp
        rw [hx] at this
        cases this; rfl
      have htop := decode_top s pos
      -- what the rune says of the byte
      have hcase : (x = 13 ∨ x = 10) ∧ ((Utf8.decode s pos).1 = 13 ∨ (Utf8.decode s pos).1 = 10) ∨ ¬ (x = 13 ∨ x = 10) ∧ ¬ ((Utf8.decode s pos).1 = 13 ∨ (Utf8.decode s pos).1 = 10) ∧ NoCL s.data.toList (pos + (Utf8.decode s pos).2) := by
        by_cases ha : x.toNat < 128
        · have hd := decode_ascii s pos hp (by rw [hxe]; exact ha)
          rw [hd, hxe]
          by_cases hc : x = 13 ∨ x = 10
          · left
            refine ⟨hc, ?_⟩
            rcases hc with rfl | rfl
            · exact .inl rfl
            · exact .inr rfl
          · right
            refine ⟨hc, ?_, HN.out.next hx (by simpa using hc)⟩
            rintro (h | h)
            · exact hc (.inl (UInt8.toNat_inj.1 h))
            · exact hc (.inr (UInt8.toNat_inj.1 h))
        · right
          have hd := decode_high s pos hp (by rw [hxe]; omega)
          refine ⟨?_, by omega, HN.out.skip hx (by omega)⟩
          rintro (rfl | rfl) <;> exact ha (by decide)
      clear hx hxe
      generalize (Utf8.decode s pos).1 = r at *
      generalize (Utf8.decode s pos).2 = d at *
      go_wp2_with fail
      refine (indexRune_any r htop _).mono ?_
      rintro e w1 ⟨n, rfl, hn, f1⟩
      have hit3 : w1.heap[w.heap.size]? = some (.stringIter s (pos + d)) := f1.heap hit2 (fun h => h)
      rcases hcase with ⟨hc, hr⟩ | ⟨hc, hr, hno⟩
      · have hge : (0 : Int) ≤ n := by
          have : (decide (r = 13) || decide (r = 10)) = true := by simpa using hr
          rw [this] at hn
          exact of_decide_eq_true hn
        clear hn hr hnx
        go_wp2
        go_ret
        exact ⟨_, rfl, by rw [hasCL_at Hx.out hc]; simp, hf2.trans f1⟩
      · have hlt : ¬ (0 : Int) ≤ n := by
          have : (decide (r = 13) || decide (r = 10)) = false := by simpa using hr
          rw [this] at hn
          exact of_decide_eq_false hn
        clear hn hnx
        go_wp2
        go_roundw
        case rel => exact ⟨pos + d, hit3, hf2.trans f1, hno⟩
        case measure =>
          simp only [World.iterPos, hit3, hit]
          omega
    · have hnx : ∀ ty, (Instr.next (.pointer (some ⟨w.heap.size, 0, none⟩)) true ty).run Try.prog wr = _ := fun ty => Lib.run_next_end_at wr w.heap.size s pos ty hit hp
      go_wp2
      go_ret
      exact ⟨_, rfl, by rw [HN.out.none (by rw [← Lib.size_eq]; omega)]; rfl, hf⟩

theorem zero73 : ∀ w, (zeroValue 129).run Try.prog w = .ok (.agg (Array.replicate 256 (.bool false))) w := fun _ => by kernel_rfl

theorem indexAny_hasCL : ∀ l : List UInt8, decide (0 ≤ Lib.indexAny l [13, 10]) = hasCL l
  | [] => rfl
  | b :: l => by
    have ih := indexAny_hasCL l
    have hg := Lib.indexAny_ge [13, 10] l
    have hc : hasCL (b :: l) = (([13, 10] : List UInt8).contains b || hasCL l) := by
      by_cases h1 : b = 13 <;> by_cases h2 : b = 10 <;> simp [hasCL, h1, h2]
    rw [hc, ← ih, Lib.indexAny]
    cases h : ([13, 10] : List UInt8).contains b
    · simp only [Bool.false_or]
      rw [if_neg (by simp)]
      split
      · rename_i h1
        rw [beq_iff_eq.1 h1]
      · rename_i h1
        have : ¬ Lib.indexAny l [13, 10] = -1 := fun e => h1 (beq_iff_eq.2 e)
        rw [decide_eq_true (by omega), decide_eq_true (by omega)]
    · rw [if_pos rfl]
      rfl

theorem indexAny_any (s : ByteArray) (hs : s.size < 4294967281) (w : World) :
    Calls Try.prog 79 #[.string s, .string ⟨#[13, 10]⟩] w fun e w' => ∃ n : Int, e = .returned (.int .i64 n) ∧ decide (0 ≤ n) = hasCL s.data.toList ∧ Fresh w w' := by
  by_cases h8 : s.size ≤ 8
  · exact indexAny_short s h8 w
  · refine (Try.strings_IndexAny_long zero73 s ⟨#[13, 10]⟩ w (by decide) (by omega) hs (by decide) ?_).mono ?_
    · intro j b hb
      match j, hb with
      | 0, hb => simp at hb; subst hb; decide
      | 1, hb => simp at hb; subst hb; decide
    · rintro e w' ⟨rfl, rfl⟩
      exact ⟨_, rfl, indexAny_hasCL _, ((Keeps.refl _ w).alloc _).alloc _⟩

set_option maxRecDepth 20000 in
set_option maxHeartbeats 400000 in
theorem containsAny_any (s : ByteArray) (hs : s.size < 4294967281) (w : World) :
    Calls Try.prog 56 #[.string s, .string ⟨#[13, 10]⟩] w fun e w' => e = .returned (.bool (hasCL s.data.toList)) ∧ Fresh w w' := by
  go_enter Try.func56, Try.ntmps56
  go_wp2_with fail
  refine (indexAny_any s hs w).mono ?_
  rintro e w' ⟨n, rfl, hn, hf⟩
  have HN : Hid (decide (0 ≤ n) = hasCL s.data.toList) := hn
  clear hn
  go_wp2
  go_ret
  exact ⟨by rw [← HN.out]; rfl, hf⟩

end Go.Proofs.Ytegbkpjcjlihmaa
