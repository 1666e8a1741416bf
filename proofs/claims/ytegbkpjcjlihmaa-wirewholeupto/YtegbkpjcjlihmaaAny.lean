/-
  strings.ContainsAny at CR and LF, at every string.
-/
import Derived.Test.YtegbkpjcjlihmaaShelf
import Derived.Test.YtegbkpjcjlihmaaFrame
import Derived.Test.YtegbkpjcjlihmaaPure
import Derived.Lib.DecodeN
import Derived.Lib.OthersKept
import Derived.Lib.IndexAny
import Derived.LoopN
import Derived.BigQuiet
import Derived.Deep.QuietTactic
namespace Go.Proofs.Ytegbkpjcjlihmaa
open Go.RowKit


theorem Fresh.iter (w : World) (s : ByteArray) (n : Nat) : Fresh w (w.iter s n) := (Keeps.refl _ w).alloc _

set_option maxHeartbeats 1000000 in
set_option maxRecDepth 100000 in
theorem indexRune_bad (w : World) :
    Calls Try.prog 87 #[.string ⟨#[13, 10]⟩, .int .i32 65533] w fun e w' => e = .returned (.int .i64 (-1)) ∧ Fresh w w' := by
  have n0 := fun ty => run_next_ascii (P := Try.prog) w ⟨#[13, 10]⟩ 0 ty (by decide) (by decide)
  have n1 := fun ty => run_next_ascii (P := Try.prog) w ⟨#[13, 10]⟩ 1 ty (by decide) (by decide)
  have n2 := fun ty => run_next_end (P := Try.prog) w ⟨#[13, 10]⟩ 2 ty (by decide)
  have e0 : (⟨#[13, 10]⟩ : ByteArray)[0]'(by decide) = 13 := rfl
  have e1 : (⟨#[13, 10]⟩ : ByteArray)[1]'(by decide) = 10 := rfl
  rw [e0] at n0
  rw [e1] at n1
  clear e0 e1
  go_enter Try.func87, Try.ntmps87
  go_wp2
  refine wp_loop_rounds 3 ?_
  rw [rounds_succ]
  go_wp2
  rw [rounds_succ]
  go_wp2
  rw [rounds_succ]
  go_wp2
  go_ret
  exact ⟨rfl, Fresh.iter _ _ _⟩

set_option maxHeartbeats 1000000 in
set_option maxRecDepth 100000 in
theorem indexRune_invalid (r : Nat) (h1 : 128 ≤ r) (h2 : r ≤ 1114111) (h3 : r ≠ 65533) (hv : Lib.validRune r = false) (w : World) :
    Calls Try.prog 87 #[.string ⟨#[13, 10]⟩, .int .i32 r] w fun e w' => e = .returned (.int .i64 (-1)) ∧ Fresh w w' := by
  have a1 : ¬ ((r : Int) < 128) := by omega
  have a2 : ((r : Int) == 65533) = false := beq_eq_false_iff_ne.2 (by omega)
  clear h3
  go_enter Try.func87, Try.ntmps87
  go_wp2_with fail
  refine (Try.utf8_ValidRune _ _).mono ?_
  rintro e w' ⟨rfl, rfl⟩
  rw [hv]
  go_wp2
  go_ret
  exact ⟨rfl, Keeps.refl _ _⟩

set_option maxHeartbeats 1000000 in
set_option maxRecDepth 100000 in
theorem indexRune_valid (r : Nat) (h1 : 128 ≤ r) (h2 : r ≤ 1114111) (h3 : r ≠ 65533) (hv : Lib.validRune r = true) (w : World) :
    Calls Try.prog 87 #[.string ⟨#[13, 10]⟩, .int .i32 r] w fun e w' => e = .returned (.int .i64 (-1)) ∧ Fresh w w' := by
  have a1 : ¬ ((r : Int) < 128) := by omega
  have a2 : ((r : Int) == 65533) = false := beq_eq_false_iff_ne.2 (by omega)
  clear h3
  have hv2 : Utf8.valid r = true := by
    simp only [Lib.validRune, decide_eq_true_eq] at hv; simp only [Utf8.valid, Bool.or_eq_true, Bool.and_eq_true, decide_eq_true_eq]; omega
  obtain ⟨f1, f2, f3⟩ := encode_facts (r : Int) hv2 (by omega)
  go_enter Try.func87, Try.ntmps87
  go_wp2_with fail
  refine (Try.utf8_ValidRune _ _).mono ?_
  rintro e w' ⟨rfl, rfl⟩
  rw [hv]
  go_wp2_with fail
  go_step3
  go_wp2_with fail
  generalize Utf8.encode (r : Int) = E at *
  clear hv hv2
  by_cases hE : E.size = 2
  · obtain ⟨x, y, rfl⟩ : ∃ x y, E = ⟨#[x, y]⟩ := by
      obtain ⟨⟨l⟩⟩ := E
      match l, hE with
      | [x, y], _ => exact ⟨x, y, rfl⟩
    have q2 : 128 ≤ y.toNat := f3 (by show 1 < 2; decide)
    have q3 : ((10 : Int) != (y.toNat : Int)) = true := by rw [bne_iff_ne]; omega
    have q4 : Lib.indexByte ([] : List UInt8) y = -1 := rfl
    have q5 : ((((⟨#[13, 10]⟩ : ByteArray)[1]'(by decide)).toNat : Int) != (((⟨#[x, y]⟩ : ByteArray)[1]'(by show 1 < 2; decide)).toNat : Int)) = true := q3
    have q6 : (((⟨#[x, y]⟩ : ByteArray).size : Nat) : Int) - 1 = 1 := rfl
    clear f1 f2 f3 hE
    simp only [q6]
    clear q6
    refine wp_loop_rounds 1 ?_
    rw [rounds_succ]
    go_wp2_with fail
    go_step3
    go_wp2_with fail
    have hsl : ∀ wx, (Instr.slice 9 (.string ⟨#[13, 10]⟩) (some (.int .i64 2)) none none).run Try.prog wx = .ok (.string ⟨#[]⟩) wx := fun _ => by kernel_rfl
    go_quiet (fail)
    go_wp2_with fail
    have hw2 : IntKind.i64.wrap 2 = 2 := by decide
    have hF : Fresh w' (w'.drewN nq) := (Keeps.refl _ _).drewN nq
    generalize w'.drewN nq = w1 at hF ⊢
    go_quiet ((go_at_call 98; exact Calls.quiet_of_same (Try.strings_IndexByte _ _ _)))
    go_wp2_with fail
    rw [Exit.noGoto_ret]
    simp only [Exit.inBlock, Exit.then, Exit.noGoto_ret]
    go_ret
    exact ⟨rfl, hF.drewN _⟩
  · have q1 : ¬ ((E.size : Int) - 1 < 2) := by omega
    clear f1 f2 f3 hE
    refine wp_loop_rounds 1 ?_
    rw [rounds_succ]
    go_wp2_with fail
    go_ret
    exact ⟨rfl, Keeps.refl _ _⟩

theorem indexRune_any (r : Nat) (h2 : r ≤ 1114111) (w : World) :
    Calls Try.prog 87 #[.string ⟨#[13, 10]⟩, .int .i32 r] w fun e w' => ∃ n : Int, e = .returned (.int .i64 n) ∧ decide (0 ≤ n) = (decide (r = 13) || decide (r = 10)) ∧ Fresh w w' := by
  by_cases ha : r < 128
  · refine (Try.strings_IndexRune_ascii _ (r : Int) w (by omega) (by omega)).mono ?_
    rintro e w' ⟨rfl, rfl⟩
    refine ⟨_, rfl, ?_, Keeps.refl _ _⟩
    have e1 : ((r : Int).toNat).toUInt8 = r.toUInt8 := by simp
    rw [e1]
    have e2 : ∀ k : Nat, k < 256 → (r.toUInt8 = k.toUInt8 ↔ r = k) := by
      intro k hk
      constructor
      · intro h
        have := congrArg UInt8.toNat h
        simp at this
        omega
      · rintro rfl; rfl
    have e13 := e2 13 (by omega)
    have e10 := e2 10 (by omega)
    show decide (0 ≤ Lib.indexByte [13, 10] r.toUInt8) = _
    by_cases h13 : r = 13
    · subst h13; decide
    · by_cases h10 : r = 10
      · subst h10; decide
      · have n13 : ¬ ((13 : UInt8) = r.toUInt8) := fun h => h13 (e13.1 h.symm)
        have n10 : ¬ ((10 : UInt8) = r.toUInt8) := fun h => h10 (e10.1 h.symm)
        simp [Lib.indexByte, n13, n10, h13, h10]
  · have hn : (decide (r = 13) || decide (r = 10)) = false := by
      simp; omega
    by_cases hb : r = 65533
    · subst hb
      refine (indexRune_bad w).mono ?_
      rintro e w' ⟨rfl, hf⟩
      exact ⟨_, rfl, by rw [hn]; rfl, hf⟩
    · cases hv : Lib.validRune r
      · refine (indexRune_invalid r (by omega) h2 hb hv w).mono ?_
        rintro e w' ⟨rfl, hf⟩
        exact ⟨_, rfl, by rw [hn]; rfl, hf⟩
      · refine (indexRune_valid r (by omega) h2 hb hv w).mono ?_
        rintro e w' ⟨rfl, hf⟩
        exact ⟨_, rfl, by rw [hn]; rfl, hf⟩

theorem get_some {s : ByteArray} {j : Nat} {x : UInt8} (h : s.data.toList[j]? = some x) : s.get! j = x := by
  cases s with
  | mk d =>
    show d[j]! = x
    have h' : d[j]? = some x := by simpa using h
    obtain ⟨hj, e⟩ := Array.getElem?_eq_some_iff.1 h'
    rw [getElem!_pos d j hj, e]

theorem decodeN_width (n b0 b1 b2 b3 : Nat) (h : 128 ≤ b0) : (1 < (Lib.decodeN n b0 b1 b2 b3).2 → 128 ≤ b1) ∧ (2 < (Lib.decodeN n b0 b1 b2 b3).2 → 128 ≤ b2) ∧ (3 < (Lib.decodeN n b0 b1 b2 b3).2 → 128 ≤ b3) ∧ (Lib.decodeN n b0 b1 b2 b3).2 ≤ 4 := by
  unfold Lib.decodeN
  repeat' split
  all_goals (simp only []; omega)

theorem decode_skips (s : ByteArray) (pos : Nat) (x0 : UInt8) (h0 : s.data.toList[pos]? = some x0) (hi : 128 ≤ x0.toNat) :
    ∀ j x, pos ≤ j → j < pos + (Utf8.decode s pos).2 → s.data.toList[j]? = some x → 128 ≤ x.toNat := by
  rw [Lib.decode_at]
  have hw := decodeN_width (s.size - pos) (s.get! pos).toNat (s.get! (pos + 1)).toNat (s.get! (pos + 2)).toNat (s.get! (pos + 3)).toNat (by rw [get_some h0]; exact hi)
  generalize (Lib.decodeN (s.size - pos) (s.get! pos).toNat (s.get! (pos + 1)).toNat (s.get! (pos + 2)).toNat (s.get! (pos + 3)).toNat).2 = k at hw ⊢
  obtain ⟨w1, w2, w3, w4⟩ := hw
  intro j x hj hk hx
  by_cases e0 : j = pos
  · subst e0; rw [h0] at hx; cases hx; exact hi
  · by_cases e1 : j = pos + 1
    · subst e1; have := w1 (by omega); rw [get_some hx] at this; exact this
    · by_cases e2 : j = pos + 2
      · subst e2; have := w2 (by omega); rw [get_some hx] at this; exact this
      · by_cases e3 : j = pos + 3
        · subst e3; have := w3 (by omega); rw [get_some hx] at this; exact this
        · omega

theorem decode_top (s : ByteArray) (pos : Nat) : (Utf8.decode s pos).1 ≤ 1114111 := by
  rw [Lib.decode_at]
  have : (s.get! pos).toNat < 256 := UInt8.toNat_lt _
  unfold Lib.decodeN
  repeat' split
  all_goals (simp only []; omega)

/-- no CR, no LF among the first i bytes -/
def NoCL (l : List UInt8) (i : Nat) : Prop := ∀ j x, j < i → l[j]? = some x → x ≠ 13 ∧ x ≠ 10

theorem NoCL.skip {s : ByteArray} {pos : Nat} (h : NoCL s.data.toList pos) {x0 : UInt8} (h0 : s.data.toList[pos]? = some x0) (hi : 128 ≤ x0.toNat) : NoCL s.data.toList (pos + (Utf8.decode s pos).2) := by
  intro j x hj hx
  by_cases hp : j < pos
  · exact h j x hp hx
  · have := decode_skips s pos x0 h0 hi j x (by omega) hj hx
    constructor <;> (rintro rfl; revert this; decide)

theorem NoCL.next {l : List UInt8} {pos : Nat} (h : NoCL l pos) {x0 : UInt8} (h0 : l[pos]? = some x0) (hn : x0 ≠ 13 ∧ x0 ≠ 10) : NoCL l (pos + 1) := by
  intro j x hj hx
  by_cases hp : j < pos
  · exact h j x hp hx
  · obtain rfl : j = pos := by omega
    rw [h0] at hx; cases hx; exact hn

theorem NoCL.none {l : List UInt8} {i : Nat} (h : NoCL l i) (hi : l.length ≤ i) : hasCL l = false := by
  unfold hasCL
  rw [List.any_eq_false]
  intro x hx
  obtain ⟨j, hj, e⟩ := List.getElem_of_mem hx
  have := h j x (by omega) (by rw [List.getElem?_eq_getElem hj, e])
  simp [this.1, this.2]

theorem hasCL_at {l : List UInt8} {i : Nat} {x : UInt8} (h : l[i]? = some x) (hx : x = 13 ∨ x = 10) : hasCL l = true := by
  unfold hasCL
  rw [List.any_eq_true]
  refine ⟨x, List.mem_of_getElem? h, ?_⟩
  rcases hx with rfl | rfl <;> decide

end Go.Proofs.Ytegbkpjcjlihmaa
