/-
  A strings.Builder in a block of its own (type 108), its buffer never read. | A text made of words.
-/
import Derived.Test.YtegbkpjcjlihmabGreatDoorGk
import Derived.Lib.AppendStr
namespace Go.Proofs.YtegbkpjcjlihmabGreatDoor
open Go.RowKit

theorem lies108 : liesAt Tryz.prog Tryz.prog.depth 108 (2 / Tryz.prog.cellsOf 108) 0 108 1 = true := by kernel_rfl

/-- a Builder at b that holds l; it and its buffer lie at B or behind -/
def OB (w : World) (B b : Nat) (l : Text) : Prop := ∃ p v, w.heap[b]? = some (.cells #[p, v] 108 (0, 0)) ∧ (p = .pointer none ∨ p = self b) ∧ w.ownsRow B 5 1 v l.length (Lib.byteCells l) ∧ (l = [] → v = .slice none 0 0)

set_option maxRecDepth 20000 in
theorem copyCheck_own (b : Nat) (p v : Value) (w : World) (hb : w.heap[b]? = some (.cells #[p, v] 108 (0, 0))) (hp : p = .pointer none ∨ p = self b) :
    Calls Tryz.prog 90 #[.pointer (some ⟨b, 0, none⟩)] w fun e w' => e = .returned (.tuple #[]) ∧ (w'.heap[b]? = some (.cells #[self b, v] 108 (0, 0)) ∧ Keeps (fun k => k = b) w w' ∧ w'.heap.size = w.heap.size) := by
  rcases hp with rfl | rfl
  · refine (copyCheck_fresh b 108 2 w (by rw [Lib.cell_of_heap hb]; rfl) (by simp [World.shape?, hb]) (by omega) lies108 (Lib.frozen_of_heap hb 0)).mono ?_
    rintro e w' ⟨rfl, rfl⟩
    exact ⟨rfl, heap_setCell_at hb 0 _, (Keeps.refl (fun k => k = b) w).setCell (p := ⟨b, 0, none⟩) (fun _ => rfl) _, by simp [World.setCell]⟩
  · refine (copyCheck_used b w (by rw [Lib.cell_of_heap hb]; rfl)).mono ?_
    rintro e w' ⟨rfl, rfl⟩
    exact ⟨rfl, hb, Keeps.refl _ _, rfl⟩

theorem own_ne5 {w : World} {B b : Nat} {v : Value} {n : Nat} {xs : List Value} (ho : w.ownsRow B 5 1 v n xs) {cs : Array Value} {T : TypeId} {fr : Nat × Nat} (hb : w.heap[b]? = some (.cells cs T fr)) (hT : T ≠ 5) : v.ownBlock ≠ some b := by
  intro e
  have t1 := owns_tag ho e
  rw [tag_cells hb] at t1
  exact hT (Option.some.inj t1)

set_option maxRecDepth 20000 in
set_option maxHeartbeats 1000000 in
theorem writeString_own (B b : Nat) (l : Text) (s : ByteArray) (w : World) (h : OB w B b l) (hB : B ≤ b) (hlen : l.length + s.size ≤ 140737488355328) :
    Calls Tryz.prog 51 #[.pointer (some ⟨b, 0, none⟩), .string s] w fun e w' => e = .returned (.tuple #[.int .i64 s.size, .nilIface]) ∧ OB w' B b (l ++ s.data.toList) ∧ Keeps (fun k => B ≤ k) w w' := by
  obtain ⟨p, v, hb, hp, hown, hnil⟩ := h
  obtain ⟨i0, hi, hz0, hz1, hz2⟩ := infoByte'
  have hlt := heap_lt hb
  have hne : v.ownBlock ≠ some b := own_ne5 hown hb (by decide)
  go_enter Tryz.func51, Tryz.ntmps51
  go_wp2_with (go_at_call 90; refine (copyCheck_own b p v _ hb hp).mono ?_)
  rintro e w1 ⟨rfl, hb1, k1, -⟩
  have hsz1 := k1.size
  have c1 : w1.cell? ⟨b, 1, none⟩ = some v := by rw [Lib.cell_of_heap hb1]; rfl
  have ho1 : w1.ownsRow B 5 1 v l.length (Lib.byteCells l) := k1.owns hown (fun k hk e => hne (by rw [hk, e]))
  go_wp2_with (at_builtin; refine Lib.wpList_append_own_string _ rfl _ _ 106 9 rfl B 5 i0 Tryz.underlying106 Tryz.underlying9 hi hz0 hz1 hz2 _ _ _ rfl ho1 s rfl ?c3 ?c4 ?c5 ?_)
  case c3 => unfold maxLen; omega
  case c4 => omega
  case c5 => omega
  intro v' w2 hown' hgrow hiff
  have hb2 : w2.heap[b]? = some (.cells #[self b, v] 108 (0, 0)) := by
    rw [hgrow.block b (by omega) (fun e => hne e.symm)]
    exact hb1
  have d1 : w2.cell? ⟨b, 1, none⟩ = some v := by rw [Lib.cell_of_heap hb2]; rfl
  have f1 : w2.frozen? ⟨b, 1, none⟩ = false := Lib.frozen_of_heap hb2 1
  have Hi : Hid (l ++ s.data.toList = [] → v' = .slice none 0 0) := fun e => by
    rw [List.append_eq_nil_iff] at e
    refine hiff.2 ⟨hnil e.1, ?_⟩
    first | exact ba_ext (by rw [e.2]; rfl) | (have := congrArg List.length e.2; rw [Array.length_toList] at this; exact this)
  clear hiff
  have hgb : v'.ownBlock ≠ some b := own_ne5 hown' hb2 (by decide)
  obtain ⟨ao, cap, rfl, _⟩ := own_form hown'
  go_wp2
  go_ret2
  refine ⟨rfl, ⟨self b, .slice ao (l.length + s.size) cap, heap_setCell_at hb2 1 _, .inr rfl, ?_, Hi.out⟩, ?_⟩
  · have hk : Keeps (fun k => k = b) w2 (w2.setCell ⟨b, 1, none⟩ (.slice ao (l.length + s.size) cap)) := (Keeps.refl (fun k => k = b) w2).setCell (p := ⟨b, 1, none⟩) (fun _ => rfl) _
    refine hk.owns (by simpa [Lib.byteCells_append, Lib.strCells_eq] using hown') (fun k hk' e => hgb (by rw [hk', e]))
  · have a1 : Keeps (fun k => B ≤ k) w w1 := k1.mono (fun _ _ e => by omega)
    exact (a1.grown hgrow (fun k hk _ => (ho1.lt k hk).1)).setCell (p := ⟨b, 1, none⟩) (fun _ => hB) _

set_option maxRecDepth 20000 in
set_option maxHeartbeats 1000000 in
theorem writeByte_own (B b : Nat) (l : Text) (c : UInt8) (w : World) (h : OB w B b l) (hB : B ≤ b) (hlen : l.length + 1 ≤ 140737488355328) :
    Calls Tryz.prog 128 #[.pointer (some ⟨b, 0, none⟩), .int .u8 c.toNat] w fun e w' => e = .returned .nilIface ∧ OB w' B b (l ++ [c]) ∧ Keeps (fun k => B ≤ k) w w' := by
  obtain ⟨p, v, hb, hp, hown, hnil⟩ := h
  obtain ⟨i0, hi, hz0, hz1, hz2⟩ := infoByte'
  have hlt := heap_lt hb
  have hne : v.ownBlock ≠ some b := own_ne5 hown hb (by decide)
  go_enter Tryz.func128, Tryz.ntmps128
  go_wp2_with (go_at_call 90; refine (copyCheck_own b p v _ hb hp).mono ?_)
  rintro e w1 ⟨rfl, hb1, k1, -⟩
  have hsz1 := k1.size
  have c1 : w1.cell? ⟨b, 1, none⟩ = some v := by rw [Lib.cell_of_heap hb1]; rfl
  have ho1 : w1.ownsRow B 5 1 v l.length (Lib.byteCells l) := k1.owns hown (fun k hk e => hne (by rw [hk, e]))
  go_wp2_with (at_builtin; refine wpList_append_placed _ rfl _ _ 106 rfl B 5 i0 (.int .u8 0) 1 1 Tryz.underlying106 hi hz0 hz1 hz2 rfl (by decide) _ _ _ rfl (ho1.alloc _) ⟨w1.heap.size, 0, none⟩ 1 1 [.int .u8 c.toNat] rfl rfl ?c1 ?c2 ?c3 ?c4 ?c5 ?_)
  case c1 =>
    intro j u hj
    match j, hj with
    | 0, hj => simp at hj; subst hj; simp [Addr.add]
  case c2 => intro u hu; simp at hu; subst hu; rfl
  case c3 => unfold maxLen; omega
  case c4 => omega
  case c5 => simp; omega
  intro v' w2 hown' hgrow _
  have hb2 : w2.heap[b]? = some (.cells #[self b, v] 108 (0, 0)) := by
    rw [hgrow.block b (by simp; omega) (fun e => hne e.symm), Lib.alloc_old w1 _ b (by omega)]
    exact hb1
  have d1 : w2.cell? ⟨b, 1, none⟩ = some v := by rw [Lib.cell_of_heap hb2]; rfl
  have f1 : w2.frozen? ⟨b, 1, none⟩ = false := Lib.frozen_of_heap hb2 1
  have hgb : v'.ownBlock ≠ some b := own_ne5 hown' hb2 (by decide)
  obtain ⟨ao, cap, rfl, _⟩ := own_form hown'
  go_wp2
  go_ret
  refine ⟨rfl, ⟨self b, .slice ao (l.length + 1) cap, heap_setCell_at hb2 1 _, .inr rfl, ?_, by simp⟩, ?_⟩
  · have hk : Keeps (fun k => k = b) w2 (w2.setCell ⟨b, 1, none⟩ (.slice ao (l.length + 1) cap)) := (Keeps.refl (fun k => k = b) w2).setCell (p := ⟨b, 1, none⟩) (fun _ => rfl) _
    refine hk.owns (by simpa [Lib.byteCells_append, Lib.byteCells] using hown') (fun k hk' e => hgb (by rw [hk', e]))
  · have a1 : Keeps (fun k => B ≤ k) w w1 := k1.mono (fun _ _ e => by omega)
    exact ((a1.alloc _).grown hgrow (fun k hk _ => (ho1.lt k hk).1)).setCell (p := ⟨b, 1, none⟩) (fun _ => hB) _

/-- String, once at the end -/
theorem string_own (B b : Nat) (l : Text) (w : World) (h : OB w B b l) :
    Calls Tryz.prog 46 #[.pointer (some ⟨b, 0, none⟩)] w fun e w' => e = .returned (.string ⟨l.toArray⟩) ∧ Keeps (fun k => B ≤ k) w w' := by
  obtain ⟨p, v, hb, hp, hown, hnil⟩ := h
  refine (string_any b 108 #[p, v] v l w hb rfl ⟨World.ownsRowF_of (by exact ⟨hown.1, hown.2.imp id (fun ⟨g, cap, cur, hv, _, r⟩ => ⟨g, cap, cur, hv, by omega, r⟩)⟩), hnil⟩).mono ?_
  rintro e w' ⟨rfl, k, _, _⟩
  exact ⟨rfl, k.mono (fun i _ e => (hown.lt i e).1)⟩

theorem OB.keep {S : Nat → Prop} {w w' : World} {B b : Nat} {l : Text} (h : OB w B b l) (k : Keeps S w w') (hS : ∀ i, B ≤ i → ¬ S i) (hB : B ≤ b) : OB w' B b l := by
  obtain ⟨p, v, hb, hp, hown, hnil⟩ := h
  exact ⟨p, v, k.heap hb (hS b hB), hp, k.owns hown (fun i hi => hS i (hown.lt i hi).1), hnil⟩

theorem OB.new (w : World) : OB (w.alloc (.cells #[.pointer none, .slice none 0 0] 108)) w.heap.size w.heap.size [] :=
  ⟨_, _, heap_new w _, .inl rfl, World.ownsRow_nil _ _ _ _, fun _ => rfl⟩

end Go.Proofs.YtegbkpjcjlihmabGreatDoor

namespace Go.Proofs.YtegbkpjcjlihmabGreatDoor
open Go.RowKit

/-- the text of words -/
def wtext (xs : List ByteArray) : Text := xs.flatMap (fun x => Lib.itoa (x.size : Int) ++ 58 :: x.data.toList)

theorem wtext_app (xs ys : List ByteArray) : wtext (xs ++ ys) = wtext xs ++ wtext ys := by simp [wtext]

theorem wtext_next {xs : List ByteArray} {i : Nat} {x : ByteArray} (h : xs[i]? = some x) : wtext (xs.take (i + 1)) = wtext (xs.take i) ++ Lib.itoa (x.size : Int) ++ [58] ++ x.data.toList ∧
    (wtext (xs.take i)).length + (Lib.itoa (x.size : Int)).length + 1 + x.size ≤ (wtext xs).length := by
  have e : wtext (xs.take (i + 1)) = wtext (xs.take i) ++ Lib.itoa (x.size : Int) ++ [58] ++ x.data.toList := by
    rw [List.take_add_one, h, wtext_app]
    simp [wtext]
  refine ⟨e, ?_⟩
  have h1 := congrArg wtext (List.take_append_drop (i + 1) xs)
  rw [wtext_app] at h1
  have h2 := congrArg List.length h1
  have h3 := congrArg List.length e
  rw [List.length_append] at h2
  rw [List.length_append, List.length_append, List.length_append] at h3
  have e2 : x.data.toList.length = x.size := rfl
  have e3 : ([58] : Text).length = 1 := rfl
  omega

set_option maxHeartbeats 2000000 in
set_option maxRecDepth 20000 in
theorem words_any (ao : Option Addr) (cap : Nat) (xs : List ByteArray) (w : World) (hG : Gl w) (hn : xs.length ≤ 1099511627776) (hx : ∀ j x, xs[j]? = some x → ∃ g, ao = some ⟨g, 0, none⟩ ∧ w.cell? ⟨g, j, none⟩ = some (.string x)) (hl : (wtext xs).length ≤ 1099511627776) :
    Calls Tryz.prog 96 #[.slice ao xs.length cap] w fun e w' => e = .returned (.string ⟨(wtext xs).toArray⟩) ∧ Fresh w w' := by
  have k0 : Hid (Fresh w (w.alloc (.cells #[.pointer none, .slice none 0 0] 108))) := (Keeps.refl _ w).alloc _
  have h0 : Hid (OB (w.alloc (.cells #[.pointer none, .slice none 0 0] 108)) w.heap.size w.heap.size []) := OB.new w
  have HX : Hid (∀ j x, xs[j]? = some x → ∃ g, ao = some ⟨g, 0, none⟩ ∧ w.cell? ⟨g, j, none⟩ = some (.string x)) := hx
  clear hx
  go_enter Tryz.func96, Tryz.ntmps96
  go_wp2_with fail
  go_loopw [8] (fun t8 wr => ∃ (i : Nat), i ≤ xs.length ∧ t8 = .int .i64 i ∧ OB wr w.heap.size w.heap.size (wtext (xs.take i)) ∧ Fresh w wr) (fun t8 _ => xs.length - (intOf t8).toNat)
  case atStart => exact ⟨0, Nat.zero_le _, rfl, h0.out, k0.out⟩
  case round =>
    obtain ⟨i, hile, rfl, hO, kk⟩ := hrel
    clear k0 h0
    by_cases hlt : i < xs.length
    · obtain ⟨x, hs⟩ : ∃ x, xs[i]? = some x := ⟨xs[i], List.getElem?_eq_getElem hlt⟩
      obtain ⟨g, rfl, hc⟩ := HX.out i x hs
      have hcell : wr.cell? ⟨g, i, none⟩ = some (.string x) := cell_keeps kk hc (fun e => e)
      have hT := wtext_next hs
      have hxs : x.size ≤ 1099511627776 := by omega
      have hcI := Tryz.strconv_Itoa (x.size : Int) (by omega) (by omega) wr (hG.fresh kk).tab
      obtain ⟨I, hI⟩ : ∃ I : ByteArray, I = ⟨(Lib.itoa (x.size : Int)).toArray⟩ := ⟨_, rfl⟩
      rw [← hI] at hcI
      have eI : I.data.toList = Lib.itoa (x.size : Int) := by rw [hI]
      rw [← eI] at hT
      have eI2 : I.data.toList.length = I.size := rfl
      rw [eI2] at hT
      have HT : Hid _ := hT.1
      have hT2 := hT.2
      have HO : Hid (OB wr w.heap.size w.heap.size (wtext (xs.take i))) := hO
      clear hI eI hT hs hc hO eI2
      have z1 : (0 : Int) ≤ (i : Int) := by omega
      have z2 : (i : Int) < (xs.length : Int) := by omega
      go_wp2_with fail
      refine hcI.mono ?_
      rintro e w1 ⟨rfl, q, os, rfl⟩
      have k1 : Fresh wr (Sort.grow (wr.drewN q) os) := fresh_grow _ _ _
      generalize Sort.grow (wr.drewN q) os = w1 at *
      have O1 := HO.out.keep k1 (fun _ _ e => e) (Nat.le_refl _)
      have c1 := writeString_own _ _ _ I w1 O1 (Nat.le_refl _) (by omega)
      clear O1 hcI hcell
      go_wp2_with fail
      refine c1.mono ?_
      rintro e w2 ⟨rfl, O2, k2⟩
      have c2 := writeByte_own _ _ _ 58 w2 O2 (Nat.le_refl _) (by rw [List.length_append]; have : I.data.toList.length = I.size := rfl; omega)
      clear O2 c1
      go_wp2_with fail
      refine c2.mono ?_
      rintro e w3 ⟨rfl, O3, k3⟩
      have c3 := writeString_own _ _ _ x w3 O3 (Nat.le_refl _) (by rw [List.length_append, List.length_append]; have : I.data.toList.length = I.size := rfl; have : ([58] : Text).length = 1 := rfl; omega)
      clear O3 c2
      go_wp2_with fail
      refine c3.mono ?_
      rintro e w4 ⟨rfl, O4, k4⟩
      rw [← HT.out] at O4
      have HO4 : Hid (OB w4 w.heap.size w.heap.size (wtext (xs.take (i + 1)))) := O4
      have K4 : Fresh w w4 := ((((kk.trans k1).then k2 (fun i hi e => by omega)).then k3 (fun i hi e => by omega)).then k4 (fun i hi e => by omega))
      clear O4 c3 k1 k2 k3 k4
      go_wp2_with fail
      go_roundw
      case rel => exact ⟨i + 1, by omega, by go_num, HO4.out, K4⟩
      case measure => simp [intOf]; omega
    · have hi : i = xs.length := by omega
      subst hi
      rw [List.take_length] at hO
      have c1 := string_own _ _ _ wr hO
      clear hO
      go_wp2_with fail
      refine c1.mono ?_
      rintro e w1 ⟨rfl, k1⟩
      clear c1
      go_wp2_with fail
      go_ret
      exact ⟨rfl, kk.then k1 (fun i hi e => by omega)⟩

end Go.Proofs.YtegbkpjcjlihmabGreatDoor
