/-
  strings.Builder at this dump: WriteString, Reset, String.
-/
import Derived.Test.YtegbkpjcjlihmaaLib
namespace Go.Proofs.Ytegbkpjcjlihmaa
open Go.RowKit

set_option maxRecDepth 20000 in
set_option maxHeartbeats 1000000 in
theorem writeString_any (B b : Nat) (T : TypeId) (cs : Array Value) (v : Value) (l : List UInt8) (s : ByteArray) (w : World) (hT : BType T cs) (hb : w.heap[b]? = some (.cells cs T (0, 0))) (hp : cs[0]? = some (.pointer none) ∨ cs[0]? = some (self b)) (hv : cs[1]? = some v)
    (hown : Buf w B v l) (hne : v.ownBlock ≠ some b) (hlen : l.length + s.size ≤ 140737488355328) (hB : B ≤ w.heap.size) :
    Calls Try.prog 32 #[.pointer (some ⟨b, 0, none⟩), .string s] w fun e w' => e = .returned (.tuple #[.int .i64 s.size, .nilIface]) ∧ ∃ v', w'.heap[b]? = some (.cells ((cs.setIfInBounds 0 (self b)).setIfInBounds 1 v') T (0, 0)) ∧ Buf w' B v' (l ++ s.data.toList) ∧ v'.ownBlock ≠ some b ∧
      Newer w v v' ∧ Keeps (fun k => k = b ∨ v.ownBlock = some k) w w' := by
  obtain ⟨i0, hi, hz0, hz1, hz2⟩ := infoByte'
  have h2 := btype_two hT
  have hlt := heap_lt hb
  go_enter Try.func32, Try.ntmps32
  go_wp2_with (go_at_call 60; refine (copyCheck_any b T cs _ hT hb hp).mono ?_)
  rintro e w1 ⟨rfl, hb1, k1⟩
  have hsz1 := k1.size
  have c1 : w1.cell? ⟨b, 1, none⟩ = some v := by rw [Lib.cell_of_heap hb1]; simpa [Array.getElem?_setIfInBounds] using hv
  have ho1 : w1.ownsRow B 5 1 v l.length (Lib.byteCells l) := k1.owns hown.1 (fun k hk e => hne (by rw [hk, e]))
  go_wp2_with (at_builtin; refine wpList_append_placed_string _ rfl _ _ 58 9 rfl B 5 i0 Try.underlying58 Try.underlying9 hi hz0 hz1 hz2 _ _ _ rfl ho1 s rfl ?c3 ?c4 ?c5 ?_)
  case c3 => unfold maxLen; omega
  case c4 => omega
  case c5 => omega
  intro v' w2 hown' hgrow hpl hiff
  have hb2 : w2.heap[b]? = some (.cells (cs.setIfInBounds 0 (self b)) T (0, 0)) := by
    rw [hgrow.block b (by omega) (fun e => hne e.symm)]
    exact hb1
  have d1 : w2.cell? ⟨b, 1, none⟩ = some v := by rw [Lib.cell_of_heap hb2]; simpa [Array.getElem?_setIfInBounds] using hv
  have f1 : w2.frozen? ⟨b, 1, none⟩ = false := Lib.frozen_of_heap hb2 1
  have Hi : Hid (l ++ s.data.toList = [] → v' = .slice none 0 0) := fun e => by
    rw [List.append_eq_nil_iff] at e
    refine hiff.2 ⟨hown.2 e.1, ?_⟩
    have := congrArg List.length e.2
    rw [Array.length_toList] at this
    exact this
  clear hiff
  obtain ⟨ao, n', cap, rfl⟩ : ∃ ao n' cap, v' = .slice ao n' cap := by
    rcases hown'.2 with ⟨hv, _⟩ | ⟨g, cap, cur, hv, _⟩
    · exact ⟨_, _, _, hv⟩
    · exact ⟨_, _, _, hv⟩
  go_wp2
  go_ret2
  have hnew : Newer w v (.slice ao n' cap) := hpl.lift (w0 := w) (by omega)
  have hgb : (Value.slice ao n' cap).ownBlock ≠ some b := by
    rcases hpl with h | h
    · rw [h]; exact hne
    · rw [h]; simp; omega
  refine ⟨rfl, .slice ao n' cap, heap_setCell_at hb2 1 _, ⟨?_, Hi.out⟩, hgb, hnew, ?_⟩
  · have hk : Keeps (fun k => k = b) w2 (w2.setCell ⟨b, 1, none⟩ (.slice ao n' cap)) := (Keeps.refl (fun k => k = b) w2).setCell (p := ⟨b, 1, none⟩) (fun _ => rfl) _
    refine hk.owns (by simpa [Lib.byteCells_append, Lib.strCells_eq] using hown') (fun k hk' e => hgb (by rw [hk', e]))
  · have a1 : Keeps (fun k => k = b ∨ v.ownBlock = some k) w w1 := k1.mono (fun _ _ e => .inl e)
    exact (a1.grown hgrow (fun k hk _ => .inr hk)).setCell (p := ⟨b, 1, none⟩) (fun _ => .inl rfl) _

set_option maxRecDepth 20000 in
set_option maxHeartbeats 1000000 in
theorem reset_any (b : Nat) (T : TypeId) (cs : Array Value) (p v : Value) (w : World) (hb : w.heap[b]? = some (.cells cs T (0, 0))) (hp : cs[0]? = some p) (hv : cs[1]? = some v) :
    Calls Try.prog 80 #[.pointer (some ⟨b, 0, none⟩)] w fun e w' => e = .returned (.tuple #[]) ∧ (w'.heap[b]? = some (.cells ((cs.setIfInBounds 0 (.pointer none)).setIfInBounds 1 (.slice none 0 0)) T (0, 0)) ∧ Keeps (fun k => k = b) w w') := by
  have c0 : w.cell? ⟨b, 0, none⟩ = some p := by rw [Lib.cell_of_heap hb]; exact hp
  have f0 : w.frozen? ⟨b, 0, none⟩ = false := Lib.frozen_of_heap hb 0
  have hb1 := heap_setCell_at hb 0 (.pointer none)
  have c1 : (w.setCell ⟨b, 0, none⟩ (.pointer none)).cell? ⟨b, 1, none⟩ = some v := by rw [Lib.cell_of_heap hb1]; simpa [Array.getElem?_setIfInBounds] using hv
  have f1 : (w.setCell ⟨b, 0, none⟩ (.pointer none)).frozen? ⟨b, 1, none⟩ = false := Lib.frozen_of_heap hb1 1
  go_enter Try.func80, Try.ntmps80
  go_wp2
  go_end0
  exact ⟨rfl, heap_setCell_at hb1 1 _, ((Keeps.refl (fun k => k = b) w).setCell (p := ⟨b, 0, none⟩) (fun _ => rfl) _).setCell (p := ⟨b, 1, none⟩) (fun _ => rfl) _⟩

theorem Keeps.freeze {S : Nat → Prop} {a w : World} (h : Keeps S a w) {p : Addr} (hp : p.block < a.heap.size → S p.block) (n : Nat) : Keeps S a (w.freeze p n) := by
  refine h.then (S' := fun k => k = p.block) ?_ (fun _ hi e => by subst e; exact hp hi)
  have hb := Lib.below_freeze (Below.refl p.block w) (p := p) (Nat.le_refl _) n
  refine ⟨hb.os, hb.tape, hb.output, hb.size, fun k hk hn => ?_⟩
  simp only [World.freeze]
  split
  · rfl
  · simp only [Array.getElem?_modify]
    rw [if_neg (fun e => hn e.symm)]

set_option maxRecDepth 20000 in
set_option maxHeartbeats 1000000 in
theorem string_some (B b : Nat) (T : TypeId) (cs : Array Value) (v : Value) (l : List UInt8) (w : World) (hb : w.heap[b]? = some (.cells cs T (0, 0))) (hv : cs[1]? = some v) (hown : Buf w B v l) (h0 : l ≠ []) :
    Calls Try.prog 33 #[.pointer (some ⟨b, 0, none⟩)] w fun e w' => e = .returned (.string ⟨l.toArray⟩) ∧ Keeps (fun k => v.ownBlock = some k) w w' := by
  have hl0 : l.length ≠ 0 := by simpa using h0
  obtain ⟨g, cap, cur, rfl, hbg, hg, hnc, hcm, hcs, htake⟩ : ∃ g cap cur, v = .slice (some ⟨g, 0, none⟩) l.length cap ∧ B ≤ g ∧ w.heap[g]? = some (.cells cur 5 (0, 0)) ∧ l.length ≤ cap ∧ cap ≤ maxLen ∧ cur.size = cap * 1 ∧ cur.toList.take (l.length * 1) = Lib.byteCells l := by
    rcases hown.1.2 with ⟨_, hz⟩ | ⟨g, cap, cur, hv, r⟩
    · exact absurd hz hl0
    · exact ⟨g, cap, cur, hv, r⟩
  have c1 : w.drew.cell? ⟨b, 1, none⟩ = some (.slice (some ⟨g, 0, none⟩) l.length cap) := by
    have : w.drew.heap[b]? = some (.cells cs T (0, 0)) := hb
    rw [Lib.cell_of_heap this]; exact hv
  have hSD : (Builtin.unsafeSliceData_ #[58] 97 #[.slice (some ⟨g, 0, none⟩) l.length cap]).run Try.prog w.drew = .ok (.pointer (some ⟨g, 0, none⟩)) w.drew :=
    Lib.run_unsafeSliceData_row _ _ _ _ _ _ (by omega)
  have hUS : (Builtin.unsafeString_ #[97, 3] 9 #[.pointer (some ⟨g, 0, none⟩), .int .i64 l.length]).run Try.prog w.drew = .ok (.string ⟨l.toArray⟩) (w.drew.freeze ⟨g, 0, none⟩ l.length) := by
    refine Lib.run_unsafeString_row w.drew 97 3 9 5 Try.underlying97 (by kernel_rfl) g cur.size (by have hg' : w.drew.heap[g]? = some (.cells cur 5 (0, 0)) := hg; simp [World.shape?, hg']) l h0 (by omega) (by unfold maxLen at hcm; omega) ?_
    intro j x hx
    have := hown.1.cells (g := g) rfl j (.int .u8 x.toNat) (by simp [Lib.byteCells, hx])
    exact this
  clear hown htake hcs hb hv
  go_enter Try.func33, Try.ntmps33
  go_wp2
  go_region
  all_goals (go_wp2; go_ret; exact ⟨rfl, Keeps.freeze (S := fun k => (Value.slice (some ⟨g, 0, none⟩) l.length cap).ownBlock = some k) (Keeps.drew (Keeps.refl _ w)) (p := ⟨g, 0, none⟩) (fun _ => rfl) _⟩)

set_option maxRecDepth 20000 in
set_option maxHeartbeats 1000000 in
theorem string_none (b : Nat) (T : TypeId) (cs : Array Value) (w : World) (hb : w.heap[b]? = some (.cells cs T (0, 0))) (hv : cs[1]? = some (.slice none 0 0)) (S : Nat → Prop) :
    Calls Try.prog 33 #[.pointer (some ⟨b, 0, none⟩)] w fun e w' => e = .returned (.string ⟨#[]⟩) ∧ Keeps S w w' := by
  have hUS : ∀ (W : World) (q : Option Addr), (Builtin.unsafeString_ #[97, 3] 9 #[.pointer q, .int .i64 0]).run Try.prog W = .ok (.string .empty) W := fun W q => Lib.run_unsafeString_none W _ _ _ q
  have c1 : w.drew.cell? ⟨b, 1, none⟩ = some (.slice none 0 0) := by
    have : w.drew.heap[b]? = some (.cells cs T (0, 0)) := hb
    rw [Lib.cell_of_heap this]; exact hv
  have hSD : (Builtin.unsafeSliceData_ #[58] 97 #[.slice none 0 0]).run Try.prog w.drew = .ok (.pointer none) w.drew := rfl
  clear hb hv
  go_enter Try.func33, Try.ntmps33
  go_wp2
  go_region
  all_goals (go_wp2; go_ret; exact ⟨rfl, Keeps.drew (Keeps.refl S w)⟩)

theorem string_any (B b : Nat) (T : TypeId) (cs : Array Value) (v : Value) (l : List UInt8) (w : World) (hb : w.heap[b]? = some (.cells cs T (0, 0))) (hv : cs[1]? = some v) (hown : Buf w B v l) :
    Calls Try.prog 33 #[.pointer (some ⟨b, 0, none⟩)] w fun e w' => e = .returned (.string ⟨l.toArray⟩) ∧ Keeps (fun k => v.ownBlock = some k) w w' := by
  by_cases h0 : l = []
  · subst h0
    obtain rfl := hown.2 rfl
    exact string_none b T cs w hb hv _
  · exact string_some B b T cs v l w hb hv hown h0

end Go.Proofs.Ytegbkpjcjlihmaa
