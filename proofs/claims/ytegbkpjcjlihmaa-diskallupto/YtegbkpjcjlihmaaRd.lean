/-
  The reference disk in memory: New, dead, Stop, Now, at, Read, SyncDir.
-/
import Derived.Test.YtegbkpjcjlihmaaRc
import Derived.Test.YtegbkpjcjlihmaaCr
namespace Go.Proofs.Ytegbkpjcjlihmaa
open Go.RowKit Go.Maps

/-- what the reference is -/
structure Rf where
  files : List (Text × Nat)
  log : List (List Ent)
  left : Int

structure RefIn (w : World) (A : Nat → Prop) (r : Nat) (ρ : Rf) (fv lv : Value) (vals : List Value) : Prop where
  head : w.heap[r]? = some (.cells #[fv, lv, .int .i64 ρ.left] 84 (0, 0))
  files : w.ownsRow 0 112 2 fv ρ.files.length (rowOf ρ.files)
  log : w.ownsRow 0 109 1 lv vals.length vals
  len : vals.length = ρ.log.length
  ents : ∀ (i : Nat) v l, vals[i]? = some v → ρ.log[i]? = some l → EntsAt w 0 v l
  ownR : A r
  ownF : ∀ k, fv.ownBlock = some k → A k
  ownL : ∀ k, lv.ownBlock = some k → A k
  ownE : ∀ (i : Nat) v, vals[i]? = some v → ∀ k, v.ownBlock = some k → A k

def RefAt (w : World) (A : Nat → Prop) (r : Nat) (ρ : Rf) : Prop := ∃ fv lv vals, RefIn w A r ρ fv lv vals

section
variable {w : World} {A : Nat → Prop} {r : Nat} {ρ : Rf} {fv lv : Value} {vals : List Value}

theorem RefIn.tagR (h : RefIn w A r ρ fv lv vals) : tag w r = some 84 := tag_cells h.head
theorem RefIn.tagF (h : RefIn w A r ρ fv lv vals) {k : Nat} (hk : fv.ownBlock = some k) : tag w k = some 112 := owns_tag h.files hk
theorem RefIn.tagL (h : RefIn w A r ρ fv lv vals) {k : Nat} (hk : lv.ownBlock = some k) : tag w k = some 109 := owns_tag h.log hk

theorem RefIn.get (h : RefIn w A r ρ fv lv vals) {i : Nat} {v : Value} (hv : vals[i]? = some v) : ∃ l, ρ.log[i]? = some l ∧ EntsAt w 0 v l := by
  have hlt : i < ρ.log.length := by rw [← h.len]; exact (List.getElem?_eq_some_iff.1 hv).1
  exact ⟨_, List.getElem?_eq_getElem hlt, h.ents i v _ hv (List.getElem?_eq_getElem hlt)⟩

theorem RefIn.tagE (h : RefIn w A r ρ fv lv vals) {i : Nat} {v : Value} (hv : vals[i]? = some v) {k : Nat} (hk : v.ownBlock = some k) : tag w k = some 115 := by
  obtain ⟨l, _, he⟩ := h.get hv
  exact owns_tag he hk

theorem RefIn.kept (h : RefIn w A r ρ fv lv vals) {S A' : Nat → Prop} {w' : World} (k : Keeps S w w') (hS : ∀ i, A i → ¬ S i) (hA : ∀ i, A i → A' i) : RefIn w' A' r ρ fv lv vals where
  head := k.heap h.head (hS _ h.ownR)
  files := k.owns h.files (fun i hi => hS i (h.ownF i hi))
  log := k.owns h.log (fun i hi => hS i (h.ownL i hi))
  len := h.len
  ents := fun i v l hv hl => k.owns (h.ents i v l hv hl) (fun j hj => hS j (h.ownE i v hv j hj))
  ownR := hA _ h.ownR
  ownF := fun i hi => hA _ (h.ownF i hi)
  ownL := fun i hi => hA _ (h.ownL i hi)
  ownE := fun i v hv j hj => hA _ (h.ownE i v hv j hj)

/-- its row is set: its number -/
theorem RefIn.setLeft (h : RefIn w A r ρ fv lv vals) {w' : World} {left : Int} (hh : w'.heap[r]? = some (.cells #[fv, lv, .int .i64 left] 84 (0, 0))) (k : Keeps (fun i => i = r) w w') : RefIn w' A r { ρ with left := left } fv lv vals where
  head := hh
  files := k.owns h.files (fun i hi e => ne_of_tag (h.tagF hi) h.tagR (by decide) e)
  log := k.owns h.log (fun i hi e => ne_of_tag (h.tagL hi) h.tagR (by decide) e)
  len := h.len
  ents := fun i v l hv hl => k.owns (h.ents i v l hv hl) (fun j hj e => ne_of_tag (h.tagE hv hj) h.tagR (by decide) e)
  ownR := h.ownR
  ownF := h.ownF
  ownL := h.ownL
  ownE := h.ownE

/-- its row is set: its log -/
theorem RefIn.setLog (h : RefIn w A r ρ fv lv vals) {A' : Nat → Prop} {w' : World} {lv' : Value} {vals' : List Value} {log : List (List Ent)} (hh : w'.heap[r]? = some (.cells #[fv, lv', .int .i64 ρ.left] 84 (0, 0))) (k : Keeps (fun i => i = r ∨ lv.ownBlock = some i) w w') (hA : ∀ i, A i → A' i)
    (hlog : w'.ownsRow 0 109 1 lv' vals'.length vals') (hlen : vals'.length = log.length) (hents : ∀ (i : Nat) v l, vals'[i]? = some v → log[i]? = some l → EntsAt w' 0 v l)
    (hL : ∀ k, lv'.ownBlock = some k → A' k) (hE : ∀ (i : Nat) v, vals'[i]? = some v → ∀ k, v.ownBlock = some k → A' k) : RefIn w' A' r { ρ with log := log } fv lv' vals' where
  head := hh
  files := k.owns h.files (fun i hi e => e.elim (fun e => ne_of_tag (h.tagF hi) h.tagR (by decide) e) (fun e => ne_of_tag (h.tagF hi) (h.tagL e) (by decide) rfl))
  log := hlog
  len := hlen
  ents := hents
  ownR := hA _ h.ownR
  ownF := fun i hi => hA _ (h.ownF i hi)
  ownL := hL
  ownE := hE

/-- a row of names stays -/
theorem RefIn.entKept (h : RefIn w A r ρ fv lv vals) {S : Nat → Prop} {w' : World} (k : Keeps S w w') (hS : ∀ j, tag w j = some 115 → ¬ S j) {i : Nat} {v : Value} {l : List Ent} (hv : vals[i]? = some v) (hl : ρ.log[i]? = some l) : EntsAt w' 0 v l :=
  k.owns (h.ents i v l hv hl) (fun j hj => hS j (h.tagE hv hj))

def Rf.empty : Rf := ⟨[], [[]], -1⟩

set_option maxHeartbeats 1000000 in
theorem rnew_any (w : World) : Calls Try.prog 21 #[] w fun e w' => ∃ r, e = .returned (ptr r) ∧ RefAt w' (ext (fun _ => False) w w') r Rf.empty ∧ Fresh w w' := by
  go_enter Try.func21, Try.ntmps21
  go_wp2
  go_ret
  refine ⟨w.heap.size + 1, rfl, ⟨.slice none 0 0, .slice (some ⟨w.heap.size, 0, none⟩) 1 1, [.slice none 0 0], ?_⟩, ((Keeps.refl (fun _ => False) w).alloc _).alloc _⟩
  have h1 : ((w.alloc (.cells #[.slice none 0 0] 109)).alloc (.cells #[.slice none 0 0, .slice (some ⟨w.heap.size, 0, none⟩) 1 1, .int .i64 (-1)] 84)).heap[w.heap.size]? = some (.cells #[.slice none 0 0] 109 (0, 0)) := by
    rw [Lib.alloc_old _ _ _ (by simp)]; exact heap_alloc_new w _
  exact {
    head := by
      have := heap_alloc_new (w.alloc (.cells #[.slice none 0 0] 109)) (.cells #[.slice none 0 0, .slice (some ⟨w.heap.size, 0, none⟩) 1 1, .int .i64 (-1)] 84)
      simpa [Rf.empty] using this
    files := World.ownsRow_nil _ _ _ _
    log := ⟨rfl, .inr ⟨w.heap.size, 1, #[.slice none 0 0], rfl, Nat.zero_le _, h1, Nat.le_refl _, by unfold maxLen; omega, rfl, rfl⟩⟩
    len := rfl
    ents := fun i v l hv hl => by
      match i, hv, hl with
      | 0, hv, hl =>
        simp [Rf.empty] at hv hl
        subst hv hl
        exact World.ownsRow_nil _ _ _ _
    ownR := .inr (by simp)
    ownF := fun k hk => by simp [Value.ownBlock] at hk
    ownL := fun k hk => by simp [Value.ownBlock] at hk; subst hk; exact .inr (by simp; omega)
    ownE := fun i v hv k hk => by
      match i, hv with
      | 0, hv => simp at hv; subst hv; simp [Value.ownBlock] at hk }

def Rf.tick (ρ : Rf) : Rf := { ρ with left := if 0 < ρ.left then ρ.left - 1 else ρ.left }

theorem RefIn.cells (h : RefIn w A r ρ fv lv vals) (W : World) (hW : W.heap[r]? = w.heap[r]?) : W.cell? ⟨r, 0, none⟩ = some fv ∧ W.cell? ⟨r, 1, none⟩ = some lv ∧ W.cell? ⟨r, 2, none⟩ = some (.int .i64 ρ.left) ∧ (∀ i, W.frozen? ⟨r, i, none⟩ = false) := by
  have hh : W.heap[r]? = some (.cells #[fv, lv, .int .i64 ρ.left] 84 (0, 0)) := hW.trans h.head
  refine ⟨?_, ?_, ?_, fun i => Lib.frozen_of_heap hh i⟩ <;> rw [Lib.cell_of_heap hh] <;> rfl

set_option maxHeartbeats 1000000 in
theorem rdead_any (h : RefIn w A r ρ fv lv vals) (hl : -1 ≤ ρ.left ∧ ρ.left < 9223372036854775808) :
    Calls Try.prog 73 #[ptr r] w fun e w' => e = .returned (.bool (ρ.left == 0)) ∧ RefIn w' A r ρ.tick fv lv vals ∧ Keeps (fun k => k = r) w w' ∧ w'.heap.size = w.heap.size := by
  obtain ⟨_, _, c2, fz⟩ := h.cells w rfl
  have f2 := fz 2
  have H : Hid (RefIn w A r ρ fv lv vals) := h
  obtain ⟨n, hn⟩ : ∃ n, n = ρ.left := ⟨_, rfl⟩
  rw [← hn] at c2 hl
  have HN : Hid (n = ρ.left) := hn
  clear h hn fz
  unfold ptr
  by_cases h0 : n = 0
  · subst h0
    go_enter Try.func73, Try.ntmps73
    go_wp2
    go_ret
    have hn := HN.out
    refine ⟨by rw [← hn]; rfl, ?_, Keeps.refl _ _, rfl⟩
    have : ρ.tick = ρ := by cases ρ; simp only at hn; simp [Rf.tick, ← hn]
    rw [this]; exact H.out
  · have hb : (n == 0) = false := by simpa using h0
    by_cases hp : 0 < n
    · have hd : decide (0 < n) = true := by simpa using hp
      have hw1 : IntKind.i64.wrap (n - 1) = n - 1 := IntWalk.i64_in _ ⟨by omega, by omega⟩
      go_enter Try.func73, Try.ntmps73
      go_wp2
      go_ret
      have hn := HN.out
      have k1 : Keeps (fun k => k = r) w (w.setCell ⟨r, 2, none⟩ (.int .i64 (n - 1))) := (Keeps.refl (fun k => k = r) w).setCell (p := ⟨r, 2, none⟩) (fun _ => rfl) _
      refine ⟨by rw [← hn, hb]; rfl, ?_, k1, by simp [World.setCell]⟩
      have ht : ρ.tick = { ρ with left := n - 1 } := by simp [Rf.tick, ← hn, hp]
      rw [ht]
      refine H.out.setLeft ?_ k1
      rw [heap_setCell_at H.out.head]
      rfl
    · have hd : decide (0 < n) = false := by simpa using hp
      go_enter Try.func73, Try.ntmps73
      go_wp2
      go_ret
      have hn := HN.out
      refine ⟨by rw [← hn, hb]; rfl, ?_, Keeps.refl _ _, rfl⟩
      have : ρ.tick = ρ := by
        cases ρ; simp only at hn; subst hn; unfold Rf.tick; rw [if_neg (by simp only; omega)]
      rw [this]; exact H.out

set_option maxHeartbeats 1000000 in
theorem rstop_any (h : RefIn w A r ρ fv lv vals) (l : Int) :
    Calls Try.prog 50 #[ptr r, .int .i64 l] w fun e w' => e = .returned (.tuple #[]) ∧ RefIn w' A r { ρ with left := ((l.toNat : Nat) : Int) } fv lv vals ∧ Keeps (fun k => k = r) w w' := by
  obtain ⟨_, _, c2, fz⟩ := h.cells w rfl
  have f2 := fz 2
  have H : Hid (RefIn w A r ρ fv lv vals) := h
  clear h fz
  unfold ptr
  go_enter Try.func50, Try.ntmps50
  go_wp2
  go_end0
  have e : (max 0 l : Int) = ((l.toNat : Nat) : Int) := by omega
  rw [e]
  have k1 : Keeps (fun k => k = r) w (w.setCell ⟨r, 2, none⟩ (.int .i64 ((l.toNat : Nat) : Int))) := (Keeps.refl (fun k => k = r) w).setCell (p := ⟨r, 2, none⟩) (fun _ => rfl) _
  refine ⟨rfl, H.out.setLeft ?_ k1, k1⟩
  rw [heap_setCell_at H.out.head]
  rfl

/-- the names as they are -/
theorem RefIn.last (h : RefIn w A r ρ fv lv vals) (h0 : ρ.log ≠ []) : ∃ m g cap v l, vals.length = m + 1 ∧ lv = .slice (some ⟨g, 0, none⟩) (m + 1) cap ∧ cap ≤ maxLen ∧ m + 1 ≤ cap ∧ w.cell? ⟨g, m, none⟩ = some v ∧ vals[m]? = some v ∧ ρ.log[m]? = some l ∧ ρ.log.length = m + 1 ∧ EntsAt w 0 v l := by
  have hn : ρ.log.length ≠ 0 := by simpa using h0
  obtain ⟨m, hm⟩ : ∃ m, vals.length = m + 1 := ⟨vals.length - 1, by have := h.len; omega⟩
  obtain ⟨ao, cap, rfl, hc1, hc2, hao⟩ := own_form' h.log
  obtain ⟨g, rfl⟩ := hao (by omega)
  obtain ⟨v, hv⟩ : ∃ v, vals[m]? = some v := ⟨vals[m]'(by omega), List.getElem?_eq_getElem _⟩
  obtain ⟨l, hl, he⟩ := h.get hv
  exact ⟨m, g, cap, v, l, hm, by rw [hm], hc1, by omega, own_cell' h.log m v hv, hv, hl, by rw [← h.len]; exact hm, he⟩

set_option maxHeartbeats 1000000 in
theorem rnow_any (h : RefIn w A r ρ fv lv vals) {m : Nat} {v : Value} (hm : vals.length = m + 1) (hv : vals[m]? = some v) (W : World) (hF : Fresh w W) :
    Calls Try.prog 75 #[ptr r] W fun e w' => e = .returned v ∧ Fresh W w' := by
  have hI := h.kept (A' := A) hF (fun _ _ e => e) (fun _ h => h)
  obtain ⟨_, c1, _, _⟩ := hI.cells W rfl
  obtain ⟨ao, cap, rfl, hc1, hc2, hao⟩ := own_form' hI.log
  obtain ⟨g, rfl⟩ := hao (by omega)
  have cv := own_cell' hI.log m v hv
  rw [hm] at c1 hc2
  unfold maxLen at hc1
  have z1 : (m : Int) < ((m + 1 : Nat) : Int) := by omega
  clear hI h hao
  unfold ptr
  go_enter Try.func75, Try.ntmps75
  go_wp2_with fail
  go_quiet (fail)
  go_wp2
  go_ret
  exact ⟨rfl, (Keeps.refl _ W).drewN _⟩

end
end Go.Proofs.Ytegbkpjcjlihmaa
