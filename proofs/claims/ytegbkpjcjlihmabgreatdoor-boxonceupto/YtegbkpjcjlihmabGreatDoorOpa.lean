/-
  The disk's small calls: New, Stop, runs, and the kept functions.
-/
import Derived.Test.YtegbkpjcjlihmabGreatDoorDsk
import Derived.Laws.Externs
import Derived.Carry
namespace Go.Proofs.YtegbkpjcjlihmabGreatDoor
open Go.RowKit Go.Maps

theorem nodup_le : ∀ {l K : List Text}, l.Nodup → (∀ s ∈ l, s ∈ K) → l.length ≤ K.length
  | [], _, _, _ => Nat.zero_le _
  | a :: l, K, hn, hs => by
    have ha : a ∈ K := hs a (by simp)
    have h1 := nodup_le (l := l) (K := K.erase a) (List.nodup_cons.1 hn).2 (fun s hs' => by
      have hne : s ≠ a := fun e => (List.nodup_cons.1 hn).1 (e ▸ hs')
      exact (List.mem_erase_of_ne hne).2 (hs s (by simp [hs'])))
    rw [List.length_erase_of_mem ha] at h1
    have : 0 < K.length := List.length_pos_of_mem ha
    simp only [List.length_cons]
    omega

/-- as many entries as there are names -/
theorem MapAt.within {w : World} {m n : Nat} {M : Names} (h : MapAt w m n M) {K : List Text} (hK : ∀ s, (M s).isSome = true → s ∈ K) : MapAt w m K.length M := by
  obtain ⟨D, ho, hk⟩ := h
  obtain ⟨⟨ss, hss, hnd, hmem⟩, hlen, _⟩ := MapAt.sorted ho (fun s => (hk s).1) (List.Perm.refl (strKeys D))
  have hle : (strKeys D).length ≤ K.length := by
    have h1 : ((strKeys D).mergeSort leB).length = (strKeys D).length := List.length_mergeSort _
    rw [← h1, hss, List.length_mergeSort]
    exact nodup_le hnd (fun s hs => hK s ((hmem s).1 hs))
  refine ⟨D, ?_, hk⟩
  obtain ⟨es, clock, hb, F, hs, hD⟩ := ho
  refine ⟨es, clock, hb, F, ?_, hD⟩
  rw [hD] at hle
  have : (strKeys (DataW.map ((es.toList.map (WideElems.rg Tryz.prog 9 fileR)).foldr DataW.insert []))).length = es.size := by
    simp [strKeys, length_sorted]
  omega

def Dk.empty : Dk := ⟨fun _ => none, fun _ => none, [], none, [], fun _ => [], fun _ => 0⟩

set_option maxHeartbeats 1000000 in
theorem new_any (n : Nat) (w : World) : Calls Tryz.prog 13 #[] w fun e w' => ∃ d, e = .returned (ptr d) ∧ DiskAt w' (ext (fun _ => False) w w') d n Dk.empty ∧ Fresh w w' := by
  have hmm := @run_makeMap Tryz.prog
  go_enter Tryz.func13, Tryz.ntmps13
  go_wp2
  go_ret
  have h1 := mapAt_made w n
  have h2 := mapAt_made (w.alloc (.map #[] 0)) n
  have e1 : (w.alloc (.map #[] 0)).heap.size = w.heap.size + 1 := by simp
  rw [e1] at h2
  refine ⟨w.heap.size + 2, rfl, ⟨w.heap.size, w.heap.size + 1, .slice none 0 0, [], fun _ => .slice none 0 0, ?_⟩, (((Keeps.refl (fun _ => False) w).alloc _).alloc _).alloc _⟩
  have k2 : Fresh (w.alloc (.map #[] 0)) ((w.alloc (.map #[] 0)).alloc (.map #[] 0)) := (Keeps.refl _ _).alloc _
  have k3 : Fresh ((w.alloc (.map #[] 0)).alloc (.map #[] 0)) (((w.alloc (.map #[] 0)).alloc (.map #[] 0)).alloc (.cells (headOf w.heap.size (w.heap.size + 1) (.slice none 0 0) none) 96)) := (Keeps.refl _ _).alloc _
  exact {
    head := by
      have := heap_alloc_new ((w.alloc (.map #[] 0)).alloc (.map #[] 0)) (.cells (headOf w.heap.size (w.heap.size + 1) (.slice none 0 0) none) 96)
      simpa [headOf, Dk.empty] using this
    now := k3.mapAt (k2.mapAt h1 (fun e => e)) (fun e => e)
    safe := k3.mapAt h2 (fun e => e)
    apart := by omega
    row := World.ownsRow_nil _ _ _ _
    len := rfl
    chg := fun i v c hv => by simp at hv
    files := fun x hx => by cases hx
    bufs := fun x hx => by cases hx
    ownD := .inr (by simp)
    ownN := .inr (by simp; omega)
    ownS := .inr (by simp)
    ownR := fun k hk => by simp [Value.ownBlock] at hk
    ownX := fun x hx => by cases hx
    ownB := fun x hx => by cases hx }

/-- has it stopped? -/
def Dk.dead (σ : Dk) : Bool := σ.left == some 0
/-- a call that writes has begun -/
def Dk.tick (σ : Dk) : Dk := { σ with left := σ.left.map (· - 1) }

section
variable {w : World} {A : Nat → Prop} {d n : Nat} {σ : Dk} {mn ms : Nat} {cv : Value} {vals : List Value} {bv : Nat → Value}

theorem Inner.cell3 (h : Inner w A d n σ mn ms cv vals bv) : w.cell? ⟨d, 3, none⟩ = some (.bool σ.left.isSome) := by rw [Lib.cell_of_heap h.head]; rfl
theorem Inner.cell4 (h : Inner w A d n σ mn ms cv vals bv) : w.cell? ⟨d, 4, none⟩ = some (.int .i64 ((σ.left.getD 0 : Nat) : Int)) := by rw [Lib.cell_of_heap h.head]; rfl
theorem Inner.cell0 (h : Inner w A d n σ mn ms cv vals bv) : w.cell? ⟨d, 0, none⟩ = some (.map (some mn)) := by rw [Lib.cell_of_heap h.head]; rfl
theorem Inner.cell1 (h : Inner w A d n σ mn ms cv vals bv) : w.cell? ⟨d, 1, none⟩ = some (.map (some ms)) := by rw [Lib.cell_of_heap h.head]; rfl
theorem Inner.cell2 (h : Inner w A d n σ mn ms cv vals bv) : w.cell? ⟨d, 2, none⟩ = some cv := by rw [Lib.cell_of_heap h.head]; rfl
theorem Inner.frozen (h : Inner w A d n σ mn ms cv vals bv) (i : Nat) : w.frozen? ⟨d, i, none⟩ = false := Lib.frozen_of_heap h.head i

set_option maxHeartbeats 1000000 in
theorem runs_any (h : Inner w A d n σ mn ms cv vals bv) (hl : ∀ l, σ.left = some l → l < 9223372036854775808) :
    Calls Tryz.prog 47 #[ptr d] w fun e w' => e = .returned (.bool (!σ.dead)) ∧ Inner w' A d n σ.tick mn ms cv vals bv ∧ Keeps (fun k => k = d) w w' ∧ w'.heap.size = w.heap.size := by
  have c3 := h.cell3
  have c4 := h.cell4
  have f4 := h.frozen 4
  have H : Hid (Inner w A d n σ mn ms cv vals bv) := h
  unfold ptr
  rcases hs : σ.left with _ | _ | m
  · rw [hs] at c3 c4
    have HS : Hid (σ.left = none) := hs
    clear hs hl h
    simp only [Option.isSome] at c3
    go_enter Tryz.func47, Tryz.ntmps47
    go_wp2
    go_ret
    have hs := HS.out
    refine ⟨by simp [Dk.dead, hs], ?_, Keeps.refl _ _, rfl⟩
    have : σ.tick = σ := by cases σ; simp only at hs; simp [Dk.tick, hs]
    rw [this]; exact H.out
  · rw [hs] at c3 c4
    have HS : Hid (σ.left = some 0) := hs
    clear hs hl h
    simp only [Option.isSome, Option.getD] at c3 c4
    go_enter Tryz.func47, Tryz.ntmps47
    go_wp2
    go_ret
    have hs := HS.out
    refine ⟨by simp [Dk.dead, hs], ?_, Keeps.refl _ _, rfl⟩
    have : σ.tick = σ := by cases σ; simp only at hs; simp [Dk.tick, hs]
    rw [this]; exact H.out
  · rw [hs] at c3 c4
    have hm := hl _ hs
    have HS : Hid (σ.left = some (m + 1)) := hs
    clear hs hl h
    simp only [Option.isSome, Option.getD] at c3 c4
    have hb : (((m + 1 : Nat) : Int) == 0) = false := by simp; omega
    go_enter Tryz.func47, Tryz.ntmps47
    go_wp2
    go_ret
    have hs := HS.out
    have hh := heap_setCell_at H.out.head 4 (.int .i64 (m : Int))
    have k1 : Keeps (fun k => k = d) w (w.setCell ⟨d, 4, none⟩ (.int .i64 (m : Int))) := (Keeps.refl (fun k => k = d) w).setCell (p := ⟨d, 4, none⟩) (fun _ => rfl) _
    refine ⟨by simp [Dk.dead, hs], ?_, k1, by simp [World.setCell]⟩
    have ht : σ.tick = { σ with left := some m } := by simp [Dk.tick, hs]
    rw [ht]
    refine H.out.setLeft ?_ k1
    rw [hh, hs]
    rfl

set_option maxHeartbeats 1000000 in
theorem stop_any (h : Inner w A d n σ mn ms cv vals bv) (l : Int) :
    Calls Tryz.prog 28 #[ptr d, .int .i64 l] w fun e w' => e = .returned (.tuple #[]) ∧ Inner w' A d n { σ with left := some l.toNat } mn ms cv vals bv ∧ Keeps (fun k => k = d) w w' ∧ w'.heap.size = w.heap.size := by
  have c3 := h.cell3
  have f3 := h.frozen 3
  have hh3 := heap_setCell_at h.head 3 (.bool true)
  have c4 : (w.setCell ⟨d, 3, none⟩ (.bool true)).cell? ⟨d, 4, none⟩ = some (.int .i64 ((σ.left.getD 0 : Nat) : Int)) := by rw [Lib.cell_of_heap hh3]; rfl
  have f4 : (w.setCell ⟨d, 3, none⟩ (.bool true)).frozen? ⟨d, 4, none⟩ = false := Lib.frozen_of_heap hh3 4
  have H : Hid (Inner w A d n σ mn ms cv vals bv) := h
  clear h
  unfold ptr
  go_enter Tryz.func28, Tryz.ntmps28
  go_wp2
  go_end0
  have e : (max l 0 : Int) = ((l.toNat : Nat) : Int) := by omega
  rw [e]
  have k1 : Keeps (fun k => k = d) w ((w.setCell ⟨d, 3, none⟩ (.bool true)).setCell ⟨d, 4, none⟩ (.int .i64 ((l.toNat : Nat) : Int))) :=
    ((Keeps.refl (fun k => k = d) w).setCell (p := ⟨d, 3, none⟩) (fun _ => rfl) _).setCell (p := ⟨d, 4, none⟩) (fun _ => rfl) _
  refine ⟨rfl, H.out.setLeft ?_ k1, k1, by simp [World.setCell]⟩
  rw [heap_setCell_at hh3]
  rfl

set_option maxHeartbeats 1000000 in
theorem create1_any (m k : Nat) (M : Names) (w : World) (h : MapAt w m k M) (hk : k < maxLen) (p q x : Nat) (b : ByteArray) (hp : w.heap[p]? = some (.cells #[ptr x] 98 (0, 0))) (hq : w.heap[q]? = some (.cells #[.string b] 9 (0, 0))) (hb : b.size ≤ maxLen) :
    Calls Tryz.prog 49 #[.map (some m), ptr p, ptr q] w fun e w' => e = .returned (.tuple #[]) ∧ MapAt w' m (k + 1) (putN M b.data.toList x) ∧ Keeps (fun i => i = m) w w' ∧ w'.heap.size = w.heap.size := by
  obtain ⟨w', hr, h1, h2, h3⟩ := h.put hk b hb x
  have c0 : w.cell? ⟨p, 0, none⟩ = some (ptr x) := by rw [Lib.cell_of_heap hp]; rfl
  have c1 : w.cell? ⟨q, 0, none⟩ = some (.string b) := by rw [Lib.cell_of_heap hq]; rfl
  clear hp hq h
  unfold ptr at *
  go_enter Tryz.func49, Tryz.ntmps49
  go_wp2
  go_end0
  exact ⟨rfl, h1, h2, h3⟩

set_option maxHeartbeats 1000000 in
theorem remove1_any (m k : Nat) (M : Names) (w : World) (h : MapAt w m k M) (q : Nat) (b : ByteArray) (hq : w.heap[q]? = some (.cells #[.string b] 9 (0, 0))) (hb : b.size ≤ maxLen) :
    Calls Tryz.prog 124 #[.map (some m), ptr q] w fun e w' => e = .returned (.tuple #[]) ∧ MapAt w' m k (delN M b.data.toList) ∧ Keeps (fun i => i = m) w w' ∧ w'.heap.size = w.heap.size := by
  obtain ⟨w', hr, h1, h2, h3⟩ := h.del b hb 0
  have c1 : w.cell? ⟨q, 0, none⟩ = some (.string b) := by rw [Lib.cell_of_heap hq]; rfl
  clear hq h
  unfold ptr at *
  go_enter Tryz.func124, Tryz.ntmps124
  go_wp2
  go_end0
  exact ⟨rfl, h1, h2, h3⟩

set_option maxHeartbeats 1000000 in
theorem rename1_any (m k : Nat) (M : Names) (w : World) (h : MapAt w m k M) (hk : k < maxLen) (p q r x : Nat) (b c : ByteArray) (hp : w.heap[p]? = some (.cells #[.string b] 9 (0, 0))) (hq : w.heap[q]? = some (.cells #[ptr x] 98 (0, 0))) (hr0 : w.heap[r]? = some (.cells #[.string c] 9 (0, 0))) (hb : b.size ≤ maxLen) (hc : c.size ≤ maxLen) :
    Calls Tryz.prog 97 #[.map (some m), ptr p, ptr q, ptr r] w fun e w' => e = .returned (.tuple #[]) ∧ MapAt w' m (k + 1) (putN (delN M b.data.toList) c.data.toList x) ∧ Keeps (fun i => i = m) w w' ∧ w'.heap.size = w.heap.size := by
  obtain ⟨w1, hr, h1, h2, h3⟩ := h.del b hb 0
  obtain ⟨w2, hr2, h12, h22, h32⟩ := h1.put hk c hc x
  have c0 : w.cell? ⟨p, 0, none⟩ = some (.string b) := by rw [Lib.cell_of_heap hp]; rfl
  have hm := h.tag
  have c1 : w1.cell? ⟨q, 0, none⟩ = some (ptr x) := by rw [Lib.cell_of_heap (h2.heap hq (fun e => ne_of_tag (tag_cells hq) hm (by decide) e))]; rfl
  have c2 : w1.cell? ⟨r, 0, none⟩ = some (.string c) := by rw [Lib.cell_of_heap (h2.heap hr0 (fun e => ne_of_tag (tag_cells hr0) hm (by decide) e))]; rfl
  clear hp hq hr0 hm h h1
  unfold ptr at *
  go_enter Tryz.func97, Tryz.ntmps97
  go_wp2
  go_end0
  exact ⟨rfl, h12, h2.trans h22, by omega⟩
end
end Go.Proofs.YtegbkpjcjlihmabGreatDoor
