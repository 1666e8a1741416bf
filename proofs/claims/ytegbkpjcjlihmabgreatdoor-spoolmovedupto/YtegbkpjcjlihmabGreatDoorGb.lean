/-
  The disk's small calls: New, Stop, runs, and the kept functions. | do: a change is made, and kept. toWrite: the file that a call is for. | do: a change is made, and kept. toWrite: the file that a call is for.
-/
import Derived.Test.YtegbkpjcjlihmabGreatDoorGa
import Derived.Laws.Externs
import Derived.Carry
namespace Go.Proofs.YtegbkpjcjlihmabGreatDoor
open Go.RowKit Go.Maps

theorem nodup_le : ∀ {l K : List Text}, l.Nodup → (∀ s ∈ l, s ∈ K) → l.length ≤ K.length
  | [], _, _, _ => Nat.zero_le _
  | a :: l, K, hn, hs => by
    have ha : a ∈ K := hs a (by simp)
    have h1 := nodup_le (l := l) (K := K.erase a) (List.nodup_cons.1 hn).2 (fun s hs' => by
      have hne : s ≠ a := fun e => (List.nodup_cons.1 hn).1 (e ▸ hs')
      exact (List.mem_erase_of_ne hne).2 (hs s (by simp [hs'])))
    rw [List.length_erase_of_mem ha] at h1
    have : 0 < K.length := List.length_pos_of_mem ha
    simp only [List.length_cons]
    omega

/-- as many entries as there are names -/
theorem MapAt.within {w : World} {m n : Nat} {M : Names} (h : MapAt w m n M) {K : List Text} (hK : ∀ s, (M s).isSome = true → s ∈ K) : MapAt w m K.length M := by
  obtain ⟨D, ho, hk⟩ := h
  obtain ⟨⟨ss, hss, hnd, hmem⟩, hlen, _⟩ := MapAt.sorted ho (fun s => (hk s).1) (List.Perm.refl (strKeys D))
  have hle : (strKeys D).length ≤ K.length := by
    have h1 : ((strKeys D).mergeSort leB).length = (strKeys D).length := List.length_mergeSort _
    rw [← h1, hss, List.length_mergeSort]
    exact nodup_le hnd (fun s hs => hK s ((hmem s).1 hs))
  refine ⟨D, ?_, hk⟩
  obtain ⟨es, clock, hb, F, hs, hD⟩ := ho
  refine ⟨es, clock, hb, F, ?_, hD⟩
  rw [hD] at hle
  have : (strKeys (DataW.map ((es.toList.map (WideElems.rg Tryz.prog 9 fileR)).foldr DataW.insert []))).length = es.size := by
    simp [strKeys, length_sorted]
  omega

def Dk.empty : Dk := ⟨fun _ => none, fun _ => none, [], none, [], fun _ => [], fun _ => 0⟩

set_option maxHeartbeats 1000000 in
theorem new_any (n : Nat) (w : World) : Calls Tryz.prog 13 #[] w fun e w' => ∃ d, e = .returned (ptr d) ∧ DiskAt w' (ext (fun _ => False) w w') d n Dk.empty ∧ Fresh w w' := by
  have hmm := @run_makeMap Tryz.prog
  go_enter Tryz.func13, Tryz.ntmps13
  go_wp2
  go_ret
  have h1 := mapAt_made w n
  have h2 := mapAt_made (w.alloc (.map #[] 0)) n
  have e1 : (w.alloc (.map #[] 0)).heap.size = w.heap.size + 1 := by simp
  rw [e1] at h2
  refine ⟨w.heap.size + 2, rfl, ⟨w.heap.size, w.heap.size + 1, .slice none 0 0, [], fun _ => .slice none 0 0, ?_⟩, (((Keeps.refl (fun _ => False) w).alloc _).alloc _).alloc _⟩
  have k2 : Fresh (w.alloc (.map #[] 0)) ((w.alloc (.map #[] 0)).alloc (.map #[] 0)) := (Keeps.refl _ _).alloc _
  have k3 : Fresh ((w.alloc (.map #[] 0)).alloc (.map #[] 0)) (((w.alloc (.map #[] 0)).alloc (.map #[] 0)).alloc (.cells (headOf w.heap.size (w.heap.size + 1) (.slice none 0 0) none) 96)) := (Keeps.refl _ _).alloc _
  exact {
    head := by
      have := heap_alloc_new ((w.alloc (.map #[] 0)).alloc (.map #[] 0)) (.cells (headOf w.heap.size (w.heap.size + 1) (.slice none 0 0) none) 96)
      simpa [headOf, Dk.empty] using this
    now := k3.mapAt (k2.mapAt h1 (fun e => e)) (fun e => e)
    safe := k3.mapAt h2 (fun e => e)
    apart := by omega
    row := World.ownsRow_nil _ _ _ _
    len := rfl
    chg := fun i v c hv => by simp at hv
    files := fun x hx => by cases hx
    bufs := fun x hx => by cases hx
    ownD := .inr (by simp)
    ownN := .inr (by simp; omega)
    ownS := .inr (by simp)
    ownR := fun k hk => by simp [Value.ownBlock] at hk
    ownX := fun x hx => by cases hx
    ownB := fun x hx => by cases hx }

/-- has it stopped? -/
def Dk.dead (σ : Dk) : Bool := σ.left == some 0
/-- a call that writes has begun -/
def Dk.tick (σ : Dk) : Dk := { σ with left := σ.left.map (· - 1) }

section
variable {w : World} {A : Nat → Prop} {d n : Nat} {σ : Dk} {mn ms : Nat} {cv : Value} {vals : List Value} {bv : Nat → Value}

theorem Inner.cell3 (h : Inner w A d n σ mn ms cv vals bv) : w.cell? ⟨d, 3, none⟩ = some (.bool σ.left.isSome) := by rw [Lib.cell_of_heap h.head]; rfl
theorem Inner.cell4 (h : Inner w A d n σ mn ms cv vals bv) : w.cell? ⟨d, 4, none⟩ = some (.int .i64 ((σ.left.getD 0 : Nat) : Int)) := by rw [Lib.cell_of_heap h.head]; rfl
theorem Inner.cell0 (h : Inner w A d n σ mn ms cv vals bv) : w.cell? ⟨d, 0, none⟩ = some (.map (some mn)) := by rw [Lib.cell_of_heap h.head]; rfl
theorem Inner.cell1 (h : Inner w A d n σ mn ms cv vals bv) : w.cell? ⟨d, 1, none⟩ = some (.map (some ms)) := by rw [Lib.cell_of_heap h.head]; rfl
theorem Inner.cell2 (h : Inner w A d n σ mn ms cv vals bv) : w.cell? ⟨d, 2, none⟩ = some cv := by rw [Lib.cell_of_heap h.head]; rfl
theorem Inner.frozen (h : Inner w A d n σ mn ms cv vals bv) (i : Nat) : w.frozen? ⟨d, i, none⟩ = false := Lib.frozen_of_heap h.head i

set_option maxHeartbeats 1000000 in
theorem runs_any (h : Inner w A d n σ mn ms cv vals bv) (hl : ∀ l, σ.left = some l → l < 9223372036854775808) :
    Calls Tryz.prog 47 #[ptr d] w fun e w' => e = .returned (.bool (!σ.dead)) ∧ Inner w' A d n σ.tick mn ms cv vals bv ∧ Keeps (fun k => k = d) w w' ∧ w'.heap.size = w.heap.size := by
  have c3 := h.cell3
  have c4 := h.cell4
  have f4 := h.frozen 4
  have H : Hid (Inner w A d n σ mn ms cv vals bv) := h
  unfold ptr
  rcases hs : σ.left with _ | _ | m
  · rw [hs] at c3 c4
    have HS : Hid (σ.left = none) := hs
    clear hs hl h
    simp only [Option.isSome] at c3
    go_enter Tryz.func47, Tryz.ntmps47
    go_wp2
    go_ret
    have hs := HS.out
    refine ⟨by simp [Dk.dead, hs], ?_, Keeps.refl _ _, rfl⟩
    have : σ.tick = σ := by cases σ; simp only at hs; simp [Dk.tick, hs]
    rw [this]; exact H.out
  · rw [hs] at c3 c4
    have HS : Hid (σ.left = some 0) := hs
    clear hs hl h
    simp only [Option.isSome, Option.getD] at c3 c4
    go_enter Tryz.func47, Tryz.ntmps47
    go_wp2
    go_ret
    have hs := HS.out
    refine ⟨by simp [Dk.dead, hs], ?_, Keeps.refl _ _, rfl⟩
    have : σ.tick = σ := by cases σ; simp only at hs; simp [Dk.tick, hs]
    rw [this]; exact H.out
  · rw [hs] at c3 c4
    have hm := hl _ hs
    have HS : Hid (σ.left = some (m + 1)) := hs
    clear hs hl h
    simp only [Option.isSome, Option.getD] at c3 c4
    have hb : (((m + 1 : Nat) : Int) == 0) = false := by simp; omega
    go_enter Tryz.func47, Tryz.ntmps47
    go_wp2
    go_ret
    have hs := HS.out
    have hh := heap_setCell_at H.out.head 4 (.int .i64 (m : Int))
    have k1 : Keeps (fun k => k = d) w (w.setCell ⟨d, 4, none⟩ (.int .i64 (m : Int))) := (Keeps.refl (fun k => k = d) w).setCell (p := ⟨d, 4, none⟩) (fun _ => rfl) _
    refine ⟨by simp [Dk.dead, hs], ?_, k1, by simp [World.setCell]⟩
    have ht : σ.tick = { σ with left := some m } := by simp [Dk.tick, hs]
    rw [ht]
    refine H.out.setLeft ?_ k1
    rw [hh, hs]
    rfl

set_option maxHeartbeats 1000000 in
theorem stop_any (h : Inner w A d n σ mn ms cv vals bv) (l : Int) :
    Calls Tryz.prog 28 #[ptr d, .int .i64 l] w fun e w' => e = .returned (.tuple #[]) ∧ Inner w' A d n { σ with left := some l.toNat } mn ms cv vals bv ∧ Keeps (fun k => k = d) w w' ∧ w'.heap.size = w.heap.size := by
  have c3 := h.cell3
  have f3 := h.frozen 3
  have hh3 := heap_setCell_at h.head 3 (.bool true)
  have c4 : (w.setCell ⟨d, 3, none⟩ (.bool true)).cell? ⟨d, 4, none⟩ = some (.int .i64 ((σ.left.getD 0 : Nat) : Int)) := by rw [Lib.cell_of_heap hh3]; rfl
  have f4 : (w.setCell ⟨d, 3, none⟩ (.bool true)).frozen? ⟨d, 4, none⟩ = false := Lib.frozen_of_heap hh3 4
  have H : Hid (Inner w A d n σ mn ms cv vals bv) := h
  clear h
  unfold ptr
  go_enter Tryz.func28, Tryz.ntmps28
  go_wp2
  go_end0
  have e : (max l 0 : Int) = ((l.toNat : Nat) : Int) := by omega
  rw [e]
  have k1 : Keeps (fun k => k = d) w ((w.setCell ⟨d, 3, none⟩ (.bool true)).setCell ⟨d, 4, none⟩ (.int .i64 ((l.toNat : Nat) : Int))) :=
    ((Keeps.refl (fun k => k = d) w).setCell (p := ⟨d, 3, none⟩) (fun _ => rfl) _).setCell (p := ⟨d, 4, none⟩) (fun _ => rfl) _
  refine ⟨rfl, H.out.setLeft ?_ k1, k1, by simp [World.setCell]⟩
  rw [heap_setCell_at hh3]
  rfl

set_option maxHeartbeats 1000000 in
theorem create1_any (m k : Nat) (M : Names) (w : World) (h : MapAt w m k M) (hk : k < maxLen) (p q x : Nat) (b : ByteArray) (hp : w.heap[p]? = some (.cells #[ptr x] 98 (0, 0))) (hq : w.heap[q]? = some (.cells #[.string b] 9 (0, 0))) (hb : b.size ≤ maxLen) :
    Calls Tryz.prog 49 #[.map (some m), ptr p, ptr q] w fun e w' => e = .returned (.tuple #[]) ∧ MapAt w' m (k + 1) (putN M b.data.toList x) ∧ Keeps (fun i => i = m) w w' ∧ w'.heap.size = w.heap.size := by
  obtain ⟨w', hr, h1, h2, h3⟩ := h.put hk b hb x
  have c0 : w.cell? ⟨p, 0, none⟩ = some (ptr x) := by rw [Lib.cell_of_heap hp]; rfl
  have c1 : w.cell? ⟨q, 0, none⟩ = some (.string b) := by rw [Lib.cell_of_heap hq]; rfl
  clear hp hq h
  unfold ptr at *
  go_enter Tryz.func49, Tryz.ntmps49
  go_wp2
  go_end0
  exact ⟨rfl, h1, h2, h3⟩

set_option maxHeartbeats 1000000 in
theorem remove1_any (m k : Nat) (M : Names) (w : World) (h : MapAt w m k M) (q : Nat) (b : ByteArray) (hq : w.heap[q]? = some (.cells #[.string b] 9 (0, 0))) (hb : b.size ≤ maxLen) :
    Calls Tryz.prog 124 #[.map (some m), ptr q] w fun e w' => e = .returned (.tuple #[]) ∧ MapAt w' m k (delN M b.data.toList) ∧ Keeps (fun i => i = m) w w' ∧ w'.heap.size = w.heap.size := by
  obtain ⟨w', hr, h1, h2, h3⟩ := h.del b hb 0
  have c1 : w.cell? ⟨q, 0, none⟩ = some (.string b) := by rw [Lib.cell_of_heap hq]; rfl
  clear hq h
  unfold ptr at *
  go_enter Tryz.func124, Tryz.ntmps124
  go_wp2
  go_end0
  exact ⟨rfl, h1, h2, h3⟩

set_option maxHeartbeats 1000000 in
theorem rename1_any (m k : Nat) (M : Names) (w : World) (h : MapAt w m k M) (hk : k < maxLen) (p q r x : Nat) (b c : ByteArray) (hp : w.heap[p]? = some (.cells #[.string b] 9 (0, 0))) (hq : w.heap[q]? = some (.cells #[ptr x] 98 (0, 0))) (hr0 : w.heap[r]? = some (.cells #[.string c] 9 (0, 0))) (hb : b.size ≤ maxLen) (hc : c.size ≤ maxLen) :
    Calls Tryz.prog 97 #[.map (some m), ptr p, ptr q, ptr r] w fun e w' => e = .returned (.tuple #[]) ∧ MapAt w' m (k + 1) (putN (delN M b.data.toList) c.data.toList x) ∧ Keeps (fun i => i = m) w w' ∧ w'.heap.size = w.heap.size := by
  obtain ⟨w1, hr, h1, h2, h3⟩ := h.del b hb 0
  obtain ⟨w2, hr2, h12, h22, h32⟩ := h1.put hk c hc x
  have c0 : w.cell? ⟨p, 0, none⟩ = some (.string b) := by rw [Lib.cell_of_heap hp]; rfl
  have hm := h.tag
  have c1 : w1.cell? ⟨q, 0, none⟩ = some (ptr x) := by rw [Lib.cell_of_heap (h2.heap hq (fun e => ne_of_tag (tag_cells hq) hm (by decide) e))]; rfl
  have c2 : w1.cell? ⟨r, 0, none⟩ = some (.string c) := by rw [Lib.cell_of_heap (h2.heap hr0 (fun e => ne_of_tag (tag_cells hr0) hm (by decide) e))]; rfl
  clear hp hq hr0 hm h h1
  unfold ptr at *
  go_enter Tryz.func97, Tryz.ntmps97
  go_wp2
  go_end0
  exact ⟨rfl, h12, h2.trans h22, by omega⟩
end
end Go.Proofs.YtegbkpjcjlihmabGreatDoor

namespace Go.Proofs.YtegbkpjcjlihmabGreatDoor
open Go.RowKit Go.Maps

theorem info67 : (Tryz.prog.info? 151).map (fun i => (i.zero.map (fun z => z.cells.size), i.size, i.bytes)) = some (some 1, 1, 8) := by kernel_rfl
theorem info67' : ∃ i z, Tryz.prog.info? 151 = some i ∧ i.zero = some z ∧ z.cells.size = 1 ∧ i.size = 1 ∧ i.bytes = 8 := by
  obtain ⟨i, hi, h⟩ := Option.map_eq_some_iff.1 info67
  simp only [Prod.mk.injEq] at h
  obtain ⟨z, hz, h1⟩ := Option.map_eq_some_iff.1 h.1
  exact ⟨i, z, hi, hz, h1, h.2.1, h.2.2⟩

/-- what a kept function is called with -/
def Caught (w : World) (v : Value) (c : Chg) (f : Nat) (xs : Array Value) : Prop :=
  v = .func (.func f) #[] xs ∧ ∀ (m k : Nat) (M : Names), MapAt w m k M → k < maxLen →
    Calls Tryz.prog f (#[.map (some m)] ++ xs) w fun e w' => e = .returned (.tuple #[]) ∧ MapAt w' m (k + 1) (c.app M) ∧ Keeps (fun i => i = m) w w' ∧ w'.heap.size = w.heap.size

theorem ChgAt.create {w : World} {A : Nat → Prop} {v : Value} {s : Text} {x : Nat} (h : ChgAt w A v (.create s x)) : ∃ p q, Caught w v (.create s x) 49 #[ptr p, ptr q] := by
  obtain ⟨p, q, rfl, ⟨_, hp⟩, ⟨_, b, hq, rfl, hb⟩⟩ := h
  exact ⟨p, q, rfl, fun m k M hm hk => create1_any m k M w hm hk p q x b hp hq hb⟩

theorem ChgAt.rename {w : World} {A : Nat → Prop} {v : Value} {a b : Text} {x : Nat} (h : ChgAt w A v (.rename a b x)) : ∃ p q r, Caught w v (.rename a b x) 97 #[ptr p, ptr q, ptr r] := by
  obtain ⟨p, q, r, rfl, ⟨_, s, hp, rfl, hs⟩, ⟨_, hq⟩, ⟨_, t, hr, rfl, ht⟩⟩ := h
  exact ⟨p, q, r, rfl, fun m k M hm hk => rename1_any m k M w hm hk p q r x s t hp hq hr hs ht⟩

theorem ChgAt.remove {w : World} {A : Nat → Prop} {v : Value} {s : Text} (h : ChgAt w A v (.remove s)) : ∃ q, Caught w v (.remove s) 124 #[ptr q] := by
  obtain ⟨q, rfl, ⟨_, b, hq, rfl, hb⟩⟩ := h
  refine ⟨q, rfl, fun m k M hm _ => (remove1_any m k M w hm q b hq hb).mono ?_⟩
  rintro e w' ⟨rfl, h1, h2⟩
  exact ⟨rfl, h1.mono (by omega), h2⟩

/-- the disk behind a change -/
def Dk.did (σ : Dk) (c : Chg) : Dk := { σ with now := c.app σ.now, chs := σ.chs ++ [c] }

/-- behind the change of names: the rest of 'do' -/
theorem Inner.didRow {w w1 w2 : World} {A : Nat → Prop} {d n : Nat} {σ : Dk} {mn ms : Nat} {cv cv' : Value} {vals : List Value} {bv : Nat → Value} {v : Value} {c : Chg}
    (h : Inner w A d n σ mn ms cv vals bv) (hc : ChgAt w A v c) (hm : MapAt w1 mn n (c.app σ.now)) (k1 : Keeps (fun i => i = mn) w w1)
    (k2 : Keeps (fun i => cv.ownBlock = some i) w1 w2) (hrow : w2.ownsRow 0 151 1 cv' (vals.length + 1) (vals ++ [v])) (hnew : ∀ k, cv'.ownBlock = some k → cv.ownBlock = some k ∨ (w.heap.size ≤ k ∧ k < w2.heap.size)) :
    Inner (w2.setCell ⟨d, 2, none⟩ cv') (ext A w w2) d n (σ.did c) mn ms cv' (vals ++ [v]) bv ∧ Keeps A w (w2.setCell ⟨d, 2, none⟩ cv') := by
  have h1 := h.setNow hm k1
  have hd1 : tag w1 d = some 96 := h1.tagD
  have hd2 : w2.heap[d]? = some (.cells (headOf mn ms cv σ.left) 96 (0, 0)) := k2.heap h1.head (fun e => ne_of_tag h1.tagD (h1.tagR e) (by decide) rfl)
  have hh := heap_setCell_at hd2 2 cv'
  have k3 : Keeps (fun i => i = d) w2 (w2.setCell ⟨d, 2, none⟩ cv') := (Keeps.refl (fun i => i = d) w2).setCell (p := ⟨d, 2, none⟩) (fun _ => rfl) _
  have k23 : Keeps (fun i => i = d ∨ cv.ownBlock = some i) w1 (w2.setCell ⟨d, 2, none⟩ cv') := (k2.mono (fun _ _ e => .inr e)).then k3 (fun _ _ e => .inl e)
  have hrd : ∀ k, cv'.ownBlock = some k → k ≠ d := fun k hk => ne_of_tag (owns_tag hrow hk) (tag_cells hd2) (by decide)
  have hc1 : ChgAt w1 A v c := hc.kept k1 (fun j _ ht e => ne_of_tag ht h.tagN (by decide) e) (fun j _ ht e => ne_of_tag ht h.tagN (by decide) e) (fun _ h => h)
  have dis : ∀ i t, tag w1 i = some t → t ≠ 96 → t ≠ 151 → ¬ (i = d ∨ cv.ownBlock = some i) := fun i t ht a b e => e.elim (fun e => ne_of_tag ht hd1 a e) (fun e => ne_of_tag ht (h1.tagR e) b rfl)
  refine ⟨?_, ?_⟩
  · refine h1.setHead (left := σ.left) (chs := σ.chs ++ [c]) ?_ k23 (fun _ h => .inl h) ?_ ?_ ?_ ?_
    · rw [hh]; rfl
    · refine k3.owns ?_ (fun k hk e => hrd k hk e)
      simpa using hrow
    · simp [h.len]
    · intro i u c' hu hc'
      have e1 := h.len
      by_cases hi : i < vals.length
      · rw [List.getElem?_append_left hi] at hu
        rw [List.getElem?_append_left (by omega)] at hc'
        exact (h1.chg i u c' hu hc').kept k23 (fun j _ ht => dis j _ ht (by decide) (by decide)) (fun j _ ht => dis j _ ht (by decide) (by decide)) (fun _ h => .inl h)
      · rw [List.getElem?_append_right (by omega)] at hu
        rw [List.getElem?_append_right (by omega)] at hc'
        have e0 : i - vals.length = 0 := by
          by_cases h0 : i - vals.length = 0
          · exact h0
          · obtain ⟨j, hj⟩ : ∃ j, i - vals.length = j + 1 := ⟨i - vals.length - 1, by omega⟩
            rw [hj] at hu
            simp at hu
        rw [e0] at hu
        rw [← e1, e0] at hc'
        simp at hu hc'
        subst hu
        subst hc'
        exact hc1.kept k23 (fun j _ ht => dis j _ ht (by decide) (by decide)) (fun j _ ht => dis j _ ht (by decide) (by decide)) (fun _ h => .inl h)
    · intro k hk
      rcases hnew k hk with h' | h'
      · exact .inl (h.ownR k h')
      · exact .inr h'
  · refine (k1.mono (fun i _ e => by subst e; exact h.ownN)).then k23 (fun i _ e => ?_)
    rcases e with rfl | e
    · exact h.ownD
    · exact h.ownR i e

end Go.Proofs.YtegbkpjcjlihmabGreatDoor

namespace Go.Proofs.YtegbkpjcjlihmabGreatDoor
open Go.RowKit Go.Maps

section
variable {w : World} {A : Nat → Prop} {d : Nat} {σ : Dk} {mn ms : Nat} {cv : Value} {vals : List Value} {bv : Nat → Value} {K : List Text}

set_option maxHeartbeats 2000000 in
theorem do_create (h : Inner w A d K.length σ mn ms cv vals bv) {p q : Nat} {c : Chg} (hv : Caught w (.func (.func 49) #[] #[ptr p, ptr q]) c 49 #[ptr p, ptr q]) (hc : ChgAt w A (.func (.func 49) #[] #[ptr p, ptr q]) c)
    (hK : ∀ s, (c.app σ.now s).isSome = true → s ∈ K) (hKl : K.length ≤ 1099511627776) (hC : σ.chs.length ≤ 1099511627776) :
    Calls Tryz.prog 48 #[ptr d, .func (.func 49) #[] #[ptr p, ptr q]] w fun e w' => e = .returned (.tuple #[]) ∧ (∃ cv' vals', Inner w' (ext A w w') d K.length (σ.did c) mn ms cv' vals' bv) ∧ Keeps A w w' := by
  obtain ⟨i0, z0, hi, hz0, hz1, hz2, hz3⟩ := info67'
  have hlen : vals.length ≤ 1099511627776 := by rw [h.len]; exact hC
  have c0 := h.cell0
  have c2 := h.cell2
  have f2 := h.frozen 2
  have hca := hv.2 mn K.length σ.now h.now (by unfold maxLen; omega)
  have H : Hid (Inner w A d K.length σ mn ms cv vals bv) := h
  have HC : Hid (ChgAt w A (.func (.func 49) #[] #[ptr p, ptr q]) c) := hc
  have hrow := h.row
  clear h hc hv
  unfold ptr at *
  go_enter Tryz.func48, Tryz.ntmps48
  go_wp2_with fail
  refine hca.mono ?_
  rintro e w1 ⟨rfl, hm, k1, hs0⟩
  clear hs0
  have hs1 := k1.size
  have hm' : MapAt w1 mn K.length (c.app σ.now) := hm.within hK
  have h1 := H.out.setNow hm' k1
  have d2 : w1.cell? ⟨d, 2, none⟩ = some cv := h1.cell2
  have ho1 : w1.ownsRow 0 151 1 cv vals.length vals := h1.row
  have hcv : cv.ownBlock ≠ some d := fun e => ne_of_tag (h1.tagR e) h1.tagD (by decide) rfl
  have hb1 : Hid (w1.heap[d]? = some (.cells (headOf mn ms cv σ.left) 96 (0, 0))) := h1.head
  have H1 : Hid (Inner w1 A d K.length { σ with now := c.app σ.now } mn ms cv vals bv) := h1
  clear h1 c0 c2 f2 hrow hca hm
  go_wp2_with (at_builtin; refine wpList_append_placed _ rfl _ _ 94 rfl 0 151 i0 z0 1 8 Tryz.underlying94 hi hz0 hz2 hz3 hz1 (by decide) _ _ _ rfl (ho1.alloc _) ⟨w1.heap.size, 0, none⟩ 1 1 [.func (.func 49) #[] #[.pointer (some ⟨p, 0, none⟩), .pointer (some ⟨q, 0, none⟩)]] rfl rfl ?c1 ?c2 ?c3 ?c4 ?c5 ?_)
  case c1 =>
    intro j u hj
    match j, hj with
    | 0, hj => simp at hj; subst hj; simp [Addr.add]
  case c2 => intro u hu; simp at hu; subst hu; rfl
  case c3 => unfold maxLen; omega
  case c4 => omega
  case c5 => omega
  intro cv' w2 hown' hgrow hpl
  have hlt := heap_lt hb1.out
  have hb2 : w2.heap[d]? = some (.cells (headOf mn ms cv σ.left) 96 (0, 0)) := by
    rw [hgrow.block d (by simp; omega) (fun e => hcv e.symm), Lib.alloc_old w1 _ d (by omega)]
    exact hb1.out
  have e2 : w2.cell? ⟨d, 2, none⟩ = some cv := by rw [Lib.cell_of_heap hb2]; rfl
  have f2 : w2.frozen? ⟨d, 2, none⟩ = false := Lib.frozen_of_heap hb2 2
  obtain ⟨ao, n', cap, rfl⟩ : ∃ ao n' cap, cv' = .slice ao n' cap := by
    rcases hown'.2 with ⟨hv, _⟩ | ⟨g, cap, cur, hv, _⟩
    · exact ⟨_, _, _, hv⟩
    · exact ⟨_, _, _, hv⟩
  go_wp2
  go_end0
  have hsz := hgrow.size
  have ha : (w1.alloc (.cells #[.func (.func 49) #[] #[.pointer (some ⟨p, 0, none⟩), .pointer (some ⟨q, 0, none⟩)]] 151)).heap.size = w1.heap.size + 1 := by simp
  have k2 : Keeps (fun i => cv.ownBlock = some i) w1 w2 := ((Keeps.refl (fun i => cv.ownBlock = some i) w1).alloc _).grown hgrow (fun k hk _ => hk)
  have hnew : ∀ k, (Value.slice ao n' cap).ownBlock = some k → cv.ownBlock = some k ∨ (w.heap.size ≤ k ∧ k < w2.heap.size) := by
    intro k hk
    have hl := hown'.lt k hk
    rcases hpl with h' | h'
    · exact .inl (by rw [← h']; exact hk)
    · rw [h'] at hk
      simp only [Option.some.injEq] at hk
      exact .inr ⟨by omega, hl.2⟩
  have hfin := H.out.didRow HC.out hm' k1 k2 hown' hnew
  have es : (w2.setCell ⟨d, 2, none⟩ (.slice ao n' cap)).heap.size = w2.heap.size := by simp [World.setCell]
  have : ext A w (w2.setCell ⟨d, 2, none⟩ (.slice ao n' cap)) = ext A w w2 := by unfold ext; rw [es]
  rw [this]
  exact ⟨rfl, ⟨_, _, hfin.1⟩, hfin.2⟩

set_option maxHeartbeats 2000000 in
theorem do_rename (h : Inner w A d K.length σ mn ms cv vals bv) {p q r : Nat} {c : Chg} (hv : Caught w (.func (.func 97) #[] #[ptr p, ptr q, ptr r]) c 97 #[ptr p, ptr q, ptr r]) (hc : ChgAt w A (.func (.func 97) #[] #[ptr p, ptr q, ptr r]) c)
    (hK : ∀ s, (c.app σ.now s).isSome = true → s ∈ K) (hKl : K.length ≤ 1099511627776) (hC : σ.chs.length ≤ 1099511627776) :
    Calls Tryz.prog 48 #[ptr d, .func (.func 97) #[] #[ptr p, ptr q, ptr r]] w fun e w' => e = .returned (.tuple #[]) ∧ (∃ cv' vals', Inner w' (ext A w w') d K.length (σ.did c) mn ms cv' vals' bv) ∧ Keeps A w w' := by
  obtain ⟨i0, z0, hi, hz0, hz1, hz2, hz3⟩ := info67'
  have hlen : vals.length ≤ 1099511627776 := by rw [h.len]; exact hC
  have c0 := h.cell0
  have c2 := h.cell2
  have f2 := h.frozen 2
  have hca := hv.2 mn K.length σ.now h.now (by unfold maxLen; omega)
  have H : Hid (Inner w A d K.length σ mn ms cv vals bv) := h
  have HC : Hid (ChgAt w A (.func (.func 97) #[] #[ptr p, ptr q, ptr r]) c) := hc
  have hrow := h.row
  clear h hc hv
  unfold ptr at *
  go_enter Tryz.func48, Tryz.ntmps48
  go_wp2_with fail
  refine hca.mono ?_
  rintro e w1 ⟨rfl, hm, k1, hs0⟩
  clear hs0
  have hs1 := k1.size
  have hm' : MapAt w1 mn K.length (c.app σ.now) := hm.within hK
  have h1 := H.out.setNow hm' k1
  have d2 : w1.cell? ⟨d, 2, none⟩ = some cv := h1.cell2
  have ho1 : w1.ownsRow 0 151 1 cv vals.length vals := h1.row
  have hcv : cv.ownBlock ≠ some d := fun e => ne_of_tag (h1.tagR e) h1.tagD (by decide) rfl
  have hb1 : Hid (w1.heap[d]? = some (.cells (headOf mn ms cv σ.left) 96 (0, 0))) := h1.head
  have H1 : Hid (Inner w1 A d K.length { σ with now := c.app σ.now } mn ms cv vals bv) := h1
  clear h1 c0 c2 f2 hrow hca hm
  go_wp2_with (at_builtin; refine wpList_append_placed _ rfl _ _ 94 rfl 0 151 i0 z0 1 8 Tryz.underlying94 hi hz0 hz2 hz3 hz1 (by decide) _ _ _ rfl (ho1.alloc _) ⟨w1.heap.size, 0, none⟩ 1 1 [.func (.func 97) #[] #[.pointer (some ⟨p, 0, none⟩), .pointer (some ⟨q, 0, none⟩), .pointer (some ⟨r, 0, none⟩)]] rfl rfl ?c1 ?c2 ?c3 ?c4 ?c5 ?_)
  case c1 =>
    intro j u hj
    match j, hj with
    | 0, hj => simp at hj; subst hj; simp [Addr.add]
  case c2 => intro u hu; simp at hu; subst hu; rfl
  case c3 => unfold maxLen; omega
  case c4 => omega
  case c5 => omega
  intro cv' w2 hown' hgrow hpl
  have hlt := heap_lt hb1.out
  have hb2 : w2.heap[d]? = some (.cells (headOf mn ms cv σ.left) 96 (0, 0)) := by
    rw [hgrow.block d (by simp; omega) (fun e => hcv e.symm), Lib.alloc_old w1 _ d (by omega)]
    exact hb1.out
  have e2 : w2.cell? ⟨d, 2, none⟩ = some cv := by rw [Lib.cell_of_heap hb2]; rfl
  have f2 : w2.frozen? ⟨d, 2, none⟩ = false := Lib.frozen_of_heap hb2 2
  obtain ⟨ao, n', cap, rfl⟩ : ∃ ao n' cap, cv' = .slice ao n' cap := by
    rcases hown'.2 with ⟨hv, _⟩ | ⟨g, cap, cur, hv, _⟩
    · exact ⟨_, _, _, hv⟩
    · exact ⟨_, _, _, hv⟩
  go_wp2
  go_end0
  have hsz := hgrow.size
  have ha : (w1.alloc (.cells #[.func (.func 97) #[] #[.pointer (some ⟨p, 0, none⟩), .pointer (some ⟨q, 0, none⟩), .pointer (some ⟨r, 0, none⟩)]] 151)).heap.size = w1.heap.size + 1 := by simp
  have k2 : Keeps (fun i => cv.ownBlock = some i) w1 w2 := ((Keeps.refl (fun i => cv.ownBlock = some i) w1).alloc _).grown hgrow (fun k hk _ => hk)
  have hnew : ∀ k, (Value.slice ao n' cap).ownBlock = some k → cv.ownBlock = some k ∨ (w.heap.size ≤ k ∧ k < w2.heap.size) := by
    intro k hk
    have hl := hown'.lt k hk
    rcases hpl with h' | h'
    · exact .inl (by rw [← h']; exact hk)
    · rw [h'] at hk
      simp only [Option.some.injEq] at hk
      exact .inr ⟨by omega, hl.2⟩
  have hfin := H.out.didRow HC.out hm' k1 k2 hown' hnew
  have es : (w2.setCell ⟨d, 2, none⟩ (.slice ao n' cap)).heap.size = w2.heap.size := by simp [World.setCell]
  have : ext A w (w2.setCell ⟨d, 2, none⟩ (.slice ao n' cap)) = ext A w w2 := by unfold ext; rw [es]
  rw [this]
  exact ⟨rfl, ⟨_, _, hfin.1⟩, hfin.2⟩

set_option maxHeartbeats 2000000 in
theorem do_remove (h : Inner w A d K.length σ mn ms cv vals bv) {p : Nat} {c : Chg} (hv : Caught w (.func (.func 124) #[] #[ptr p]) c 124 #[ptr p]) (hc : ChgAt w A (.func (.func 124) #[] #[ptr p]) c)
    (hK : ∀ s, (c.app σ.now s).isSome = true → s ∈ K) (hKl : K.length ≤ 1099511627776) (hC : σ.chs.length ≤ 1099511627776) :
    Calls Tryz.prog 48 #[ptr d, .func (.func 124) #[] #[ptr p]] w fun e w' => e = .returned (.tuple #[]) ∧ (∃ cv' vals', Inner w' (ext A w w') d K.length (σ.did c) mn ms cv' vals' bv) ∧ Keeps A w w' := by
  obtain ⟨i0, z0, hi, hz0, hz1, hz2, hz3⟩ := info67'
  have hlen : vals.length ≤ 1099511627776 := by rw [h.len]; exact hC
  have c0 := h.cell0
  have c2 := h.cell2
  have f2 := h.frozen 2
  have hca := hv.2 mn K.length σ.now h.now (by unfold maxLen; omega)
  have H : Hid (Inner w A d K.length σ mn ms cv vals bv) := h
  have HC : Hid (ChgAt w A (.func (.func 124) #[] #[ptr p]) c) := hc
  have hrow := h.row
  clear h hc hv
  unfold ptr at *
  go_enter Tryz.func48, Tryz.ntmps48
  go_wp2_with fail
  refine hca.mono ?_
  rintro e w1 ⟨rfl, hm, k1, hs0⟩
  clear hs0
  have hs1 := k1.size
  have hm' : MapAt w1 mn K.length (c.app σ.now) := hm.within hK
  have h1 := H.out.setNow hm' k1
  have d2 : w1.cell? ⟨d, 2, none⟩ = some cv := h1.cell2
  have ho1 : w1.ownsRow 0 151 1 cv vals.length vals := h1.row
  have hcv : cv.ownBlock ≠ some d := fun e => ne_of_tag (h1.tagR e) h1.tagD (by decide) rfl
  have hb1 : Hid (w1.heap[d]? = some (.cells (headOf mn ms cv σ.left) 96 (0, 0))) := h1.head
  have H1 : Hid (Inner w1 A d K.length { σ with now := c.app σ.now } mn ms cv vals bv) := h1
  clear h1 c0 c2 f2 hrow hca hm
  go_wp2_with (at_builtin; refine wpList_append_placed _ rfl _ _ 94 rfl 0 151 i0 z0 1 8 Tryz.underlying94 hi hz0 hz2 hz3 hz1 (by decide) _ _ _ rfl (ho1.alloc _) ⟨w1.heap.size, 0, none⟩ 1 1 [.func (.func 124) #[] #[.pointer (some ⟨p, 0, none⟩)]] rfl rfl ?c1 ?c2 ?c3 ?c4 ?c5 ?_)
  case c1 =>
    intro j u hj
    match j, hj with
    | 0, hj => simp at hj; subst hj; simp [Addr.add]
  case c2 => intro u hu; simp at hu; subst hu; rfl
  case c3 => unfold maxLen; omega
  case c4 => omega
  case c5 => omega
  intro cv' w2 hown' hgrow hpl
  have hlt := heap_lt hb1.out
  have hb2 : w2.heap[d]? = some (.cells (headOf mn ms cv σ.left) 96 (0, 0)) := by
    rw [hgrow.block d (by simp; omega) (fun e => hcv e.symm), Lib.alloc_old w1 _ d (by omega)]
    exact hb1.out
  have e2 : w2.cell? ⟨d, 2, none⟩ = some cv := by rw [Lib.cell_of_heap hb2]; rfl
  have f2 : w2.frozen? ⟨d, 2, none⟩ = false := Lib.frozen_of_heap hb2 2
  obtain ⟨ao, n', cap, rfl⟩ : ∃ ao n' cap, cv' = .slice ao n' cap := by
    rcases hown'.2 with ⟨hv, _⟩ | ⟨g, cap, cur, hv, _⟩
    · exact ⟨_, _, _, hv⟩
    · exact ⟨_, _, _, hv⟩
  go_wp2
  go_end0
  have hsz := hgrow.size
  have ha : (w1.alloc (.cells #[.func (.func 124) #[] #[.pointer (some ⟨p, 0, none⟩)]] 151)).heap.size = w1.heap.size + 1 := by simp
  have k2 : Keeps (fun i => cv.ownBlock = some i) w1 w2 := ((Keeps.refl (fun i => cv.ownBlock = some i) w1).alloc _).grown hgrow (fun k hk _ => hk)
  have hnew : ∀ k, (Value.slice ao n' cap).ownBlock = some k → cv.ownBlock = some k ∨ (w.heap.size ≤ k ∧ k < w2.heap.size) := by
    intro k hk
    have hl := hown'.lt k hk
    rcases hpl with h' | h'
    · exact .inl (by rw [← h']; exact hk)
    · rw [h'] at hk
      simp only [Option.some.injEq] at hk
      exact .inr ⟨by omega, hl.2⟩
  have hfin := H.out.didRow HC.out hm' k1 k2 hown' hnew
  have es : (w2.setCell ⟨d, 2, none⟩ (.slice ao n' cap)).heap.size = w2.heap.size := by simp [World.setCell]
  have : ext A w (w2.setCell ⟨d, 2, none⟩ (.slice ao n' cap)) = ext A w w2 := by unfold ext; rw [es]
  rw [this]
  exact ⟨rfl, ⟨_, _, hfin.1⟩, hfin.2⟩

/-- a change is made -/
theorem do_any (h : Inner w A d K.length σ mn ms cv vals bv) {v : Value} {c : Chg} (hc : ChgAt w A v c)
    (hK : ∀ s, (c.app σ.now s).isSome = true → s ∈ K) (hKl : K.length ≤ 1099511627776) (hC : σ.chs.length ≤ 1099511627776) :
    Calls Tryz.prog 48 #[ptr d, v] w fun e w' => e = .returned (.tuple #[]) ∧ (∃ cv' vals', Inner w' (ext A w w') d K.length (σ.did c) mn ms cv' vals' bv) ∧ Keeps A w w' := by
  rcases c with ⟨s, x⟩ | ⟨a, b, x⟩ | s
  · obtain ⟨p, q, rfl, hv⟩ := ChgAt.create hc; exact do_create h ⟨rfl, hv⟩ hc hK hKl hC
  · obtain ⟨p, q, r, rfl, hv⟩ := ChgAt.rename hc; exact do_rename h ⟨rfl, hv⟩ hc hK hKl hC
  · obtain ⟨q, rfl, hv⟩ := ChgAt.remove hc; exact do_remove h ⟨rfl, hv⟩ hc hK hKl hC
end
end Go.Proofs.YtegbkpjcjlihmabGreatDoor
