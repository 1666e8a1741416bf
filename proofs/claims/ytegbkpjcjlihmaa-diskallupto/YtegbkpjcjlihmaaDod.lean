/-
  The law's own Do, whatever the call; scripts.
-/
import Derived.Test.YtegbkpjcjlihmaaDoc
namespace Go.Proofs.Ytegbkpjcjlihmaa
open Go.RowKit Go.Maps

theorem doOp_any {w : World} {A : Nat → Prop} {d : Nat} {σ : Dk} {K : List Text} {C L : Nat} (h : DiskAt w A d K.length σ) (hA : ∀ k, A k → k < w.heap.size) (hf : Fits K C L σ) (hKl : K.length ≤ 1099511627776) (hC : C ≤ 1099511627776) (hL : L ≤ 1099511627776)
    (o : Op) (tv : Value) (ho : OpOk K o) (hs : o.s.size ≤ 1099511627776) (hl : o.tails.length ≤ 1099511627776) (ht : Ints w A tv o.tails) :
    Calls Try.prog 22 #[ptr d, opVal o tv] w fun e w' => ∃ r σ', e = .returned (.int .i64 r) ∧ Step σ o r σ' ∧ DiskAt w' (ext A w w') d K.length σ' ∧ Keeps A w w' := by
  by_cases h0 : o.kind = 0
  · exact do0 h hf hKl hC o tv ho h0
  by_cases h1 : o.kind = 1
  · exact do1 h hf hKl hC (by omega) o tv ho hs h1
  by_cases h2 : o.kind = 2
  · exact do2 h hf hKl hC (by omega) o tv ho hs h2
  by_cases h3 : o.kind = 3
  · exact do3 h hf hKl hC (by omega) o tv ho hs h3
  by_cases h4 : o.kind = 4
  · exact do4 h hf hKl hC (by omega) o tv ho hs h4
  by_cases h5 : o.kind = 5
  · exact do5 h hf hKl hC (by omega) o tv ho hs h5
  by_cases h6 : o.kind = 6
  · exact do6 h o tv h6
  by_cases h7 : o.kind = 7
  · obtain ⟨ao, cap, rfl, hc1, hc2, hc3⟩ := ht
    by_cases hn : o.tails.length = 0
    · rw [hn]
      exact do7_none h hf hKl hC hL o ao cap (List.eq_nil_of_length_eq_zero hn) h7
    · obtain ⟨b, off, rfl, hb, hcs⟩ := hc3 hn
      exact do7_some h hA hf hKl hC hL o b off cap hn hl hc1 hc2 hb hcs h7
  · exact do8 h o tv (by omega)

/-- how much a call holds -/
def Op.load (o : Op) : Nat := o.name.size + o.s.size + o.tails.length + 1

/-- a list of calls that is handed in -/
def Script (w : World) (v : Value) (os : List Op) : Prop :=
  ∃ ao cap, v = .slice ao os.length cap ∧ cap ≤ 9223372036854775807 ∧ os.length ≤ cap ∧
    (os.length ≠ 0 → ∃ b off, ao = some ⟨b, off, none⟩ ∧ ∀ k o, os[k]? = some o → ∃ tv,
      w.cell? ⟨b, off + k * 5, none⟩ = some (.int .i64 o.kind) ∧ w.cell? ⟨b, off + k * 5 + 1, none⟩ = some (.string o.name) ∧ w.cell? ⟨b, off + k * 5 + 2, none⟩ = some (.string o.s) ∧
      w.cell? ⟨b, off + k * 5 + 3, none⟩ = some (.int .i64 o.n) ∧ w.cell? ⟨b, off + k * 5 + 4, none⟩ = some tv ∧ Ints w (fun _ => False) tv o.tails)

theorem Ints.over {w w' : World} {A : Nat → Prop} {v : Value} {ts : List Int} (h : Ints w (fun _ => False) v ts) (k : Fresh w w') (hA : ∀ i, A i → w.heap.size ≤ i) : Ints w' A v ts := by
  obtain ⟨ao, cap, rfl, h1, h2, h3⟩ := h
  refine ⟨ao, cap, rfl, h1, h2, fun hn => ?_⟩
  obtain ⟨b, off, rfl, _, hcs⟩ := h3 hn
  refine ⟨b, off, rfl, fun e => ?_, fun j t ht => k.cell (hcs j t ht) (fun e => e)⟩
  obtain ⟨t, ht⟩ : ∃ t, ts[0]? = some t := ⟨ts[0]'(by omega), List.getElem?_eq_getElem _⟩
  have := cell_lt (hcs 0 t ht)
  have := hA b e
  omega

theorem Ints.of_alloc {w : World} {A : Nat → Prop} {v : Value} {ts : List Int} (h : Ints w A v ts) (o : Obj) : Ints (w.alloc o) A v ts := by
  obtain ⟨ao, cap, rfl, h1, h2, h3⟩ := h
  refine ⟨ao, cap, rfl, h1, h2, fun hn => ?_⟩
  obtain ⟨b, off, rfl, hb, hcs⟩ := h3 hn
  exact ⟨b, off, rfl, hb, fun j t ht => ((Keeps.refl (fun _ => False) w).alloc o).cell (hcs j t ht) (fun e => e)⟩

/-- a disk that was made behind w, and what has been done to it -/
def Live (w wr : World) (A : Nat → Prop) (d : Nat) (K : List Text) (C L : Nat) (σ : Dk) : Prop :=
  (∀ k, A k → w.heap.size ≤ k ∧ k < wr.heap.size) ∧ DiskAt wr A d K.length σ ∧ Fits K C L σ ∧ Fresh w wr

theorem Live.next {w wr w1 : World} {A : Nat → Prop} {d : Nat} {K : List Text} {C L C' L' : Nat} {σ σ' : Dk} (h : Live w wr A d K C L σ) (hd : DiskAt w1 (ext A wr w1) d K.length σ') (k : Keeps A wr w1) (hf : Fits K C' L' σ') : Live w w1 (ext A wr w1) d K C' L' σ' := by
  obtain ⟨h1, _, _, h4⟩ := h
  have := h4.size
  have := k.size
  refine ⟨fun i hi => ?_, hd, hf, h4.then k (fun i hi e => ?_)⟩
  · rcases hi with hi | hi
    · have := h1 i hi; exact ⟨this.1, by omega⟩
    · exact ⟨by omega, hi.2⟩
  · have := (h1 i e).1; omega

theorem Live.fresh {w wr w1 : World} {A : Nat → Prop} {d : Nat} {K : List Text} {C L : Nat} {σ : Dk} (h : Live w wr A d K C L σ) (k : Fresh wr w1) : Live w w1 A d K C L σ := by
  obtain ⟨h1, h2, h3, h4⟩ := h
  have := k.size
  exact ⟨fun i hi => ⟨(h1 i hi).1, by have := (h1 i hi).2; omega⟩, h2.fresh k, h3, h4.trans k⟩

/-- the first i calls' load -/
def loadTo (os : List Op) (i : Nat) : Nat := ((os.take i).map Op.load).sum

theorem loadTo_succ {os : List Op} {i : Nat} {o : Op} (h : os[i]? = some o) : loadTo os (i + 1) = loadTo os i + o.load := by
  unfold loadTo
  rw [List.take_add_one, h]
  simp

theorem sum_take_le : ∀ (l : List Nat) (i : Nat), (l.take i).sum ≤ l.sum
  | [], i => by simp
  | a :: l, 0 => by simp
  | a :: l, i + 1 => by have := sum_take_le l i; simp only [List.take_succ_cons, List.sum_cons]; omega

theorem loadTo_le (os : List Op) (i : Nat) : loadTo os i ≤ (os.map Op.load).sum := by
  unfold loadTo
  rw [List.map_take]
  exact sum_take_le _ _

theorem load_mem {os : List Op} {o : Op} (h : o ∈ os) : o.load ≤ (os.map Op.load).sum := by
  induction os with
  | nil => cases h
  | cons a l ih =>
    simp only [List.map_cons, List.sum_cons]
    rcases List.mem_cons.1 h with rfl | h
    · omega
    · have := ih h; omega

/-- the names that a script names -/
def namesOf (os : List Op) : List Text := os.flatMap (fun o => [o.name.data.toList, o.s.data.toList])

theorem namesOf_length (os : List Op) : (namesOf os).length = 2 * os.length := by
  induction os with
  | nil => rfl
  | cons a l ih =>
    have e : namesOf (a :: l) = a.name.data.toList :: a.s.data.toList :: namesOf l := rfl
    rw [e]
    simp only [List.length_cons, ih]
    omega

/-- calls that are in order -/
def Calm (K : List Text) (os : List Op) : Prop := (∀ o ∈ os, OpOk K o) ∧ (os.map Op.load).sum ≤ 2097152

end Go.Proofs.Ytegbkpjcjlihmaa
