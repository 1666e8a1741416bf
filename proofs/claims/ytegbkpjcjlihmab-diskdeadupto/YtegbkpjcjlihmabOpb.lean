/-
  do: a change is made, and kept. toWrite: the file that a call is for.
-/
import Derived.Test.YtegbkpjcjlihmabOpa
namespace Go.Proofs.Ytegbkpjcjlihmab
open Go.RowKit Go.Maps

theorem info67 : (Try.prog.info? 67).map (fun i => (i.zero.map (fun z => z.cells.size), i.size, i.bytes)) = some (some 1, 1, 8) := by kernel_rfl
theorem info67' : ∃ i z, Try.prog.info? 67 = some i ∧ i.zero = some z ∧ z.cells.size = 1 ∧ i.size = 1 ∧ i.bytes = 8 := by
  obtain ⟨i, hi, h⟩ := Option.map_eq_some_iff.1 info67
  simp only [Prod.mk.injEq] at h
  obtain ⟨z, hz, h1⟩ := Option.map_eq_some_iff.1 h.1
  exact ⟨i, z, hi, hz, h1, h.2.1, h.2.2⟩

/-- what a kept function is called with -/
def Caught (w : World) (v : Value) (c : Chg) (f : Nat) (xs : Array Value) : Prop :=
  v = .func (.func f) #[] xs ∧ ∀ (m k : Nat) (M : Names), MapAt w m k M → k < maxLen →
    Calls Try.prog f (#[.map (some m)] ++ xs) w fun e w' => e = .returned (.tuple #[]) ∧ MapAt w' m (k + 1) (c.app M) ∧ Keeps (fun i => i = m) w w' ∧ w'.heap.size = w.heap.size

theorem ChgAt.create {w : World} {A : Nat → Prop} {v : Value} {s : Text} {x : Nat} (h : ChgAt w A v (.create s x)) : ∃ p q, Caught w v (.create s x) 26 #[ptr p, ptr q] := by
  obtain ⟨p, q, rfl, ⟨_, hp⟩, ⟨_, b, hq, rfl, hb⟩⟩ := h
  exact ⟨p, q, rfl, fun m k M hm hk => create1_any m k M w hm hk p q x b hp hq hb⟩

theorem ChgAt.rename {w : World} {A : Nat → Prop} {v : Value} {a b : Text} {x : Nat} (h : ChgAt w A v (.rename a b x)) : ∃ p q r, Caught w v (.rename a b x) 30 #[ptr p, ptr q, ptr r] := by
  obtain ⟨p, q, r, rfl, ⟨_, s, hp, rfl, hs⟩, ⟨_, hq⟩, ⟨_, t, hr, rfl, ht⟩⟩ := h
  exact ⟨p, q, r, rfl, fun m k M hm hk => rename1_any m k M w hm hk p q r x s t hp hq hr hs ht⟩

theorem ChgAt.remove {w : World} {A : Nat → Prop} {v : Value} {s : Text} (h : ChgAt w A v (.remove s)) : ∃ q, Caught w v (.remove s) 31 #[ptr q] := by
  obtain ⟨q, rfl, ⟨_, b, hq, rfl, hb⟩⟩ := h
  refine ⟨q, rfl, fun m k M hm _ => (remove1_any m k M w hm q b hq hb).mono ?_⟩
  rintro e w' ⟨rfl, h1, h2⟩
  exact ⟨rfl, h1.mono (by omega), h2⟩

/-- the disk behind a change -/
def Dk.did (σ : Dk) (c : Chg) : Dk := { σ with now := c.app σ.now, chs := σ.chs ++ [c] }

/-- behind the change of names: the rest of 'do' -/
theorem Inner.didRow {w w1 w2 : World} {A : Nat → Prop} {d n : Nat} {σ : Dk} {mn ms : Nat} {cv cv' : Value} {vals : List Value} {bv : Nat → Value} {v : Value} {c : Chg}
    (h : Inner w A d n σ mn ms cv vals bv) (hc : ChgAt w A v c) (hm : MapAt w1 mn n (c.app σ.now)) (k1 : Keeps (fun i => i = mn) w w1)
    (k2 : Keeps (fun i => cv.ownBlock = some i) w1 w2) (hrow : w2.ownsRow 0 67 1 cv' (vals.length + 1) (vals ++ [v])) (hnew : ∀ k, cv'.ownBlock = some k → cv.ownBlock = some k ∨ (w.heap.size ≤ k ∧ k < w2.heap.size)) :
    Inner (w2.setCell ⟨d, 2, none⟩ cv') (ext A w w2) d n (σ.did c) mn ms cv' (vals ++ [v]) bv ∧ Keeps A w (w2.setCell ⟨d, 2, none⟩ cv') := by
  have h1 := h.setNow hm k1
  have hd1 : tag w1 d = some 46 := h1.tagD
  have hd2 : w2.heap[d]? = some (.cells (headOf mn ms cv σ.left) 46 (0, 0)) := k2.heap h1.head (fun e => ne_of_tag h1.tagD (h1.tagR e) (by decide) rfl)
  have hh := heap_setCell_at hd2 2 cv'
  have k3 : Keeps (fun i => i = d) w2 (w2.setCell ⟨d, 2, none⟩ cv') := (Keeps.refl (fun i => i = d) w2).setCell (p := ⟨d, 2, none⟩) (fun _ => rfl) _
  have k23 : Keeps (fun i => i = d ∨ cv.ownBlock = some i) w1 (w2.setCell ⟨d, 2, none⟩ cv') := (k2.mono (fun _ _ e => .inr e)).then k3 (fun _ _ e => .inl e)
  have hrd : ∀ k, cv'.ownBlock = some k → k ≠ d := fun k hk => ne_of_tag (owns_tag hrow hk) (tag_cells hd2) (by decide)
  have hc1 : ChgAt w1 A v c := hc.kept k1 (fun j _ ht e => ne_of_tag ht h.tagN (by decide) e) (fun j _ ht e => ne_of_tag ht h.tagN (by decide) e) (fun _ h => h)
  have dis : ∀ i t, tag w1 i = some t → t ≠ 46 → t ≠ 67 → ¬ (i = d ∨ cv.ownBlock = some i) := fun i t ht a b e => e.elim (fun e => ne_of_tag ht hd1 a e) (fun e => ne_of_tag ht (h1.tagR e) b rfl)
  refine ⟨?_, ?_⟩
  · refine h1.setHead (left := σ.left) (chs := σ.chs ++ [c]) ?_ k23 (fun _ h => .inl h) ?_ ?_ ?_ ?_
    · rw [hh]; rfl
    · refine k3.owns ?_ (fun k hk e => hrd k hk e)
      simpa using hrow
    · simp [h.len]
    · intro i u c' hu hc'
      have e1 := h.len
      by_cases hi : i < vals.length
      · rw [List.getElem?_append_left hi] at hu
        rw [List.getElem?_append_left (by omega)] at hc'
        exact (h1.chg i u c' hu hc').kept k23 (fun j _ ht => dis j _ ht (by decide) (by decide)) (fun j _ ht => dis j _ ht (by decide) (by decide)) (fun _ h => .inl h)
      · rw [List.getElem?_append_right (by omega)] at hu
        rw [List.getElem?_append_right (by omega)] at hc'
        have e0 : i - vals.length = 0 := by
          by_cases h0 : i - vals.length = 0
          · exact h0
          · obtain ⟨j, hj⟩ : ∃ j, i - vals.length = j + 1 := ⟨i - vals.length - 1, by omega⟩
            rw [hj] at hu
            simp at hu
        rw [e0] at hu
        rw [← e1, e0] at hc'
        simp at hu hc'
        subst hu
        subst hc'
        exact hc1.kept k23 (fun j _ ht => dis j _ ht (by decide) (by decide)) (fun j _ ht => dis j _ ht (by decide) (by decide)) (fun _ h => .inl h)
    · intro k hk
      rcases hnew k hk with h' | h'
      · exact .inl (h.ownR k h')
      · exact .inr h'
  · refine (k1.mono (fun i _ e => by subst e; exact h.ownN)).then k23 (fun i _ e => ?_)
    rcases e with rfl | e
    · exact h.ownD
    · exact h.ownR i e

end Go.Proofs.Ytegbkpjcjlihmab
