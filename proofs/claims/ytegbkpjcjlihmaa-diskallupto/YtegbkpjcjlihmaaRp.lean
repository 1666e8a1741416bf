/-
  The reference's lists of names: plain.
-/
import Derived.Test.YtegbkpjcjlihmaaMp
namespace Go.Proofs.Ytegbkpjcjlihmaa
open Go.Maps

/-- a name, and its file's number -/
abbrev Ent := Text × Nat

/-- with e, one of that name replaced -/
def withGo (e : Ent) : Bool → List Ent → List Ent
  | done, [] => if done then [] else [e]
  | done, a :: l => (if !done && !decide (a.1 < e.1) then [e] else []) ++ ((if a.1 = e.1 then [] else [a]) ++ withGo e (done || !decide (a.1 < e.1)) l)

def withE (l : List Ent) (e : Ent) : List Ent := withGo e false l
def withoutE (l : List Ent) (s : Text) : List Ent := l.filter (fun a => decide (a.1 ≠ s))

def Rising (l : List Ent) : Prop := l.Pairwise (fun a b => a.1 < b.1)

theorem lt_irrefl' (s : Text) : ¬ s < s := List.lt_irrefl s
theorem lt_trans' {a b c : Text} (h : a < b) (k : b < c) : a < c := List.lt_trans h k

theorem with_done (e : Ent) : ∀ l : List Ent, withGo e true l = l.filter (fun a => decide (a.1 ≠ e.1))
  | [] => rfl
  | a :: l => by
    unfold withGo
    rw [Bool.true_or, with_done e l]
    by_cases h : a.1 = e.1
    · simp [h]
    · simp [h]

theorem with_mem (e : Ent) : ∀ (l : List Ent) (a : Ent), a ∈ withGo e false l ↔ a = e ∨ (a ∈ l ∧ a.1 ≠ e.1)
  | [], a => by simp [withGo]
  | b :: l, a => by
    unfold withGo
    by_cases h : b.1 < e.1
    · have hne : b.1 ≠ e.1 := fun e' => lt_irrefl' e.1 (e' ▸ h)
      simp only [h, decide_true, Bool.not_true, Bool.and_false, Bool.or_false]
      rw [if_neg hne]
      simp only [Bool.false_eq_true, if_false, List.nil_append, List.mem_append, with_mem e l a, List.mem_cons, List.not_mem_nil, or_false]
      constructor
      · rintro (rfl | rfl | ⟨h1, h2⟩)
        · exact .inr ⟨.inl rfl, hne⟩
        · exact .inl rfl
        · exact .inr ⟨.inr h1, h2⟩
      · rintro (rfl | ⟨rfl | h1, h2⟩)
        · exact .inr (.inl rfl)
        · exact .inl rfl
        · exact .inr (.inr ⟨h1, h2⟩)
    · simp only [h, decide_false, Bool.not_false, Bool.and_true, Bool.or_true]
      rw [with_done]
      by_cases hne : b.1 = e.1
      · rw [if_pos hne]
        simp only [if_true, List.mem_append, List.mem_filter, List.mem_cons, decide_eq_true_eq, List.not_mem_nil, false_or, or_false]
        constructor
        · rintro (rfl | ⟨h1, h2⟩)
          · exact .inl rfl
          · exact .inr ⟨.inr h1, h2⟩
        · rintro (rfl | ⟨rfl | h1, h2⟩)
          · exact .inl rfl
          · exact absurd hne h2
          · exact .inr ⟨h1, h2⟩
      · rw [if_neg hne]
        simp only [if_true, List.mem_append, List.mem_filter, List.mem_cons, decide_eq_true_eq, List.not_mem_nil, or_false]
        constructor
        · rintro (rfl | rfl | ⟨h1, h2⟩)
          · exact .inl rfl
          · exact .inr ⟨.inl rfl, hne⟩
          · exact .inr ⟨.inr h1, h2⟩
        · rintro (rfl | ⟨rfl | h1, h2⟩)
          · exact .inl rfl
          · exact .inr (.inl rfl)
          · exact .inr (.inr ⟨h1, h2⟩)

theorem tri : ∀ a b : Text, a < b ∨ a = b ∨ b < a
  | [], [] => .inr (.inl rfl)
  | [], _ :: _ => .inl (by simp)
  | _ :: _, [] => .inr (.inr (by simp))
  | x :: a, y :: b => by
    rcases Nat.lt_trichotomy x.toNat y.toNat with h | h | h
    · exact .inl (List.cons_lt_cons_iff.2 (.inl (UInt8.lt_iff_toNat_lt.2 h)))
    · obtain rfl : x = y := UInt8.toNat_inj.1 h
      rcases tri a b with h1 | h1 | h1
      · exact .inl (List.cons_lt_cons_iff.2 (.inr ⟨rfl, h1⟩))
      · exact .inr (.inl (by rw [h1]))
      · exact .inr (.inr (List.cons_lt_cons_iff.2 (.inr ⟨rfl, h1⟩)))
    · exact .inr (.inr (List.cons_lt_cons_iff.2 (.inl (UInt8.lt_iff_toNat_lt.2 h))))

theorem le_of_not_lt' {a b : Text} (h : ¬ a < b) (hne : a ≠ b) : b < a := by
  rcases tri a b with h1 | h1 | h1
  · exact absurd h1 h
  · exact absurd h1 hne
  · exact h1

theorem with_rising (e : Ent) : ∀ (l : List Ent), Rising l → Rising (withGo e false l)
  | [], _ => by simp [withGo, Rising]
  | b :: l, hl => by
    obtain ⟨hb, hl'⟩ := List.pairwise_cons.1 hl
    unfold withGo
    by_cases h : b.1 < e.1
    · have hne : b.1 ≠ e.1 := fun e' => lt_irrefl' e.1 (e' ▸ h)
      simp only [h, decide_true, Bool.not_true, Bool.and_false, Bool.or_false]
      rw [if_neg hne]
      simp only [Bool.false_eq_true, if_false, List.nil_append]
      refine List.pairwise_cons.2 ⟨fun a ha => ?_, with_rising e l hl'⟩
      rcases (with_mem e l a).1 ha with rfl | ⟨h1, _⟩
      · exact h
      · exact hb a h1
    · simp only [h, decide_false, Bool.not_false, Bool.and_true, Bool.or_true]
      rw [with_done]
      have hf : Rising (l.filter (fun a => decide (a.1 ≠ e.1))) := hl'.filter _
      have hgt : ∀ a ∈ l, e.1 < a.1 := fun a ha => by
        have h1 := hb a ha
        by_cases hne : b.1 = e.1
        · rw [← hne]; exact h1
        · exact lt_trans' (le_of_not_lt' h hne) h1
      by_cases hne : b.1 = e.1
      · rw [if_pos hne]
        simp only [if_true, List.nil_append, List.singleton_append]
        exact List.pairwise_cons.2 ⟨fun a ha => hgt a (List.mem_filter.1 ha).1, hf⟩
      · rw [if_neg hne]
        simp only [if_true, List.singleton_append]
        refine List.pairwise_cons.2 ⟨fun a ha => ?_, List.pairwise_cons.2 ⟨fun a ha => hb a (List.mem_filter.1 ha).1, hf⟩⟩
        rcases List.mem_cons.1 ha with rfl | ha
        · exact le_of_not_lt' h hne
        · exact hgt a (List.mem_filter.1 ha).1

/-- the list of M's names, files numbered by φ -/
def EntsOf (φ : Nat → Nat) (M : Names) (l : List Ent) : Prop := Rising l ∧ ∀ s k, (s, k) ∈ l ↔ ∃ x, M s = some x ∧ φ x = k

theorem EntsOf.put {φ : Nat → Nat} {M : Names} {l : List Ent} (h : EntsOf φ M l) (s : Text) (x : Nat) : EntsOf φ (putN M s x) (withE l (s, φ x)) := by
  refine ⟨with_rising _ l h.1, fun t k => ?_⟩
  unfold withE
  rw [with_mem]
  unfold putN
  by_cases e : t = s
  · subst e
    simp only [if_true]
    constructor
    · rintro (h1 | ⟨_, h1⟩)
      · exact ⟨x, rfl, (Prod.mk.inj h1).2.symm⟩
      · exact absurd rfl h1
    · rintro ⟨y, hy, rfl⟩
      exact .inl (by rw [Option.some.inj hy])
  · simp only [if_neg e]
    rw [h.2 t k]
    constructor
    · rintro (h1 | ⟨h1, _⟩)
      · exact absurd (Prod.mk.inj h1).1 e
      · exact h1
    · intro h1
      exact .inr ⟨h1, e⟩

theorem EntsOf.del {φ : Nat → Nat} {M : Names} {l : List Ent} (h : EntsOf φ M l) (s : Text) : EntsOf φ (delN M s) (withoutE l s) := by
  refine ⟨h.1.filter _, fun t k => ?_⟩
  unfold withoutE
  rw [List.mem_filter, h.2 t k]
  unfold delN
  by_cases e : t = s
  · subst e
    simp
  · simp [e]

theorem EntsOf.congr {φ ψ : Nat → Nat} {M : Names} {l : List Ent} (h : EntsOf φ M l) (he : ∀ s x, M s = some x → ψ x = φ x) : EntsOf ψ M l := by
  refine ⟨h.1, fun s k => ?_⟩
  rw [h.2 s k]
  constructor
  · rintro ⟨x, hx, rfl⟩; exact ⟨x, hx, he s x hx⟩
  · rintro ⟨x, hx, rfl⟩; exact ⟨x, hx, (he s x hx).symm⟩

theorem Rising.names {l : List Ent} (h : Rising l) : (l.map (·.1)).Pairwise (· < ·) := List.pairwise_map.2 h

/-- the names are the sorted ones -/
theorem EntsOf.sorted {φ : Nat → Nat} {M : Names} {l : List Ent} (h : EntsOf φ M l) {ks : List Text} (hk : Sorted M ks) : l.map (·.1) = ks := by
  have hn : (l.map (·.1)).Nodup := (h.1.names).imp (fun {a b} hab e => by rw [e] at hab; exact lt_irrefl' b hab)
  have hs : Sorted M ((l.map (·.1)).mergeSort leB) := ⟨l.map (·.1), rfl, hn, fun s => by
    rw [List.mem_map]
    constructor
    · rintro ⟨⟨t, k⟩, hm, rfl⟩
      obtain ⟨x, hx, _⟩ := (h.2 t k).1 hm
      rw [hx]; rfl
    · intro hs
      obtain ⟨x, hx⟩ := Option.isSome_iff_exists.1 hs
      exact ⟨(s, φ x), (h.2 s (φ x)).2 ⟨x, hx, rfl⟩, rfl⟩⟩
  rw [← hs.unique hk]
  have tr : ∀ a b c : List UInt8, leB a b = true → leB b c = true → leB a c = true := fun a b c h1 h2 => by simp only [leB, decide_eq_true_eq] at *; exact List.le_trans h1 h2
  have to : ∀ a b : List UInt8, (leB a b || leB b a) = true := fun a b => by simp only [leB, Bool.or_eq_true, decide_eq_true_eq]; exact List.le_total a b
  refine List.Perm.eq_of_pairwise (le := fun a b => leB a b = true) (fun a b _ _ h1 h2 => ?_) ((h.1.names).imp (fun {a b} hab => by simp only [leB, decide_eq_true_eq]; exact List.le_of_lt hab)) (List.pairwise_mergeSort tr to _) (List.mergeSort_perm _ leB).symm
  simp only [leB, decide_eq_true_eq] at h1 h2
  exact List.le_antisymm h1 h2

end Go.Proofs.Ytegbkpjcjlihmaa
