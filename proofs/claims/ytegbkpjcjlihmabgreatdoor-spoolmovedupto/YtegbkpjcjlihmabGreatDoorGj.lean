/-
  What is told of a user with one letter at the most, plain. | Letters in their order: plain.
-/
import Derived.Test.YtegbkpjcjlihmabGreatDoorGh
import Derived.Test.YtegbkpjcjlihmabGreatDoorGi
namespace Go.Proofs.YtegbkpjcjlihmabGreatDoor

theorem filt_one {u k n0 : Text} (h0 : letterOf n0 = some (u, k)) : ∀ ks : List Text, ks.Nodup → (∀ s ∈ ks, ∀ k', letterOf s = some (u, k') → s = n0) → (ks.filterMap letterOf).filter (fun x => x.1 == u) = if n0 ∈ ks then [(u, k)] else []
  | [], _, _ => by simp
  | s :: ks, hn, h => by
    have h1 := List.nodup_cons.1 hn
    have ih := filt_one h0 ks h1.2 (fun t ht => h t (by simp [ht]))
    by_cases e : s = n0
    · subst e
      rw [if_neg h1.1] at ih
      rw [if_pos (by simp), List.filterMap_cons, h0]
      simp only [List.filter_cons, beq_self_eq_true, if_true, ih]
    · have hm : (n0 ∈ s :: ks) ↔ n0 ∈ ks := by
        rw [List.mem_cons]
        exact ⟨fun h => h.resolve_left (fun e' => e e'.symm), .inr⟩
      have e2 : (if n0 ∈ s :: ks then [(u, k)] else []) = if n0 ∈ ks then [(u, k)] else ([] : List Ltr) := by
        by_cases hk : n0 ∈ ks
        · rw [if_pos hk, if_pos (hm.2 hk)]
        · rw [if_neg hk, if_neg (fun h => hk (hm.1 h))]
      rw [e2, ← ih, List.filterMap_cons]
      cases hl : letterOf s with
      | none => rfl
      | some x =>
        have hx : (x.1 == u) = false := by
          rw [beq_eq_false_iff_ne]
          intro eu
          exact e (h s (by simp) x.2 (by rw [hl, ← eu]))
        simp [hx]

theorem sortL_perm (l : List Ltr) : (sortL l).Perm l := List.mergeSort_perm _ _

theorem told_one {σ : Dk} {u k n0 : Text} {ks : List Text} (h0 : letterOf n0 = some (u, k)) (hn0 : n0 = nameOf u k) (hs : Sorted σ.now ks) (h : ∀ s ∈ ks, ∀ k', letterOf s = some (u, k') → s = n0) :
    toldOf σ u (sortL (ks.filterMap letterOf)) = if (σ.now n0).isSome = true then [(k, (σ.read n0).getD [])] else [] := by
  have hp := (sortL_perm (ks.filterMap letterOf)).filter (fun x => x.1 == u)
  rw [filt_one h0 ks hs.nodup h] at hp
  unfold toldOf
  by_cases hk : n0 ∈ ks
  · rw [if_pos hk] at hp
    rw [List.perm_singleton.1 hp, if_pos ((hs.mem n0).1 hk), hn0]
    rfl
  · rw [if_neg hk] at hp
    rw [List.perm_nil.1 hp, if_neg (fun e => hk ((hs.mem n0).2 e))]
    rfl

theorem users_one {σ : Dk} {u k n0 : Text} {ks : List Text} (h0 : letterOf n0 = some (u, k)) (hs : Sorted σ.now ks) (hin : n0 ∈ ks) (h : ∀ s ∈ ks, ∀ x, letterOf s = some x → s = n0) :
    Lib.compact ((sortL (ks.filterMap letterOf)).map (·.1)) = [u] := by
  have hall : ks.filterMap letterOf = (ks.filterMap letterOf).filter (fun x => x.1 == u) := by
    refine (List.filter_eq_self.2 (fun x hx => ?_)).symm
    obtain ⟨s, h1, h2⟩ := List.mem_filterMap.1 hx
    have := h s h1 x h2
    rw [this, h0] at h2
    rw [← Option.some.inj h2]
    simp
  have hp := sortL_perm (ks.filterMap letterOf)
  rw [hall, filt_one h0 ks hs.nodup (fun s hs' k' hl => h s hs' _ hl), if_pos hin] at hp
  rw [hall, filt_one h0 ks hs.nodup (fun s hs' k' hl => h s hs' _ hl), if_pos hin, List.perm_singleton.1 hp]
  simp [Lib.compact, Lib.compactUpTo, Lib.keeps, List.range_succ]

theorem read_boxed {Lt : Text → Prop} {D : Text → Text} {K : List Text} {C L : Nat} {σ : Dk} {s : Text} (hb : Boxed Lt D σ) (hf : Fits K C L σ) (hl : Lt s) (hs : (σ.now s).isSome = true) : (σ.read s).getD [] = D s := by
  unfold Dk.read
  cases h : σ.now s with
  | none => rw [h] at hs; cases hs
  | some x => exact (hb.now hf hl h).1

end Go.Proofs.YtegbkpjcjlihmabGreatDoor

namespace Go.Proofs.YtegbkpjcjlihmabGreatDoor
open Go.RowKit Go.Maps Go.Sort

/-- a letter: whose, its key, what is in it -/
abbrev Lt3 := Text × Text × Text
def lk (x : Lt3) : Ltr := (x.1, x.2.1)
def bef (x y : Lt3) : Prop := cmpL2 (lk x) (lk y) < 0
/-- they rise -/
def UpL (l : List Lt3) : Prop := l.Pairwise bef

def insL (x : Lt3) : List Lt3 → List Lt3
  | [] => [x]
  | y :: l => if cmpL2 (lk x) (lk y) < 0 then x :: y :: l else y :: insL x l

theorem insL_done (x : Lt3) : ∀ (l m : List Lt3), (∃ y ∈ l, bef x y) → insL x (l ++ m) = insL x l ++ m
  | [], _, ⟨_, h, _⟩ => by cases h
  | z :: l, m, ⟨y, hy, hb⟩ => by
    rw [List.cons_append]
    unfold insL
    by_cases h : cmpL2 (lk x) (lk z) < 0
    · rw [if_pos h, if_pos h]; rfl
    · rw [if_neg h, if_neg h, List.cons_append]
      have : y ∈ l := by
        rcases List.mem_cons.1 hy with rfl | h'
        · exact absurd hb h
        · exact h'
      rw [insL_done x l m ⟨y, this, hb⟩]

theorem insL_not (x : Lt3) : ∀ (l m : List Lt3), (∀ y ∈ l, ¬ bef x y) → insL x (l ++ m) = l ++ insL x m
  | [], _, _ => rfl
  | z :: l, m, h => by
    rw [List.cons_append]
    show (if cmpL2 (lk x) (lk z) < 0 then x :: z :: (l ++ m) else z :: insL x (l ++ m)) = _
    rw [if_neg (show ¬ cmpL2 (lk x) (lk z) < 0 from h z (by simp)), insL_not x l m (fun y hy => h y (by simp [hy])), List.cons_append]

theorem insL_mem (x y : Lt3) : ∀ l, y ∈ insL x l ↔ y = x ∨ y ∈ l
  | [] => by simp [insL]
  | z :: l => by
    unfold insL
    split
    · simp
    · simp only [List.mem_cons, insL_mem x y l]
      constructor
      · rintro (h | h | h) <;> simp [h]
      · rintro (h | h | h) <;> simp [h]

theorem insL_up {x : Lt3} : ∀ {l : List Lt3}, UpL l → (∀ y ∈ l, lk y ≠ lk x) → UpL (insL x l)
  | [], _, _ => by simp [insL, UpL]
  | z :: l, h, hn => by
    obtain ⟨h1, h2⟩ := List.pairwise_cons.1 h
    unfold insL
    split
    · rename_i hb
      refine List.pairwise_cons.2 ⟨fun y hy => ?_, h⟩
      rcases List.mem_cons.1 hy with rfl | hy
      · exact hb
      · exact cmpL2_trans hb (h1 y hy)
    · rename_i hb
      refine List.pairwise_cons.2 ⟨fun y hy => ?_, insL_up h2 (fun y hy => hn y (by simp [hy]))⟩
      rcases (insL_mem x y l).1 hy with rfl | hy
      · have e : cmpL2 (lk y) (lk z) ≠ 0 := fun e => hn z (by simp) (cmpL2_eq e).symm
        have := cmpL2_anti (lk y) (lk z)
        unfold bef
        omega
      · exact h1 y hy

/-- with a letter, unless there is one of that user and key -/
def withL (l : List Lt3) (x : Lt3) : List Lt3 := if lk x ∈ l.map lk then l else insL x l

theorem withL_up {l : List Lt3} {x : Lt3} (h : UpL l) : UpL (withL l x) := by
  unfold withL
  split
  · exact h
  · rename_i hn
    exact insL_up h (fun y hy e => hn (by rw [← e]; exact List.mem_map_of_mem hy))

theorem withL_keys {l : List Lt3} {x : Lt3} (p : Ltr) : p ∈ (withL l x).map lk ↔ p = lk x ∨ p ∈ l.map lk := by
  unfold withL
  split
  · rename_i h
    constructor
    · exact .inr
    · rintro (rfl | h')
      · exact h
      · exact h'
  · simp only [List.mem_map, insL_mem]
    constructor
    · rintro ⟨y, rfl | hy, rfl⟩
      · exact .inl rfl
      · exact .inr ⟨y, hy, rfl⟩
    · rintro (rfl | ⟨y, hy, rfl⟩)
      · exact ⟨x, .inl rfl, rfl⟩
      · exact ⟨y, .inr hy, rfl⟩

theorem withL_mem {l : List Lt3} {x y : Lt3} (h : y ∈ withL l x) : y = x ∧ lk x ∉ l.map lk ∨ y ∈ l := by
  unfold withL at h
  split at h
  · exact .inr h
  · rename_i hn
    rcases (insL_mem x y l).1 h with e | e
    · exact .inl ⟨e, hn⟩
    · exact .inr e

theorem withL_sub {l : List Lt3} {x y : Lt3} (h : y ∈ l) : y ∈ withL l x := by
  unfold withL
  split
  · exact h
  · exact (insL_mem x y l).2 (.inr h)

theorem withL_self {l : List Lt3} {x : Lt3} (h : lk x ∈ l.map lk) : withL l x = l := if_pos h

theorem withL_len {l : List Lt3} {x : Lt3} : (withL l x).length ≤ l.length + 1 := by
  have : ∀ l : List Lt3, (insL x l).length = l.length + 1 := by
    intro l
    induction l with
    | nil => rfl
    | cons y l ih =>
      unfold insL
      split
      · simp
      · simp [ih]
  unfold withL
  split
  · omega
  · rw [this]; omega

theorem UpL.keys {l : List Lt3} (h : UpL l) : (l.map lk).Pairwise (fun a b => cmpL2 a b < 0) := List.pairwise_map.2 h

theorem UpL.nodup {l : List Lt3} (h : UpL l) : (l.map lk).Nodup := by
  refine h.keys.imp fun {a b} hab e => ?_
  subst e
  have := swoL.irrefl a
  simp [ltOf] at this
  omega

/-- what is sorted -/
theorem sortL_eq {l m : List Ltr} (hn : l.Nodup) (hm : m.Pairwise (fun a b => cmpL2 a b < 0)) (h : ∀ x, x ∈ l ↔ x ∈ m) : sortL l = m := by
  have hnm : m.Nodup := by
    refine hm.imp fun {a b} hab e => ?_
    subst e
    have := swoL.irrefl a
    simp [ltOf] at this
    omega
  have hle : ∀ a b : Ltr, (!(ltOf cmpL2) b a) = true ↔ ¬ cmpL2 b a < 0 := fun a b => by simp [ltOf]
  refine List.Perm.eq_of_pairwise (le := fun a b => (!(ltOf cmpL2) b a) = true) (fun a b _ _ h1 h2 => ?_) ?_ ?_ (((List.mergeSort_perm l _).trans ((List.perm_ext_iff_of_nodup hn hnm).2 h)))
  · rw [hle] at h1 h2
    exact totL a b (by simp [ltOf]; omega) (by simp [ltOf]; omega)
  · refine List.pairwise_mergeSort (fun a b c h1 h2 => ?_) (fun a b => ?_) l
    · rw [hle] at *
      intro h3
      have n1 := swoL.ntrans c b a (by simp [ltOf]; omega) (by simp [ltOf]; omega)
      simp [ltOf] at n1
      omega
    · have := cmpL2_anti a b
      simp only [Bool.or_eq_true, hle]
      omega
  · refine hm.imp fun {a b} hab => ?_
    rw [hle, cmpL2_anti a b]
    omega

/-- what K says of letters' names -/
def CanonK (K : List Text) : Prop := ∀ s ∈ K, ∀ x, letterOf s = some x → s = nameOf x.1 x.2 ∧ x.1.length < 1000000000000000000

/-- the letters that are told -/
theorem letters_told {σ : Dk} {K : List Text} {C L : Nat} {ks : List Text} {l : List Lt3} (hK : CanonK K) (hf : Fits K C L σ) (hs : Sorted σ.now ks) (hl : UpL l)
    (hm : ∀ p : Ltr, p ∈ l.map lk ↔ (p.1.length < 1000000000000000000 ∧ (σ.now (nameOf p.1 p.2)).isSome = true)) : sortL (ks.filterMap letterOf) = l.map lk := by
  have hin : ∀ s ∈ ks, s ∈ K := fun s h => hf.nowK s ((hs.mem s).1 h)
  refine sortL_eq ?_ hl.keys fun p => ?_
  · refine (List.nodup_iff_pairwise_ne.1 hs.nodup |> fun h => ?_)
    refine List.pairwise_filterMap.2 (h.imp_of_mem fun {a b} ha hb hne x hx y hy e => hne ?_)
    rw [(hK a (hin a ha) x hx).1, (hK b (hin b hb) y hy).1, e]
  · rw [hm, List.mem_filterMap]
    constructor
    · rintro ⟨s, hs', hx⟩
      obtain ⟨e, hlen⟩ := hK s (hin s hs') p hx
      refine ⟨hlen, ?_⟩
      rw [← e]
      exact (hs.mem s).1 hs'
    · rintro ⟨hlen, hn⟩
      exact ⟨_, (hs.mem _).2 hn, letterOf_nameOf _ _ hlen⟩

theorem filter_told {σ : Dk} {l : List Lt3} (u : Text) (hd : ∀ x ∈ l, (σ.read (nameOf x.1 x.2.1)).getD [] = x.2.2) : toldOf σ u (l.map lk) = (l.filter (fun x => x.1 == u)).map (fun x => (x.2.1, x.2.2)) := by
  induction l with
  | nil => rfl
  | cons y l ih =>
    have ih := ih (fun x hx => hd x (by simp [hx]))
    unfold toldOf at *
    rw [List.map_cons, List.filter_cons, List.filter_cons]
    have e1 : (lk y).1 = y.1 := rfl
    have e2 : (lk y).2 = y.2.1 := rfl
    rw [e1]
    split
    · rw [List.map_cons, List.map_cons, ih, e1, e2, hd y (by simp)]
    · exact ih

end Go.Proofs.YtegbkpjcjlihmabGreatDoor
