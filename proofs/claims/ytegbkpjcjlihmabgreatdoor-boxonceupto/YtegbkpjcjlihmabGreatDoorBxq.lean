/-
  What is told of a user with one letter at the most, plain.
-/
import Derived.Test.YtegbkpjcjlihmabGreatDoorBxp
import Derived.Test.YtegbkpjcjlihmabGreatDoorLtc
namespace Go.Proofs.YtegbkpjcjlihmabGreatDoor

theorem filt_one {u k n0 : Text} (h0 : letterOf n0 = some (u, k)) : ∀ ks : List Text, ks.Nodup → (∀ s ∈ ks, ∀ k', letterOf s = some (u, k') → s = n0) → (ks.filterMap letterOf).filter (fun x => x.1 == u) = if n0 ∈ ks then [(u, k)] else []
  | [], _, _ => by simp
  | s :: ks, hn, h => by
    have h1 := List.nodup_cons.1 hn
    have ih := filt_one h0 ks h1.2 (fun t ht => h t (by simp [ht]))
    by_cases e : s = n0
    · subst e
      rw [if_neg h1.1] at ih
      rw [if_pos (by simp), List.filterMap_cons, h0]
      simp only [List.filter_cons, beq_self_eq_true, if_true, ih]
    · have hm : (n0 ∈ s :: ks) ↔ n0 ∈ ks := by
        rw [List.mem_cons]
        exact ⟨fun h => h.resolve_left (fun e' => e e'.symm), .inr⟩
      have e2 : (if n0 ∈ s :: ks then [(u, k)] else []) = if n0 ∈ ks then [(u, k)] else ([] : List Ltr) := by
        by_cases hk : n0 ∈ ks
        · rw [if_pos hk, if_pos (hm.2 hk)]
        · rw [if_neg hk, if_neg (fun h => hk (hm.1 h))]
      rw [e2, ← ih, List.filterMap_cons]
      cases hl : letterOf s with
      | none => rfl
      | some x =>
        have hx : (x.1 == u) = false := by
          rw [beq_eq_false_iff_ne]
          intro eu
          exact e (h s (by simp) x.2 (by rw [hl, ← eu]))
        simp [hx]

theorem sortL_perm (l : List Ltr) : (sortL l).Perm l := List.mergeSort_perm _ _

theorem told_one {σ : Dk} {u k n0 : Text} {ks : List Text} (h0 : letterOf n0 = some (u, k)) (hn0 : n0 = nameOf u k) (hs : Sorted σ.now ks) (h : ∀ s ∈ ks, ∀ k', letterOf s = some (u, k') → s = n0) :
    toldOf σ u (sortL (ks.filterMap letterOf)) = if (σ.now n0).isSome = true then [(k, (σ.read n0).getD [])] else [] := by
  have hp := (sortL_perm (ks.filterMap letterOf)).filter (fun x => x.1 == u)
  rw [filt_one h0 ks hs.nodup h] at hp
  unfold toldOf
  by_cases hk : n0 ∈ ks
  · rw [if_pos hk] at hp
    rw [List.perm_singleton.1 hp, if_pos ((hs.mem n0).1 hk), hn0]
    rfl
  · rw [if_neg hk] at hp
    rw [List.perm_nil.1 hp, if_neg (fun e => hk ((hs.mem n0).2 e))]
    rfl

theorem users_one {σ : Dk} {u k n0 : Text} {ks : List Text} (h0 : letterOf n0 = some (u, k)) (hs : Sorted σ.now ks) (hin : n0 ∈ ks) (h : ∀ s ∈ ks, ∀ x, letterOf s = some x → s = n0) :
    Lib.compact ((sortL (ks.filterMap letterOf)).map (·.1)) = [u] := by
  have hall : ks.filterMap letterOf = (ks.filterMap letterOf).filter (fun x => x.1 == u) := by
    refine (List.filter_eq_self.2 (fun x hx => ?_)).symm
    obtain ⟨s, h1, h2⟩ := List.mem_filterMap.1 hx
    have := h s h1 x h2
    rw [this, h0] at h2
    rw [← Option.some.inj h2]
    simp
  have hp := sortL_perm (ks.filterMap letterOf)
  rw [hall, filt_one h0 ks hs.nodup (fun s hs' k' hl => h s hs' _ hl), if_pos hin] at hp
  rw [hall, filt_one h0 ks hs.nodup (fun s hs' k' hl => h s hs' _ hl), if_pos hin, List.perm_singleton.1 hp]
  simp [Lib.compact, Lib.compactUpTo, Lib.keeps, List.range_succ]

theorem read_boxed {Lt : Text → Prop} {D : Text → Text} {K : List Text} {C L : Nat} {σ : Dk} {s : Text} (hb : Boxed Lt D σ) (hf : Fits K C L σ) (hl : Lt s) (hs : (σ.now s).isSome = true) : (σ.read s).getD [] = D s := by
  unfold Dk.read
  cases h : σ.now s with
  | none => rw [h] at hs; cases hs
  | some x => exact (hb.now hf hl h).1

end Go.Proofs.YtegbkpjcjlihmabGreatDoor
