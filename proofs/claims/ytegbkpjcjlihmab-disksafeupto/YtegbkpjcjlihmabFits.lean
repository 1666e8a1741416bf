/-
  What holds of a disk, whatever was called.
-/
import Derived.Test.YtegbkpjcjlihmabCrw
namespace Go.Proofs.Ytegbkpjcjlihmab
open Go.RowKit Go.Maps

structure Fits (K : List Text) (C L : Nat) (σ : Dk) : Prop where
  setK : ∀ i s, ((σ.settled i).safe s).isSome = true → s ∈ K
  setIn : ∀ i s x, (σ.settled i).safe s = some x → x ∈ σ.files
  setInj : ∀ i s t x, (σ.settled i).safe s = some x → (σ.settled i).safe t = some x → s = t
  setNow : (σ.settled σ.chs.length).safe = σ.now
  chgs : σ.chs.length ≤ C
  sizes : Sizes σ L
  left : ∀ l, σ.left = some l → l < 9223372036854775808

theorem Fits.empty (K : List Text) (C L : Nat) : Fits K C L Dk.empty := by
  have e : ∀ i, (Dk.empty.settled i).safe = fun _ => none := fun i => by simp [Dk.settled, Dk.empty, appAll]
  exact {
    setK := fun i s h => by rw [e] at h; cases h
    setIn := fun i s x h => by rw [e] at h; cases h
    setInj := fun i s t x h => by rw [e] at h; cases h
    setNow := e _
    chgs := Nat.zero_le _
    sizes := fun x hx => by cases hx
    left := fun l h => by cases h }

section
variable {K : List Text} {C L : Nat} {σ : Dk}

theorem Fits.nowK (h : Fits K C L σ) : ∀ s, (σ.now s).isSome = true → s ∈ K := fun s hs => h.setK σ.chs.length s (by rw [h.setNow]; exact hs)
theorem Fits.nowIn (h : Fits K C L σ) : ∀ s x, σ.now s = some x → x ∈ σ.files := fun s x hs => h.setIn σ.chs.length s x (by rw [h.setNow]; exact hs)
theorem Fits.nowInj (h : Fits K C L σ) : ∀ s t x, σ.now s = some x → σ.now t = some x → s = t := fun s t x hs ht => h.setInj σ.chs.length s t x (by rw [h.setNow]; exact hs) (by rw [h.setNow]; exact ht)

theorem Fits.mono (h : Fits K C L σ) {C' L' : Nat} (hC : C ≤ C') (hL : L ≤ L') : Fits K C' L' σ :=
  ⟨h.setK, h.setIn, h.setInj, h.setNow, Nat.le_trans h.chgs hC, fun x hx => ⟨(h.sizes x hx).1, Nat.le_trans (h.sizes x hx).2 hL⟩, h.left⟩

theorem Fits.setLeft (h : Fits K C L σ) (l : Option Nat) (hl : ∀ k, l = some k → k < 9223372036854775808) : Fits K C L { σ with left := l } :=
  ⟨h.setK, h.setIn, h.setInj, h.setNow, h.chgs, h.sizes, hl⟩

theorem Fits.tick (h : Fits K C L σ) : Fits K C L σ.tick := by
  refine h.setLeft _ (fun k hk => ?_)
  obtain ⟨l, hl, rfl⟩ := Option.map_eq_some_iff.1 hk
  have := h.left l hl
  omega

theorem Fits.wrote (h : Fits K C L σ) (x : Nat) {c : Text} {m : Nat} (hm : m ≤ c.length) (hc : c.length ≤ L) : Fits K C L (σ.wrote x c m) :=
  ⟨h.setK, h.setIn, h.setInj, h.setNow, h.chgs, h.sizes.wrote x hm hc, h.left⟩

theorem Fits.add (h : Fits K C L σ) (x : Nat) : Fits K C L (σ.add x) := by
  refine ⟨h.setK, fun i s y hy => List.mem_cons_of_mem _ (h.setIn i s y hy), h.setInj, h.setNow, h.chgs, fun y hy => ?_, h.left⟩
  by_cases e : y = x
  · subst e
    simp [Dk.add, upd_same]
  · simp only [Dk.add, upd_other _ _ e]
    exact h.sizes y (List.mem_of_ne_of_mem e hy)

theorem did_settled (h : Fits K C L σ) (c : Chg) (i : Nat) : ((σ.did c).settled i).safe = if i ≤ σ.chs.length then (σ.settled i).safe else c.app σ.now := by
  simp only [Dk.settled, Dk.did]
  split
  · rw [List.take_append_of_le_length (by assumption)]
  · rename_i hi
    rw [List.take_of_length_le (by simp; omega)]
    have := h.setNow
    simp only [Dk.settled, List.take_length] at this
    simp only [appAll] at this ⊢
    rw [List.foldl_append, this]
    rfl

theorem Fits.did (h : Fits K C L σ) (c : Chg) (hK : ∀ s, (c.app σ.now s).isSome = true → s ∈ K) (hIn : ∀ s x, c.app σ.now s = some x → x ∈ σ.files) (hInj : ∀ s t x, c.app σ.now s = some x → c.app σ.now t = some x → s = t) : Fits K (C + 1) L (σ.did c) := by
  refine ⟨fun i s hs => ?_, fun i s x hs => ?_, fun i s t x hs ht => ?_, ?_, ?_, h.sizes, h.left⟩
  · rw [did_settled h] at hs
    split at hs
    · exact h.setK i s hs
    · exact hK s hs
  · rw [did_settled h] at hs
    split at hs
    · exact h.setIn i s x hs
    · exact hIn s x hs
  · rw [did_settled h] at hs ht
    split at hs
    · rename_i hi
      rw [if_pos hi] at ht
      exact h.setInj i s t x hs ht
    · rename_i hi
      rw [if_neg hi] at ht
      exact hInj s t x hs ht
  · rw [did_settled h, if_neg (by simp [Dk.did])]
    rfl
  · have := h.chgs
    simp [Dk.did]
    omega

theorem flat_settled (σ : Dk) (h : σ.chs = []) (i : Nat) : (σ.settled i).safe = σ.safe := by simp [Dk.settled, h, appAll]

theorem Fits.synced (h : Fits K C L σ) (i : Nat) (hn : σ.now = (σ.settled i).safe) : Fits K C L { σ.settled i with chs := [] } := by
  have e : ∀ j, (({ σ.settled i with chs := [] } : Dk).settled j).safe = (σ.settled i).safe := fun j => flat_settled _ rfl j
  refine ⟨fun j s hs => ?_, fun j s x hs => ?_, fun j s t x hs ht => ?_, ?_, Nat.zero_le _, h.sizes, h.left⟩
  · rw [e] at hs; exact h.setK i s hs
  · rw [e] at hs; exact h.setIn i s x hs
  · rw [e] at hs ht; exact h.setInj i s t x hs ht
  · rw [e]; exact hn.symm

theorem Fits.crashed (h : Fits K C L σ) (i : Nat) (ks : List Text) (ts : List Int) : Fits K C L (σ.crashed i ks ts) := by
  obtain ⟨τ, hτ⟩ : ∃ τ : Dk, τ = { σ.settled i with chs := [] } := ⟨_, rfl⟩
  have hs := cr_safe τ ks ts ks.length
  have e0 : (σ.crashed i ks ts) = { τ.cr ks ts ks.length with now := (τ.cr ks ts ks.length).safe, left := none, chs := [] } := by rw [hτ]; rfl
  have hts : τ.safe = (σ.settled i).safe := by rw [hτ]
  have htf : τ.files = σ.files := by rw [hτ]; rfl
  have e : ∀ j, ((σ.crashed i ks ts).settled j).safe = (σ.settled i).safe := fun j => by
    rw [flat_settled _ (by rw [e0])]
    rw [e0]
    show (τ.cr ks ts ks.length).safe = _
    rw [hs.1, hts]
  have ef : (σ.crashed i ks ts).files = σ.files := by rw [e0]; show (τ.cr ks ts ks.length).files = _; rw [hs.2.1, htf]
  refine ⟨fun j s hs => ?_, fun j s x hs => ?_, fun j s t x hs ht => ?_, ?_, ?_, ?_, ?_⟩
  · rw [e] at hs; exact h.setK i s hs
  · rw [e] at hs; rw [ef]; exact h.setIn i s x hs
  · rw [e] at hs ht; exact h.setInj i s t x hs ht
  · rw [e, e0]
    show _ = (τ.cr ks ts ks.length).safe
    rw [hs.1, hts]
  · rw [e0]; exact Nat.zero_le _
  · rw [e0]
    have h1 : Sizes τ L := by rw [hτ]; exact h.sizes
    exact h1.cr (fun s x hx => by rw [htf]; rw [hts] at hx; exact h.setIn i s x hx) ks ts ks.length
  · rw [e0]; intro l hl; cases hl

/-! the calls -/

theorem Fits.creates (h : Fits K C L σ) {s : Text} (hs : s ∈ K) {e : Int} {σ' : Dk} (hc : σ.creates s e σ') : Fits K (C + 1) L σ' := by
  rcases hc with ⟨_, _, rfl⟩ | ⟨_, _, _, rfl⟩ | ⟨_, hn, x, hx, _, rfl⟩
  · exact h.tick.mono (by omega) (Nat.le_refl _)
  · exact h.tick.mono (by omega) (Nat.le_refl _)
  · refine (h.tick.add x).did _ ?_ ?_ ?_
    · exact put_in h.nowK hs x
    · intro t y hy
      simp only [Chg.app, putN] at hy
      split at hy
      · rw [← Option.some.inj hy]; exact List.mem_cons_self
      · exact List.mem_cons_of_mem _ (h.nowIn t y hy)
    · intro t u y ht hu
      simp only [Chg.app, putN] at ht hu
      split at ht
      · rename_i e1
        split at hu
        · rename_i e2; rw [e1, e2]
        · exact absurd (h.nowIn u y hu) (by rw [← Option.some.inj ht]; exact hx)
      · split at hu
        · exact absurd (h.nowIn t y ht) (by rw [← Option.some.inj hu]; exact hx)
        · exact h.nowInj t u y ht hu

theorem Fits.appends (h : Fits K C L σ) {s t : Text} {e : Int} {σ' : Dk} (hc : σ.appends s t e σ') : Fits K C (L + t.length) σ' := by
  rcases hc with ⟨_, _, rfl⟩ | ⟨_, _, _, rfl⟩ | ⟨_, x, hx, _, rfl⟩
  · exact h.tick.mono (Nat.le_refl _) (by omega)
  · exact h.tick.mono (Nat.le_refl _) (by omega)
  · have := h.sizes x (h.nowIn s x hx)
    exact (h.tick.mono (Nat.le_refl _) (by omega)).wrote x (by simp; omega) (by simp; omega)

theorem Fits.syncs (h : Fits K C L σ) {s : Text} {e : Int} {σ' : Dk} (hc : σ.syncs s e σ') : Fits K C L σ' := by
  rcases hc with ⟨_, _, rfl⟩ | ⟨_, _, _, rfl⟩ | ⟨_, x, hx, _, rfl⟩
  · exact h.tick
  · exact h.tick
  · have := h.sizes x (h.nowIn s x hx)
    exact h.tick.wrote x (Nat.le_refl _) this.2

theorem Fits.removes (h : Fits K C L σ) {s : Text} {e : Int} {σ' : Dk} (hc : σ.removes s e σ') : Fits K (C + 1) L σ' := by
  rcases hc with ⟨_, _, rfl⟩ | ⟨_, _, _, rfl⟩ | ⟨_, x, hx, _, rfl⟩
  · exact h.tick.mono (by omega) (Nat.le_refl _)
  · exact h.tick.mono (by omega) (Nat.le_refl _)
  · refine h.tick.did _ (del_in h.nowK _) ?_ ?_
    · intro t y hy
      simp only [Chg.app, delN] at hy
      split at hy
      · cases hy
      · exact h.nowIn t y hy
    · intro t u y ht hu
      simp only [Chg.app, delN] at ht hu
      split at ht
      · cases ht
      · split at hu
        · cases hu
        · exact h.nowInj t u y ht hu

theorem Fits.renames (h : Fits K C L σ) {s t : Text} (ht : t ∈ K) {e : Int} {σ' : Dk} (hc : σ.renames s t e σ') : Fits K (C + 1) L σ' := by
  rcases hc with ⟨_, _, rfl⟩ | ⟨_, _, _, rfl⟩ | ⟨_, x, hx, _, rfl⟩
  · exact h.tick.mono (by omega) (Nat.le_refl _)
  · exact h.tick.mono (by omega) (Nat.le_refl _)
  · have hne : ∀ u, delN σ.now s u = some x → False := fun u hu => by
      unfold delN at hu
      split at hu
      · cases hu
      · rename_i e; exact e (h.nowInj u s x hu hx)
    refine h.tick.did _ (put_in (del_in h.nowK _) ht x) ?_ ?_
    · intro u y hy
      simp only [Chg.app, putN] at hy
      split at hy
      · rw [← Option.some.inj hy]; exact h.nowIn s x hx
      · unfold delN at hy
        split at hy
        · cases hy
        · exact h.nowIn u y hy
    · intro u v y hu hv
      simp only [Chg.app, putN] at hu hv
      split at hu
      · rename_i e1
        split at hv
        · rename_i e2; rw [e1, e2]
        · rw [← Option.some.inj hu] at hv
          exact (hne v hv).elim
      · split at hv
        · rw [← Option.some.inj hv] at hu
          exact (hne u hu).elim
        · unfold delN at hu hv
          split at hu
          · cases hu
          · split at hv
            · cases hv
            · exact h.nowInj u v y hu hv

theorem Fits.syncsDir (h : Fits K C L σ) {e : Int} {σ' : Dk} (hc : σ.syncsDir e σ') : Fits K C L σ' := by
  rcases hc with ⟨_, _, rfl⟩ | ⟨_, _, rfl⟩
  · exact h.tick
  · exact h.tick.synced _ h.setNow.symm

end
end Go.Proofs.Ytegbkpjcjlihmab
