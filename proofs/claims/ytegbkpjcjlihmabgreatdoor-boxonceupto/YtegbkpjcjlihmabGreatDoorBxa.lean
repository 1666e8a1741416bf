/-
  Letters on a disk, plain: their files lie as a whole under their names alone, whatever is kept by a crash.
-/
import Derived.Test.YtegbkpjcjlihmabGreatDoorFits
namespace Go.Proofs.YtegbkpjcjlihmabGreatDoor

/-- names of Lt are of whole files, each with its D -/
structure Boxed (Lt : Text → Prop) (D : Text → Text) (σ : Dk) : Prop where
  whole : ∀ i s x, Lt s → (σ.settled i).safe s = some x → σ.cont x = D s ∧ σ.sure x = (D s).length
  apart : ∀ i s t x, Lt t → σ.now s = some x → (σ.settled i).safe t = some x → s = t

/-- a name that is there, whatever is kept by a crash -/
def Stays (σ : Dk) (s : Text) : Prop := ∀ i, ((σ.settled i).safe s).isSome = true
/-- a name that is nowhere -/
def Nowhere (σ : Dk) (s : Text) : Prop := ∀ i, (σ.settled i).safe s = none

section
variable {Lt : Text → Prop} {D : Text → Text} {σ σ' : Dk} {K : List Text} {C L : Nat} {s t : Text} {e : Int}

theorem Boxed.empty (Lt : Text → Prop) (D : Text → Text) : Boxed Lt D Dk.empty := by
  have h : ∀ i, (Dk.empty.settled i).safe = fun _ => none := fun i => by simp [Dk.settled, Dk.empty, appAll]
  exact ⟨fun i s x _ hs => (by rw [h] at hs; cases hs), fun i s t x _ _ ht => (by rw [h] at ht; cases ht)⟩

theorem Boxed.tick (h : Boxed Lt D σ) : Boxed Lt D σ.tick := ⟨h.whole, h.apart⟩
theorem Boxed.left (h : Boxed Lt D σ) (l : Option Nat) : Boxed Lt D { σ with left := l } := ⟨h.whole, h.apart⟩

theorem Boxed.now (h : Boxed Lt D σ) (hf : Fits K C L σ) {x : Nat} (hs : Lt s) (hx : σ.now s = some x) : σ.cont x = D s ∧ σ.sure x = (D s).length :=
  h.whole σ.chs.length s x hs (by rw [hf.setNow]; exact hx)

/-- a file of no letter is written -/
theorem Boxed.wrote (h : Boxed Lt D σ) (hs : ¬ Lt s) {x : Nat} (hx : σ.now s = some x) (c : Text) (m : Nat) : Boxed Lt D (σ.wrote x c m) := by
  refine ⟨fun i t y ht hy => ?_, h.apart⟩
  have hne : y ≠ x := fun e => by
    subst e
    exact hs (h.apart i s t y ht hx hy ▸ ht)
  simp only [Dk.wrote, upd_other _ _ hne]
  exact h.whole i t y ht hy

theorem Boxed.add (h : Boxed Lt D σ) (hf : Fits K C L σ) {x : Nat} (hx : x ∉ σ.files) : Boxed Lt D (σ.add x) := by
  refine ⟨fun i t y ht hy => ?_, h.apart⟩
  have hne : y ≠ x := fun e => hx (e ▸ hf.setIn i t y hy)
  simp only [Dk.add, upd_other _ _ hne]
  exact h.whole i t y ht hy

theorem Boxed.did {C' L' : Nat} (h : Boxed Lt D σ) (hf : Fits K C L σ) (c : Chg) (hf' : Fits K C' L' (σ.did c)) (hw : ∀ t x, Lt t → c.app σ.now t = some x → σ.cont x = D t ∧ σ.sure x = (D t).length)
    (ha : ∀ i u t x, Lt t → c.app σ.now u = some x → (σ.settled i).safe t = some x → u = t) : Boxed Lt D (σ.did c) := by
  refine ⟨fun i t x ht hx => ?_, fun i u t x ht hu hx => ?_⟩
  · rw [did_settled hf] at hx
    split at hx
    · exact h.whole i t x ht hx
    · exact hw t x ht hx
  · have hu' : c.app σ.now u = some x := hu
    rw [did_settled hf] at hx
    split at hx
    · exact ha i u t x ht hu' hx
    · exact hf'.nowInj u t x hu hx

theorem Boxed.creates (h : Boxed Lt D σ) (hf : Fits K C L σ) (hsK : s ∈ K) (hs : ¬ Lt s) (hc : σ.creates s e σ') : Boxed Lt D σ' := by
  have hf' := hf.creates hsK hc
  rcases hc with ⟨_, _, rfl⟩ | ⟨_, _, _, rfl⟩ | ⟨_, hn, x, hx, _, rfl⟩
  · exact h.tick
  · exact h.tick
  · refine (h.tick.add hf.tick hx).did (hf.tick.add x) _ hf' (fun t y ht hy => ?_) (fun i u t y ht hu hy => ?_)
    · simp only [Chg.app, putN] at hy
      split at hy
      · rename_i e1; exact absurd (e1 ▸ ht) hs
      · exact (h.tick.add hf.tick hx).now (hf.tick.add x) ht hy
    · simp only [Chg.app, putN] at hu
      split at hu
      · obtain rfl := Option.some.inj hu
        exact absurd (hf.setIn i t x hy) hx
      · exact h.apart i u t y ht hu hy

theorem Boxed.appends (h : Boxed Lt D σ) (hs : ¬ Lt s) (hc : σ.appends s t e σ') : Boxed Lt D σ' := by
  rcases hc with ⟨_, _, rfl⟩ | ⟨_, _, _, rfl⟩ | ⟨_, x, hx, _, rfl⟩
  · exact h.tick
  · exact h.tick
  · exact h.tick.wrote hs hx _ _

theorem Boxed.syncs (h : Boxed Lt D σ) (hs : ¬ Lt s) (hc : σ.syncs s e σ') : Boxed Lt D σ' := by
  rcases hc with ⟨_, _, rfl⟩ | ⟨_, _, _, rfl⟩ | ⟨_, x, hx, _, rfl⟩
  · exact h.tick
  · exact h.tick
  · exact h.tick.wrote hs hx _ _

theorem Boxed.removes (h : Boxed Lt D σ) (hf : Fits K C L σ) (_hs : ¬ Lt s) (hc : σ.removes s e σ') : Boxed Lt D σ' := by
  have hf' := hf.removes hc
  rcases hc with ⟨_, _, rfl⟩ | ⟨_, _, _, rfl⟩ | ⟨_, x, hx, _, rfl⟩
  · exact h.tick
  · exact h.tick
  · have hd : ∀ u y, delN σ.now s u = some y → σ.now u = some y := fun u y hy => by
      unfold delN at hy
      split at hy
      · cases hy
      · exact hy
    exact h.tick.did hf.tick _ hf' (fun t y ht hy => h.now hf ht (hd t y hy)) (fun i u t y ht hu hy => h.apart i u t y ht (hd u y hu) hy)

/-- a name of no letter is renamed: to another one, or to a letter's whose file it is -/
theorem Boxed.renames (h : Boxed Lt D σ) (hf : Fits K C L σ) (htK : t ∈ K) (hs : ¬ Lt s) (ht : Lt t → ∀ x, σ.now s = some x → σ.cont x = D t ∧ σ.sure x = (D t).length) (hc : σ.renames s t e σ') : Boxed Lt D σ' := by
  have hf' := hf.renames htK hc
  rcases hc with ⟨_, _, rfl⟩ | ⟨_, _, _, rfl⟩ | ⟨_, x, hx, _, rfl⟩
  · exact h.tick
  · exact h.tick
  · have hd : ∀ u y, putN (delN σ.now s) t x u = some y → (u = t ∧ y = x) ∨ σ.now u = some y := fun u y hy => by
      unfold putN at hy
      split at hy
      · rename_i e1; exact .inl ⟨e1, (Option.some.inj hy).symm⟩
      · unfold delN at hy
        split at hy
        · cases hy
        · exact .inr hy
    refine h.tick.did hf.tick _ hf' (fun u y hu hy => ?_) (fun i u v y hv hu hy => ?_)
    · rcases hd u y hy with ⟨rfl, rfl⟩ | h1
      · exact ht hu y hx
      · exact h.now hf hu h1
    · rcases hd u y hu with ⟨rfl, rfl⟩ | h1
      · exact absurd (h.apart i s v y hv hx hy ▸ hv) hs
      · exact h.apart i u v y hv h1 hy

theorem synced_settled (σ : Dk) (i j : Nat) : (({ σ.settled i with chs := [] } : Dk).settled j).safe = (σ.settled i).safe := flat_settled _ rfl j

theorem Boxed.syncsDir (h : Boxed Lt D σ) (hc : σ.syncsDir e σ') : Boxed Lt D σ' := by
  rcases hc with ⟨_, _, rfl⟩ | ⟨_, _, rfl⟩
  · exact h.tick
  · refine ⟨fun i t x ht hx => ?_, fun i u t x ht hu hx => ?_⟩
    · rw [synced_settled] at hx
      exact h.whole _ t x ht hx
    · rw [synced_settled] at hx
      exact h.apart _ u t x ht hu hx

theorem cr_whole (σ : Dk) (ks : List Text) (ts : List Int) {x : Nat} (hx : σ.sure x = (σ.cont x).length) : ∀ i, (σ.cr ks ts i).cont x = σ.cont x ∧ (σ.cr ks ts i).sure x = σ.sure x
  | 0 => ⟨rfl, rfl⟩
  | i + 1 => by
    obtain ⟨h1, h2⟩ := cr_whole σ ks ts hx i
    unfold Dk.cr
    split
    · rename_i y hy
      by_cases e : x = y
      · subst e
        simp only [Dk.wrote, upd_same, h1, h2, hx]
        have : survive (σ.cont x) (σ.cont x).length (tailAt ts i) = σ.cont x := by
          unfold survive
          exact List.take_of_length_le (by omega)
        rw [this]
        exact ⟨rfl, rfl⟩
      · simp only [Dk.wrote, upd_other _ _ e]
        exact ⟨h1, h2⟩
    · exact ⟨h1, h2⟩

theorem crashed_settled (σ : Dk) (k : Nat) (ks : List Text) (ts : List Int) (j : Nat) : ((σ.crashed k ks ts).settled j).safe = (σ.settled k).safe := by
  rw [flat_settled _ rfl]
  exact (cr_safe { σ.settled k with chs := [] } ks ts ks.length).1

theorem crashed_now (σ : Dk) (k : Nat) (ks : List Text) (ts : List Int) : (σ.crashed k ks ts).now = (σ.settled k).safe :=
  (cr_safe { σ.settled k with chs := [] } ks ts ks.length).1

theorem crashed_whole (σ : Dk) (k : Nat) (ks : List Text) (ts : List Int) {x : Nat} (hx : σ.sure x = (σ.cont x).length) : (σ.crashed k ks ts).cont x = σ.cont x ∧ (σ.crashed k ks ts).sure x = σ.sure x :=
  cr_whole { σ.settled k with chs := [] } ks ts hx ks.length

theorem Boxed.crashed (h : Boxed Lt D σ) (hf : Fits K C L σ) (k : Nat) (ks : List Text) (ts : List Int) : Boxed Lt D (σ.crashed k ks ts) := by
  refine ⟨fun i t x ht hx => ?_, fun i u t x ht hu hx => ?_⟩
  · rw [crashed_settled] at hx
    obtain ⟨h1, h2⟩ := h.whole k t x ht hx
    obtain ⟨h3, h4⟩ := crashed_whole σ k ks ts (x := x) (by rw [h1, h2])
    exact ⟨h3.trans h1, h4.trans h2⟩
  · rw [crashed_settled] at hx
    rw [crashed_now] at hu
    exact hf.setInj k u t x hu hx

/-- what a letter that is nowhere must hold may be said anew -/
theorem Boxed.setD (h : Boxed Lt D σ) {D' : Text → Text} (hD : ∀ t, Lt t → D' t = D t ∨ Nowhere σ t) : Boxed Lt D' σ := by
  refine ⟨fun i t x ht hx => ?_, h.apart⟩
  rcases hD t ht with e | e
  · rw [e]; exact h.whole i t x ht hx
  · rw [e i] at hx; cases hx

/-! what stays -/

theorem Stays.now (h : Stays σ s) (hf : Fits K C L σ) : (σ.now s).isSome = true := by
  have := h σ.chs.length
  rwa [hf.setNow] at this

theorem Stays.tick (h : Stays σ s) : Stays σ.tick s := h

theorem Stays.did (h : Stays σ s) (hf : Fits K C L σ) (c : Chg) (hc : (c.app σ.now s).isSome = true) : Stays (σ.did c) s := by
  intro i
  rw [did_settled hf]
  split
  · exact h i
  · exact hc

theorem Nowhere.now (h : Nowhere σ s) (hf : Fits K C L σ) : σ.now s = none := by
  have := h σ.chs.length
  rwa [hf.setNow] at this

theorem Nowhere.did (h : Nowhere σ s) (hf : Fits K C L σ) (c : Chg) (hc : c.app σ.now s = none) : Nowhere (σ.did c) s := by
  intro i
  rw [did_settled hf]
  split
  · exact h i
  · exact hc

theorem Stays.creates (h : Stays σ t) (hf : Fits K C L σ) (hc : σ.creates s e σ') : Stays σ' t := by
  rcases hc with ⟨_, _, rfl⟩ | ⟨_, _, _, rfl⟩ | ⟨_, hn, x, hx, _, rfl⟩
  · exact h.tick
  · exact h.tick
  · refine Stays.did (σ := σ.tick.add x) h (hf.tick.add x) _ ?_
    have := h.now hf
    simp only [Chg.app, putN]
    split
    · rfl
    · exact this

theorem Stays.appends {u : Text} (h : Stays σ u) (hc : σ.appends s t e σ') : Stays σ' u := by
  rcases hc with ⟨_, _, rfl⟩ | ⟨_, _, _, rfl⟩ | ⟨_, x, hx, _, rfl⟩ <;> exact h
theorem Stays.syncs {u : Text} (h : Stays σ u) (hc : σ.syncs s e σ') : Stays σ' u := by
  rcases hc with ⟨_, _, rfl⟩ | ⟨_, _, _, rfl⟩ | ⟨_, x, hx, _, rfl⟩ <;> exact h

theorem Stays.removes (h : Stays σ t) (hf : Fits K C L σ) (hne : t ≠ s) (hc : σ.removes s e σ') : Stays σ' t := by
  rcases hc with ⟨_, _, rfl⟩ | ⟨_, _, _, rfl⟩ | ⟨_, x, hx, _, rfl⟩
  · exact h.tick
  · exact h.tick
  · refine Stays.did (σ := σ.tick) h hf.tick _ ?_
    simp only [Chg.app, delN, if_neg hne]
    exact h.now hf

theorem Stays.renames {u : Text} (h : Stays σ u) (hf : Fits K C L σ) (hne : u ≠ s) (hc : σ.renames s t e σ') : Stays σ' u := by
  rcases hc with ⟨_, _, rfl⟩ | ⟨_, _, _, rfl⟩ | ⟨_, x, hx, _, rfl⟩
  · exact h.tick
  · exact h.tick
  · refine Stays.did (σ := σ.tick) h hf.tick _ ?_
    have := h.now hf
    simp only [Chg.app, putN, delN, if_neg hne]
    split
    · rfl
    · exact this

theorem Stays.syncsDir (h : Stays σ s) (hc : σ.syncsDir e σ') : Stays σ' s := by
  rcases hc with ⟨_, _, rfl⟩ | ⟨_, _, rfl⟩
  · exact h.tick
  · intro i
    rw [synced_settled]
    exact h _

theorem Stays.crashed (h : Stays σ s) (k : Nat) (ks : List Text) (ts : List Int) : Stays (σ.crashed k ks ts) s := by
  intro i
  rw [crashed_settled]
  exact h k

/-- behind a SyncDir that was answered by OK what is there stays -/
theorem stays_of_syncsDir (hf : Fits K C L σ) (hc : σ.syncsDir e σ') (he : e = 0) (hs : (σ.now s).isSome = true) : Stays σ' s := by
  rcases hc with ⟨_, h, _⟩ | ⟨_, _, rfl⟩
  · omega
  · intro i
    rw [synced_settled]
    have e1 : (σ.tick.settled σ.chs.length).safe = σ.now := hf.setNow
    rw [e1]; exact hs

theorem nowhere_of_syncsDir (hf : Fits K C L σ) (hc : σ.syncsDir e σ') (he : e = 0) (hs : σ.now s = none) : Nowhere σ' s := by
  rcases hc with ⟨_, h, _⟩ | ⟨_, _, rfl⟩
  · omega
  · intro i
    rw [synced_settled]
    have e1 : (σ.tick.settled σ.chs.length).safe = σ.now := hf.setNow
    rw [e1]; exact hs

theorem stays_or_nowhere_crashed (σ : Dk) (k : Nat) (ks : List Text) (ts : List Int) (s : Text) : (Stays (σ.crashed k ks ts) s ∧ ((σ.crashed k ks ts).now s).isSome = true) ∨ (Nowhere (σ.crashed k ks ts) s ∧ (σ.crashed k ks ts).now s = none) := by
  rw [crashed_now]
  cases h : (σ.settled k).safe s with
  | none => exact .inr ⟨fun i => by rw [crashed_settled]; exact h, rfl⟩
  | some x => exact .inl ⟨fun i => by rw [crashed_settled, h]; rfl, rfl⟩

end
end Go.Proofs.YtegbkpjcjlihmabGreatDoor
