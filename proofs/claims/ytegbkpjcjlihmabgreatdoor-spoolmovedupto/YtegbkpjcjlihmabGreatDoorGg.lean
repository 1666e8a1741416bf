/-
  Letters on a disk, plain: their files lie as a whole under their names alone, whatever is kept by a crash. | Steps: functions that write to the disk, in a list; 'do' makes them. | Deliver's and sweep's own functions.
-/
import Derived.Test.YtegbkpjcjlihmabGreatDoorGe
import Derived.Test.YtegbkpjcjlihmabGreatDoorGf
namespace Go.Proofs.YtegbkpjcjlihmabGreatDoor

/-- names of Lt are of whole files, each with its D -/
structure Boxed (Lt : Text → Prop) (D : Text → Text) (σ : Dk) : Prop where
  whole : ∀ i s x, Lt s → (σ.settled i).safe s = some x → σ.cont x = D s ∧ σ.sure x = (D s).length
  apart : ∀ i s t x, Lt t → σ.now s = some x → (σ.settled i).safe t = some x → s = t

/-- a name that is there, whatever is kept by a crash -/
def Stays (σ : Dk) (s : Text) : Prop := ∀ i, ((σ.settled i).safe s).isSome = true
/-- a name that is nowhere -/
def Nowhere (σ : Dk) (s : Text) : Prop := ∀ i, (σ.settled i).safe s = none

section
variable {Lt : Text → Prop} {D : Text → Text} {σ σ' : Dk} {K : List Text} {C L : Nat} {s t : Text} {e : Int}

theorem Boxed.empty (Lt : Text → Prop) (D : Text → Text) : Boxed Lt D Dk.empty := by
  have h : ∀ i, (Dk.empty.settled i).safe = fun _ => none := fun i => by simp [Dk.settled, Dk.empty, appAll]
  exact ⟨fun i s x _ hs => (by rw [h] at hs; cases hs), fun i s t x _ _ ht => (by rw [h] at ht; cases ht)⟩

theorem Boxed.tick (h : Boxed Lt D σ) : Boxed Lt D σ.tick := ⟨h.whole, h.apart⟩
theorem Boxed.left (h : Boxed Lt D σ) (l : Option Nat) : Boxed Lt D { σ with left := l } := ⟨h.whole, h.apart⟩

theorem Boxed.now (h : Boxed Lt D σ) (hf : Fits K C L σ) {x : Nat} (hs : Lt s) (hx : σ.now s = some x) : σ.cont x = D s ∧ σ.sure x = (D s).length :=
  h.whole σ.chs.length s x hs (by rw [hf.setNow]; exact hx)

/-- a file of no letter is written -/
theorem Boxed.wrote (h : Boxed Lt D σ) (hs : ¬ Lt s) {x : Nat} (hx : σ.now s = some x) (c : Text) (m : Nat) : Boxed Lt D (σ.wrote x c m) := by
  refine ⟨fun i t y ht hy => ?_, h.apart⟩
  have hne : y ≠ x := fun e => by
    subst e
    exact hs (h.apart i s t y ht hx hy ▸ ht)
  simp only [Dk.wrote, upd_other _ _ hne]
  exact h.whole i t y ht hy

theorem Boxed.add (h : Boxed Lt D σ) (hf : Fits K C L σ) {x : Nat} (hx : x ∉ σ.files) : Boxed Lt D (σ.add x) := by
  refine ⟨fun i t y ht hy => ?_, h.apart⟩
  have hne : y ≠ x := fun e => hx (e ▸ hf.setIn i t y hy)
  simp only [Dk.add, upd_other _ _ hne]
  exact h.whole i t y ht hy

theorem Boxed.did {C' L' : Nat} (h : Boxed Lt D σ) (hf : Fits K C L σ) (c : Chg) (hf' : Fits K C' L' (σ.did c)) (hw : ∀ t x, Lt t → c.app σ.now t = some x → σ.cont x = D t ∧ σ.sure x = (D t).length)
    (ha : ∀ i u t x, Lt t → c.app σ.now u = some x → (σ.settled i).safe t = some x → u = t) : Boxed Lt D (σ.did c) := by
  refine ⟨fun i t x ht hx => ?_, fun i u t x ht hu hx => ?_⟩
  · rw [did_settled hf] at hx
    split at hx
    · exact h.whole i t x ht hx
    · exact hw t x ht hx
  · have hu' : c.app σ.now u = some x := hu
    rw [did_settled hf] at hx
    split at hx
    · exact ha i u t x ht hu' hx
    · exact hf'.nowInj u t x hu hx

theorem Boxed.creates (h : Boxed Lt D σ) (hf : Fits K C L σ) (hsK : s ∈ K) (hs : ¬ Lt s) (hc : σ.creates s e σ') : Boxed Lt D σ' := by
  have hf' := hf.creates hsK hc
  rcases hc with ⟨_, _, rfl⟩ | ⟨_, _, _, rfl⟩ | ⟨_, hn, x, hx, _, rfl⟩
  · exact h.tick
  · exact h.tick
  · refine (h.tick.add hf.tick hx).did (hf.tick.add x) _ hf' (fun t y ht hy => ?_) (fun i u t y ht hu hy => ?_)
    · simp only [Chg.app, putN] at hy
      split at hy
      · rename_i e1; exact absurd (e1 ▸ ht) hs
      · exact (h.tick.add hf.tick hx).now (hf.tick.add x) ht hy
    · simp only [Chg.app, putN] at hu
      split at hu
      · obtain rfl := Option.some.inj hu
        exact absurd (hf.setIn i t x hy) hx
      · exact h.apart i u t y ht hu hy

theorem Boxed.appends (h : Boxed Lt D σ) (hs : ¬ Lt s) (hc : σ.appends s t e σ') : Boxed Lt D σ' := by
  rcases hc with ⟨_, _, rfl⟩ | ⟨_, _, _, rfl⟩ | ⟨_, x, hx, _, rfl⟩
  · exact h.tick
  · exact h.tick
  · exact h.tick.wrote hs hx _ _

theorem Boxed.syncs (h : Boxed Lt D σ) (hs : ¬ Lt s) (hc : σ.syncs s e σ') : Boxed Lt D σ' := by
  rcases hc with ⟨_, _, rfl⟩ | ⟨_, _, _, rfl⟩ | ⟨_, x, hx, _, rfl⟩
  · exact h.tick
  · exact h.tick
  · exact h.tick.wrote hs hx _ _

theorem Boxed.removes (h : Boxed Lt D σ) (hf : Fits K C L σ) (_hs : ¬ Lt s) (hc : σ.removes s e σ') : Boxed Lt D σ' := by
  have hf' := hf.removes hc
  rcases hc with ⟨_, _, rfl⟩ | ⟨_, _, _, rfl⟩ | ⟨_, x, hx, _, rfl⟩
  · exact h.tick
  · exact h.tick
  · have hd : ∀ u y, delN σ.now s u = some y → σ.now u = some y := fun u y hy => by
      unfold delN at hy
      split at hy
      · cases hy
      · exact hy
    exact h.tick.did hf.tick _ hf' (fun t y ht hy => h.now hf ht (hd t y hy)) (fun i u t y ht hu hy => h.apart i u t y ht (hd u y hu) hy)

/-- a name of no letter is renamed: to another one, or to a letter's whose file it is -/
theorem Boxed.renames (h : Boxed Lt D σ) (hf : Fits K C L σ) (htK : t ∈ K) (hs : ¬ Lt s) (ht : Lt t → ∀ x, σ.now s = some x → σ.cont x = D t ∧ σ.sure x = (D t).length) (hc : σ.renames s t e σ') : Boxed Lt D σ' := by
  have hf' := hf.renames htK hc
  rcases hc with ⟨_, _, rfl⟩ | ⟨_, _, _, rfl⟩ | ⟨_, x, hx, _, rfl⟩
  · exact h.tick
  · exact h.tick
  · have hd : ∀ u y, putN (delN σ.now s) t x u = some y → (u = t ∧ y = x) ∨ σ.now u = some y := fun u y hy => by
      unfold putN at hy
      split at hy
      · rename_i e1; exact .inl ⟨e1, (Option.some.inj hy).symm⟩
      · unfold delN at hy
        split at hy
        · cases hy
        · exact .inr hy
    refine h.tick.did hf.tick _ hf' (fun u y hu hy => ?_) (fun i u v y hv hu hy => ?_)
    · rcases hd u y hy with ⟨rfl, rfl⟩ | h1
      · exact ht hu y hx
      · exact h.now hf hu h1
    · rcases hd u y hu with ⟨rfl, rfl⟩ | h1
      · exact absurd (h.apart i s v y hv hx hy ▸ hv) hs
      · exact h.apart i u v y hv h1 hy

theorem synced_settled (σ : Dk) (i j : Nat) : (({ σ.settled i with chs := [] } : Dk).settled j).safe = (σ.settled i).safe := flat_settled _ rfl j

theorem Boxed.syncsDir (h : Boxed Lt D σ) (hc : σ.syncsDir e σ') : Boxed Lt D σ' := by
  rcases hc with ⟨_, _, rfl⟩ | ⟨_, _, rfl⟩
  · exact h.tick
  · refine ⟨fun i t x ht hx => ?_, fun i u t x ht hu hx => ?_⟩
    · rw [synced_settled] at hx
      exact h.whole _ t x ht hx
    · rw [synced_settled] at hx
      exact h.apart _ u t x ht hu hx

theorem cr_whole (σ : Dk) (ks : List Text) (ts : List Int) {x : Nat} (hx : σ.sure x = (σ.cont x).length) : ∀ i, (σ.cr ks ts i).cont x = σ.cont x ∧ (σ.cr ks ts i).sure x = σ.sure x
  | 0 => ⟨rfl, rfl⟩
  | i + 1 => by
    obtain ⟨h1, h2⟩ := cr_whole σ ks ts hx i
    unfold Dk.cr
    split
    · rename_i y hy
      by_cases e : x = y
      · subst e
        simp only [Dk.wrote, upd_same, h1, h2, hx]
        have : survive (σ.cont x) (σ.cont x).length (tailAt ts i) = σ.cont x := by
          unfold survive
          exact List.take_of_length_le (by omega)
        rw [this]
        exact ⟨rfl, rfl⟩
      · simp only [Dk.wrote, upd_other _ _ e]
        exact ⟨h1, h2⟩
    · exact ⟨h1, h2⟩

theorem crashed_settled (σ : Dk) (k : Nat) (ks : List Text) (ts : List Int) (j : Nat) : ((σ.crashed k ks ts).settled j).safe = (σ.settled k).safe := by
  rw [flat_settled _ rfl]
  exact (cr_safe { σ.settled k with chs := [] } ks ts ks.length).1

theorem crashed_now (σ : Dk) (k : Nat) (ks : List Text) (ts : List Int) : (σ.crashed k ks ts).now = (σ.settled k).safe :=
  (cr_safe { σ.settled k with chs := [] } ks ts ks.length).1

theorem crashed_whole (σ : Dk) (k : Nat) (ks : List Text) (ts : List Int) {x : Nat} (hx : σ.sure x = (σ.cont x).length) : (σ.crashed k ks ts).cont x = σ.cont x ∧ (σ.crashed k ks ts).sure x = σ.sure x :=
  cr_whole { σ.settled k with chs := [] } ks ts hx ks.length

theorem Boxed.crashed (h : Boxed Lt D σ) (hf : Fits K C L σ) (k : Nat) (ks : List Text) (ts : List Int) : Boxed Lt D (σ.crashed k ks ts) := by
  refine ⟨fun i t x ht hx => ?_, fun i u t x ht hu hx => ?_⟩
  · rw [crashed_settled] at hx
    obtain ⟨h1, h2⟩ := h.whole k t x ht hx
    obtain ⟨h3, h4⟩ := crashed_whole σ k ks ts (x := x) (by rw [h1, h2])
    exact ⟨h3.trans h1, h4.trans h2⟩
  · rw [crashed_settled] at hx
    rw [crashed_now] at hu
    exact hf.setInj k u t x hu hx

/-- what a letter that is nowhere must hold may be said anew -/
theorem Boxed.setD (h : Boxed Lt D σ) {D' : Text → Text} (hD : ∀ t, Lt t → D' t = D t ∨ Nowhere σ t) : Boxed Lt D' σ := by
  refine ⟨fun i t x ht hx => ?_, h.apart⟩
  rcases hD t ht with e | e
  · rw [e]; exact h.whole i t x ht hx
  · rw [e i] at hx; cases hx

/-! what stays -/

theorem Stays.now (h : Stays σ s) (hf : Fits K C L σ) : (σ.now s).isSome = true := by
  have := h σ.chs.length
  rwa [hf.setNow] at this

theorem Stays.tick (h : Stays σ s) : Stays σ.tick s := h

theorem Stays.did (h : Stays σ s) (hf : Fits K C L σ) (c : Chg) (hc : (c.app σ.now s).isSome = true) : Stays (σ.did c) s := by
  intro i
  rw [did_settled hf]
  split
  · exact h i
  · exact hc

theorem Nowhere.now (h : Nowhere σ s) (hf : Fits K C L σ) : σ.now s = none := by
  have := h σ.chs.length
  rwa [hf.setNow] at this

theorem Nowhere.did (h : Nowhere σ s) (hf : Fits K C L σ) (c : Chg) (hc : c.app σ.now s = none) : Nowhere (σ.did c) s := by
  intro i
  rw [did_settled hf]
  split
  · exact h i
  · exact hc

theorem Stays.creates (h : Stays σ t) (hf : Fits K C L σ) (hc : σ.creates s e σ') : Stays σ' t := by
  rcases hc with ⟨_, _, rfl⟩ | ⟨_, _, _, rfl⟩ | ⟨_, hn, x, hx, _, rfl⟩
  · exact h.tick
  · exact h.tick
  · refine Stays.did (σ := σ.tick.add x) h (hf.tick.add x) _ ?_
    have := h.now hf
    simp only [Chg.app, putN]
    split
    · rfl
    · exact this

theorem Stays.appends {u : Text} (h : Stays σ u) (hc : σ.appends s t e σ') : Stays σ' u := by
  rcases hc with ⟨_, _, rfl⟩ | ⟨_, _, _, rfl⟩ | ⟨_, x, hx, _, rfl⟩ <;> exact h
theorem Stays.syncs {u : Text} (h : Stays σ u) (hc : σ.syncs s e σ') : Stays σ' u := by
  rcases hc with ⟨_, _, rfl⟩ | ⟨_, _, _, rfl⟩ | ⟨_, x, hx, _, rfl⟩ <;> exact h

theorem Stays.removes (h : Stays σ t) (hf : Fits K C L σ) (hne : t ≠ s) (hc : σ.removes s e σ') : Stays σ' t := by
  rcases hc with ⟨_, _, rfl⟩ | ⟨_, _, _, rfl⟩ | ⟨_, x, hx, _, rfl⟩
  · exact h.tick
  · exact h.tick
  · refine Stays.did (σ := σ.tick) h hf.tick _ ?_
    simp only [Chg.app, delN, if_neg hne]
    exact h.now hf

theorem Stays.renames {u : Text} (h : Stays σ u) (hf : Fits K C L σ) (hne : u ≠ s) (hc : σ.renames s t e σ') : Stays σ' u := by
  rcases hc with ⟨_, _, rfl⟩ | ⟨_, _, _, rfl⟩ | ⟨_, x, hx, _, rfl⟩
  · exact h.tick
  · exact h.tick
  · refine Stays.did (σ := σ.tick) h hf.tick _ ?_
    have := h.now hf
    simp only [Chg.app, putN, delN, if_neg hne]
    split
    · rfl
    · exact this

theorem Stays.syncsDir (h : Stays σ s) (hc : σ.syncsDir e σ') : Stays σ' s := by
  rcases hc with ⟨_, _, rfl⟩ | ⟨_, _, rfl⟩
  · exact h.tick
  · intro i
    rw [synced_settled]
    exact h _

theorem Stays.crashed (h : Stays σ s) (k : Nat) (ks : List Text) (ts : List Int) : Stays (σ.crashed k ks ts) s := by
  intro i
  rw [crashed_settled]
  exact h k

/-- behind a SyncDir that was answered by OK what is there stays -/
theorem stays_of_syncsDir (hf : Fits K C L σ) (hc : σ.syncsDir e σ') (he : e = 0) (hs : (σ.now s).isSome = true) : Stays σ' s := by
  rcases hc with ⟨_, h, _⟩ | ⟨_, _, rfl⟩
  · omega
  · intro i
    rw [synced_settled]
    have e1 : (σ.tick.settled σ.chs.length).safe = σ.now := hf.setNow
    rw [e1]; exact hs

theorem nowhere_of_syncsDir (hf : Fits K C L σ) (hc : σ.syncsDir e σ') (he : e = 0) (hs : σ.now s = none) : Nowhere σ' s := by
  rcases hc with ⟨_, h, _⟩ | ⟨_, _, rfl⟩
  · omega
  · intro i
    rw [synced_settled]
    have e1 : (σ.tick.settled σ.chs.length).safe = σ.now := hf.setNow
    rw [e1]; exact hs

theorem stays_or_nowhere_crashed (σ : Dk) (k : Nat) (ks : List Text) (ts : List Int) (s : Text) : (Stays (σ.crashed k ks ts) s ∧ ((σ.crashed k ks ts).now s).isSome = true) ∨ (Nowhere (σ.crashed k ks ts) s ∧ (σ.crashed k ks ts).now s = none) := by
  rw [crashed_now]
  cases h : (σ.settled k).safe s with
  | none => exact .inr ⟨fun i => by rw [crashed_settled]; exact h, rfl⟩
  | some x => exact .inl ⟨fun i => by rw [crashed_settled, h]; rfl, rfl⟩

end
end Go.Proofs.YtegbkpjcjlihmabGreatDoor

namespace Go.Proofs.YtegbkpjcjlihmabGreatDoor
open Go.RowKit Go.Maps

abbrev Rel := Dk → Int → Dk → Prop

/-- one behind the other, up to the first one that is refused -/
def runs : List Rel → Dk → Int → Dk → Prop
  | [], σ, e, σ' => e = 0 ∧ σ' = σ
  | R :: Rs, σ, e, σ' => ∃ k σ1, R σ k σ1 ∧ ((k = 0 ∧ runs Rs σ1 e σ') ∨ (k ≠ 0 ∧ e = k ∧ σ' = σ1))

/-- all are answered by OK -/
def oks : List Rel → Dk → Dk → Prop
  | [], σ, σ' => σ' = σ
  | R :: Rs, σ, σ' => ∃ σ1, R σ 0 σ1 ∧ oks Rs σ1 σ'

theorem runs_oks : ∀ (Rs : List Rel) (σ σ' : Dk), oks Rs σ σ' → runs Rs σ 0 σ'
  | [], _, _, h => ⟨rfl, h⟩
  | _ :: Rs, _, _, ⟨σ1, h1, h2⟩ => ⟨0, σ1, h1, .inl ⟨rfl, runs_oks Rs _ _ h2⟩⟩

theorem runs_stop : ∀ (Rs : List Rel) (i : Nat) (σ σ1 σ2 : Dk) (R : Rel) (k : Int), oks (Rs.take i) σ σ1 → Rs[i]? = some R → R σ1 k σ2 → k ≠ 0 → runs Rs σ k σ2
  | [], i, _, _, _, _, _, _, h, _, _ => by simp at h
  | R0 :: Rs, 0, σ, σ1, σ2, R, k, h, hR, hr, hk => by
    simp only [List.take_zero, oks] at h
    simp only [List.getElem?_cons_zero, Option.some.injEq] at hR
    subst h hR
    exact ⟨k, σ2, hr, .inr ⟨hk, rfl, rfl⟩⟩
  | R0 :: Rs, i + 1, σ, σ1, σ2, R, k, ⟨σ0, h1, h2⟩, hR, hr, hk =>
    ⟨0, σ0, h1, .inl ⟨rfl, runs_stop Rs i σ0 σ1 σ2 R k h2 (by simpa using hR) hr hk⟩⟩

theorem oks_snoc : ∀ (Rs : List Rel) (i : Nat) (σ σ1 σ2 : Dk) (R : Rel), oks (Rs.take i) σ σ1 → Rs[i]? = some R → R σ1 0 σ2 → oks (Rs.take (i + 1)) σ σ2
  | [], i, _, _, _, _, _, h, _ => by simp at h
  | R0 :: Rs, 0, σ, σ1, σ2, R, h, hR, hr => by
    simp only [List.take_zero, oks] at h
    simp only [List.getElem?_cons_zero, Option.some.injEq] at hR
    subst h hR
    exact ⟨σ2, hr, by simp [oks]⟩
  | R0 :: Rs, i + 1, σ, σ1, σ2, R, ⟨σ0, h1, h2⟩, hR, hr =>
    ⟨σ0, h1, oks_snoc Rs i σ0 σ1 σ2 R h2 (by simpa using hR) hr⟩

/-- a function f, called with xs, does R to the disk; the blocks of B are as in w0 -/
def Runs (w : World) (d : Nat) (K : List Text) (B : Nat → Prop) (w0 : World) (R : Rel) (m f : Nat) (xs : Array Value) : Prop :=
  (∀ args w, (callFunc f args).run Tryz.prog w = .ok (.enter f args) w) ∧
  ∀ (wr : World) (A : Nat → Prop) (C L : Nat) (σ : Dk), Live w wr A d K C L σ → C ≤ 1099511627776 → L ≤ 1099511627776 → (∀ k, B k → wr.heap[k]? = w0.heap[k]?) →
    Calls Tryz.prog f xs wr fun e w' => ∃ k σ', e = .returned (.int .i64 k) ∧ R σ k σ' ∧ Live w w' (ext A wr w') d K (C + 1) (L + m) σ' ∧ Keeps A wr w'

/-- a function value that does so -/
def Does (w : World) (d : Nat) (K : List Text) (B : Nat → Prop) (w0 : World) (v : Value) (R : Rel) (m : Nat) : Prop :=
  (∃ f p, v = .func (.func f) #[] #[ptr p] ∧ Runs w d K B w0 R m f #[ptr p]) ∨ (∃ f p q, v = .func (.func f) #[] #[ptr p, ptr q] ∧ Runs w d K B w0 R m f #[ptr p, ptr q]) ∨
    (∃ f, v = .func (.func f) #[ptr d] #[] ∧ Runs w d K B w0 R m f #[ptr d])

section
variable {w w0 : World} {A : Nat → Prop} {d : Nat} {σ : Dk} {K : List Text} {C L : Nat} {B : Nat → Prop}

theorem sum_take_succ (l : List Nat) (i m : Nat) (h : l[i]? = some m) : (l.take (i + 1)).sum = (l.take i).sum + m := by
  rw [List.take_add_one, h]
  simp

theorem sum_take_le (l : List Nat) (i : Nat) : (l.take i).sum ≤ l.sum := by
  have := List.take_append_drop i l
  have h2 : (l.take i ++ l.drop i).sum = l.sum := by rw [this]
  rw [List.sum_append] at h2
  omega

set_option maxHeartbeats 4000000 in
set_option maxRecDepth 100000 in
theorem steps_any (h : Live w w0 A d K C L σ) (hB : ∀ k, B k → ¬ A k ∧ k < w0.heap.size) (base : Nat) (v : Value) (vals : List Value) (Rs : List Rel) (ms : List Nat) (hrow : w0.ownsRow base 92 1 v vals.length vals)
    (hown : ∀ k, v.ownBlock = some k → B k) (hl1 : Rs.length = vals.length) (hl2 : ms.length = vals.length) (hdo : ∀ (i : Nat) v R m, vals[i]? = some v → Rs[i]? = some R → ms[i]? = some m → Does w d K B w0 v R m)
    (hC : C + vals.length ≤ 1099511627776) (hL : L + ms.sum ≤ 1099511627776) :
    Calls Tryz.prog 73 #[v] w0 fun e w' => ∃ k σ', e = .returned (.int .i64 k) ∧ runs Rs σ k σ' ∧ Live w w' (ext A w0 w') d K (C + vals.length) (L + ms.sum) σ' ∧ Keeps A w0 w' := by
  obtain ⟨ao, cap, rfl, hc1, hc2, hao⟩ := own_form hrow
  unfold maxLen at hc1
  have Hrow : Hid (w0.ownsRow base 92 1 (.slice ao vals.length cap) vals.length vals) := hrow
  have H : Hid (Live w w0 A d K C L σ) := h
  have Hdo : Hid (∀ (i : Nat) v R m, vals[i]? = some v → Rs[i]? = some R → ms[i]? = some m → Does w d K B w0 v R m) := hdo
  have Hl : Hid (Rs.length = vals.length ∧ ms.length = vals.length) := ⟨hl1, hl2⟩
  clear h hrow hdo hl1 hl2
  go_enter Tryz.func73, Tryz.ntmps73
  go_wp2_with fail
  go_loopw [8] (fun t8 wr => ∃ (i : Nat) (σ1 : Dk), i ≤ vals.length ∧ t8 = .int .i64 i ∧ oks (Rs.take i) σ σ1 ∧ Live w wr (ext A w0 wr) d K (C + i) (L + (ms.take i).sum) σ1 ∧ Keeps A w0 wr) (fun t8 _ => vals.length - (intOf t8).toNat)
  case atStart =>
    refine ⟨0, σ, Nat.zero_le _, rfl, rfl, ?_, Keeps.refl _ _⟩
    rw [ext_same rfl]; exact H.out
  case round =>
    obtain ⟨i, σ1, hi, rfl, ho, hl, kk⟩ := hrel
    have HO : Hid (oks (Rs.take i) σ σ1) := ho
    have HLv : Hid (Live w wr (ext A w0 wr) d K (C + i) (L + (ms.take i).sum) σ1) := hl
    clear ho hl
    by_cases hlt : i < vals.length
    · obtain ⟨g, rfl⟩ := hao (by omega)
      obtain ⟨v, hv⟩ : ∃ v, vals[i]? = some v := ⟨vals[i], List.getElem?_eq_getElem hlt⟩
      obtain ⟨R, hR⟩ : ∃ R, Rs[i]? = some R := ⟨Rs[i]'(by rw [Hl.out.1]; exact hlt), List.getElem?_eq_getElem _⟩
      obtain ⟨m, hm⟩ : ∃ m, ms[i]? = some m := ⟨ms[i]'(by rw [Hl.out.2]; exact hlt), List.getElem?_eq_getElem _⟩
      have hcell := own_cell (kk.owns Hrow.out (fun k hk => (hB k (hown k hk)).1)) i v hv
      have hd := Hdo.out i v R m hv hR hm
      have hs1 := sum_take_succ ms i m hm
      have hs2 := sum_take_le ms (i + 1)
      have HB : Hid (∀ k, B k → wr.heap[k]? = w0.heap[k]?) := fun k hk => kk.block k (hB k hk).2 (hB k hk).1
      have HR : Hid (Rs[i]? = some R) := hR
      have Hs1 : Hid ((ms.take (i + 1)).sum = (ms.take i).sum + m) := hs1
      have hc' : C + i ≤ 1099511627776 := by omega
      have hl' : L + (ms.take i).sum ≤ 1099511627776 := by omega
      clear hv hR hm hs1 hs2
      have z1 : (0 : Int) ≤ (i : Int) := by omega
      have z2 : (i : Int) < (vals.length : Int) := by omega
      rcases hd with ⟨f, p, rfl, eg, hca⟩ | ⟨f, p, q, rfl, eg, hca⟩ | ⟨f, rfl, eg, hca⟩
      all_goals (
        have hca' := hca wr _ _ _ _ HLv.out hc' hl' HB.out
        clear hca
        unfold ptr at *
        go_wp2_with fail
        refine hca'.mono ?_
        rintro e w1 ⟨k, σ2, rfl, hr, lv, k1⟩
        have HV : Hid (Live w w1 (ext A w0 w1) d K (C + (i + 1)) (L + (ms.take (i + 1)).sum) σ2) := by
          show Live _ _ _ _ _ _ _ _
          rw [Hs1.out, ← ext_ext kk.size k1.size]
          exact lv.mono (by omega) (by omega)
        have KK : Keeps A w0 w1 := kk.exts k1
        clear lv hca'
        by_cases hk : k = 0
        · subst hk
          have HO2 : Hid (oks (Rs.take (i + 1)) σ σ2) := oks_snoc Rs i σ σ1 σ2 R HO.out HR.out hr
          clear hr
          go_wp2_with fail
          go_roundw
          case rel => exact ⟨i + 1, σ2, by omega, by go_num, HO2.out, HV.out, KK⟩
          case measure => simp [intOf]; omega
        · have HRn : Hid (runs Rs σ k σ2) := runs_stop Rs i σ σ1 σ2 R k HO.out HR.out hr hk
          have hs3 := sum_take_le ms (i + 1)
          have hk' : (k == 0) = false := beq_eq_false_iff_ne.2 hk
          clear hr
          go_wp2_with fail
          go_ret
          exact ⟨k, σ2, rfl, HRn.out, HV.out.mono (by omega) (by omega), KK⟩)
    · have ei : i = vals.length := by omega
      subst ei
      have z2 : ¬ (vals.length : Int) < (vals.length : Int) := by omega
      go_wp2
      go_ret
      have e1 : Rs.take vals.length = Rs := List.take_of_length_le (by rw [Hl.out.1]; exact Nat.le_refl _)
      have e2 : ms.take vals.length = ms := List.take_of_length_le (by rw [Hl.out.2]; exact Nat.le_refl _)
      have h1 := HO.out
      have h2 := HLv.out
      rw [e1] at h1
      rw [e2] at h2
      exact ⟨0, rfl, σ1, runs_oks Rs σ σ1 h1, h2, kk⟩

end
end Go.Proofs.YtegbkpjcjlihmabGreatDoor

namespace Go.Proofs.YtegbkpjcjlihmabGreatDoor
open Go.RowKit Go.Maps

def freshB : ByteArray := ⟨#[98, 111, 120, 47, 110, 101, 119]⟩

section
variable {w w0 : World} {d : Nat} {K : List Text} {B : Nat → Prop}

theorem cell1 {w : World} {b : Nat} {x : Value} {T : TypeId} (h : w.heap[b]? = some (.cells #[x] T (0, 0))) : w.cell? ⟨b, 0, none⟩ = some x := by rw [Lib.cell_of_heap h]; rfl

set_option maxHeartbeats 1000000 in
theorem does_create {p : Nat} (hp : w0.heap[p]? = some (.cells #[ptr d] 34 (0, 0))) (hb : B p) (hK : K.length ≤ 1099511627776) (hf : freshT ∈ K) :
    Does w d K B w0 (.func (.func 69) #[] #[ptr p]) (fun σ k σ' => σ.creates freshT k σ') 0 := by
  refine .inl ⟨69, p, rfl, enters_of Tryz.func69 (by kernel_rfl) rfl, fun wr A C L σ h hC hL hB => ?_⟩
  have c := cell1 ((hB p hb).trans hp)
  have hc := h.create hK hC freshB (by unfold maxLen; decide) hf
  unfold ptr freshB at *
  go_enter Tryz.func69, Tryz.ntmps69
  go_wp2_with fail
  refine hc.mono ?_
  rintro e w' ⟨k, σ', rfl, h1, h2, h3⟩
  go_wp2_with fail
  go_ret
  exact ⟨k, σ', rfl, h1, h2, h3⟩

set_option maxHeartbeats 1000000 in
theorem does_append {p q : Nat} {data : ByteArray} (hp : w0.heap[p]? = some (.cells #[ptr d] 34 (0, 0))) (hb : B p) (hq : w0.heap[q]? = some (.cells #[.string data] 9 (0, 0))) (hb' : B q) (hd : data.size ≤ 1099511627776) :
    Does w d K B w0 (.func (.func 70) #[] #[ptr p, ptr q]) (fun σ k σ' => σ.appends freshT data.data.toList k σ') data.size := by
  refine .inr (.inl ⟨70, p, q, rfl, enters_of Tryz.func70 (by kernel_rfl) rfl, fun wr A C L σ h hC hL hB => ?_⟩)
  have c := cell1 ((hB p hb).trans hp)
  have c' := cell1 ((hB q hb').trans hq)
  have hc := (h.append hL freshB data (by unfold maxLen; decide) hd)
  unfold ptr freshB at *
  go_enter Tryz.func70, Tryz.ntmps70
  go_wp2_with fail
  refine hc.mono ?_
  rintro e w' ⟨k, σ', rfl, h1, h2, h3⟩
  go_wp2_with fail
  go_ret
  exact ⟨k, σ', rfl, h1, h2.mono (by omega) (by omega), h3⟩

set_option maxHeartbeats 1000000 in
theorem does_sync {p : Nat} (hp : w0.heap[p]? = some (.cells #[ptr d] 34 (0, 0))) (hb : B p) :
    Does w d K B w0 (.func (.func 71) #[] #[ptr p]) (fun σ k σ' => σ.syncs freshT k σ') 0 := by
  refine .inl ⟨71, p, rfl, enters_of Tryz.func71 (by kernel_rfl) rfl, fun wr A C L σ h hC hL hB => ?_⟩
  have c := cell1 ((hB p hb).trans hp)
  have hc := h.sync freshB (by unfold maxLen; decide)
  unfold ptr freshB at *
  go_enter Tryz.func71, Tryz.ntmps71
  go_wp2_with fail
  refine hc.mono ?_
  rintro e w' ⟨k, σ', rfl, h1, h2, h3⟩
  go_wp2_with fail
  go_ret
  exact ⟨k, σ', rfl, h1, h2.mono (by omega) (by omega), h3⟩

set_option maxHeartbeats 1000000 in
theorem does_rename {p q : Nat} {nm : ByteArray} (hp : w0.heap[p]? = some (.cells #[ptr d] 34 (0, 0))) (hb : B p) (hq : w0.heap[q]? = some (.cells #[.string nm] 9 (0, 0))) (hb' : B q) (hs : nm.size ≤ maxLen) (hK : K.length ≤ 1099511627776) (hn : nm.data.toList ∈ K) :
    Does w d K B w0 (.func (.func 72) #[] #[ptr p, ptr q]) (fun σ k σ' => σ.renames freshT nm.data.toList k σ') 0 := by
  refine .inr (.inl ⟨72, p, q, rfl, enters_of Tryz.func72 (by kernel_rfl) rfl, fun wr A C L σ h hC hL hB => ?_⟩)
  have c := cell1 ((hB p hb).trans hp)
  have c' := cell1 ((hB q hb').trans hq)
  have hc := (h.rename hK hC freshB nm (by unfold maxLen; decide) hs hn)
  unfold ptr freshB at *
  go_enter Tryz.func72, Tryz.ntmps72
  go_wp2_with fail
  refine hc.mono ?_
  rintro e w' ⟨k, σ', rfl, h1, h2, h3⟩
  go_wp2_with fail
  go_ret
  exact ⟨k, σ', rfl, h1, h2, h3⟩

set_option maxHeartbeats 1000000 in
theorem does_remove {p : Nat} (hp : w0.heap[p]? = some (.cells #[ptr d] 34 (0, 0))) (hb : B p) (hK : K.length ≤ 1099511627776) :
    Does w d K B w0 (.func (.func 102) #[] #[ptr p]) (fun σ k σ' => σ.removes freshT k σ') 0 := by
  refine .inl ⟨102, p, rfl, enters_of Tryz.func102 (by kernel_rfl) rfl, fun wr A C L σ h hC hL hB => ?_⟩
  have c := cell1 ((hB p hb).trans hp)
  have hc := h.remove hK hC freshB (by unfold maxLen; decide)
  unfold ptr freshB at *
  go_enter Tryz.func102, Tryz.ntmps102
  go_wp2_with fail
  refine hc.mono ?_
  rintro e w' ⟨k, σ', rfl, h1, h2, h3⟩
  go_wp2_with fail
  go_ret
  exact ⟨k, σ', rfl, h1, h2, h3⟩

theorem does_syncDir (hK : K.length ≤ 1099511627776) : Does w d K B w0 (.func (.func 36) #[ptr d] #[]) (fun σ k σ' => σ.syncsDir k σ') 0 := by
  refine .inr (.inr ⟨36, rfl, enters_of Tryz.func36 (by kernel_rfl) rfl, fun wr A C L σ h hC hL hB => ?_⟩)
  refine (h.syncDir hK).mono ?_
  rintro e w' ⟨k, σ', rfl, h1, h2, h3⟩
  exact ⟨k, σ', rfl, h1, h2.mono (by omega) (by omega), h3⟩

theorem Does.kept {v : Value} {R : Rel} {m : Nat} {w1 : World} {B' : Nat → Prop} (h : Does w d K B w0 v R m) (hB : ∀ k, B k → B' k ∧ w1.heap[k]? = w0.heap[k]?) : Does w d K B' w1 v R m := by
  have r : ∀ f xs, Runs w d K B w0 R m f xs → Runs w d K B' w1 R m f xs := fun f xs hr => ⟨hr.1, fun wr A C L σ hl hC hL hb => hr.2 wr A C L σ hl hC hL (fun k hk => (hb k (hB k hk).1).trans (hB k hk).2)⟩
  rcases h with ⟨f, p, e, hr⟩ | ⟨f, p, q, e, hr⟩ | ⟨f, e, hr⟩
  · exact .inl ⟨f, p, e, r _ _ hr⟩
  · exact .inr (.inl ⟨f, p, q, e, r _ _ hr⟩)
  · exact .inr (.inr ⟨f, e, r _ _ hr⟩)

end
end Go.Proofs.YtegbkpjcjlihmabGreatDoor
