/-
  Mails on a disk, plain: what their files may hold, whatever is kept by a crash; names that are firm. | Who is left by a file's text: plain. | The mails that must wait, and may: what holds of the disk, plain. | Put and Done, plain: what they leave of the mails that wait. | Open, plain: what it finds. | Who is left, as a map: plain; what is found is what was, or one more, or one less. | An Open of a disk onto which the files were copied: plain. | Files copied onto another disk, one by one: plain.
-/
import Derived.Test.YtegbkpjcjlihmabGreatDoorGw
import Derived.Test.YtegbkpjcjlihmabGreatDoorGq
import Derived.Test.YtegbkpjcjlihmabGreatDoorGp
namespace Go.Proofs.YtegbkpjcjlihmabGreatDoor
open Go.RowKit Go.Maps

/-- names of Lt are of files that Q allows -/
structure Boxq (Lt : Text → Prop) (Q : Text → Text → Nat → Prop) (σ : Dk) : Prop where
  whole : ∀ i s x, Lt s → (σ.settled i).safe s = some x → Q s (σ.cont x) (σ.sure x)
  apart : ∀ i s t x, Lt t → σ.now s = some x → (σ.settled i).safe t = some x → s = t

/-- a name that is the same, whatever is kept by a crash -/
def FirmN (σ : Dk) (s : Text) : Prop := ∀ i, (σ.settled i).safe s = σ.now s

section
variable {Lt : Text → Prop} {Q Q' : Text → Text → Nat → Prop} {σ σ' : Dk} {K : List Text} {C L : Nat} {s t : Text} {e k : Int}

theorem Boxq.empty (Lt : Text → Prop) (Q : Text → Text → Nat → Prop) : Boxq Lt Q Dk.empty := by
  have h : ∀ i, (Dk.empty.settled i).safe = fun _ => none := fun i => by simp [Dk.settled, Dk.empty, appAll]
  exact ⟨fun i s x _ hs => (by rw [h] at hs; cases hs), fun i s t x _ _ ht => (by rw [h] at ht; cases ht)⟩

theorem Boxq.tick (h : Boxq Lt Q σ) : Boxq Lt Q σ.tick := ⟨h.whole, h.apart⟩
theorem Boxq.left (h : Boxq Lt Q σ) (l : Option Nat) : Boxq Lt Q { σ with left := l } := ⟨h.whole, h.apart⟩
theorem Boxq.mono (h : Boxq Lt Q σ) (hQ : ∀ s c n, Lt s → Q s c n → Q' s c n) : Boxq Lt Q' σ := ⟨fun i s x hs hx => hQ _ _ _ hs (h.whole i s x hs hx), h.apart⟩

theorem Boxq.now (h : Boxq Lt Q σ) (hf : Fits K C L σ) {x : Nat} (hs : Lt s) (hx : σ.now s = some x) : Q s (σ.cont x) (σ.sure x) :=
  h.whole σ.chs.length s x hs (by rw [hf.setNow]; exact hx)

theorem Boxq.wrote (h : Boxq Lt Q σ) (hs : ¬ Lt s) {x : Nat} (hx : σ.now s = some x) (c : Text) (m : Nat) : Boxq Lt Q (σ.wrote x c m) := by
  refine ⟨fun i t y ht hy => ?_, h.apart⟩
  have hne : y ≠ x := fun e => by
    subst e
    exact hs (h.apart i s t y ht hx hy ▸ ht)
  simp only [Dk.wrote, upd_other _ _ hne]
  exact h.whole i t y ht hy

/-- a mail's own file is written -/
theorem Boxq.wroteIn (h : Boxq Lt Q σ) {x : Nat} (hx : σ.now s = some x) (c : Text) (m : Nat) (hQ : ∀ t c n, Lt t → Q t c n → Q' t c n) (hc : Lt s → Q' s c m) : Boxq Lt Q' (σ.wrote x c m) := by
  refine ⟨fun i t y ht hy => ?_, h.apart⟩
  by_cases e : y = x
  · subst e
    simp only [Dk.wrote, upd_same]
    obtain rfl := h.apart i s t y ht hx hy
    exact hc ht
  · simp only [Dk.wrote, upd_other _ _ e]
    exact hQ _ _ _ ht (h.whole i t y ht hy)

theorem Boxq.add (h : Boxq Lt Q σ) (hf : Fits K C L σ) {x : Nat} (hx : x ∉ σ.files) : Boxq Lt Q (σ.add x) := by
  refine ⟨fun i t y ht hy => ?_, h.apart⟩
  have hne : y ≠ x := fun e => hx (e ▸ hf.setIn i t y hy)
  simp only [Dk.add, upd_other _ _ hne]
  exact h.whole i t y ht hy

theorem Boxq.did {C' L' : Nat} (h : Boxq Lt Q σ) (hf : Fits K C L σ) (c : Chg) (hf' : Fits K C' L' (σ.did c)) (hw : ∀ t x, Lt t → c.app σ.now t = some x → Q t (σ.cont x) (σ.sure x))
    (ha : ∀ i u t x, Lt t → c.app σ.now u = some x → (σ.settled i).safe t = some x → u = t) : Boxq Lt Q (σ.did c) := by
  refine ⟨fun i t x ht hx => ?_, fun i u t x ht hu hx => ?_⟩
  · rw [did_settled hf] at hx
    split at hx
    · exact h.whole i t x ht hx
    · exact hw t x ht hx
  · have hu' : c.app σ.now u = some x := hu
    rw [did_settled hf] at hx
    split at hx
    · exact ha i u t x ht hu' hx
    · exact hf'.nowInj u t x hu hx

theorem Boxq.creates (h : Boxq Lt Q σ) (hf : Fits K C L σ) (hsK : s ∈ K) (hs : ¬ Lt s) (hc : σ.creates s e σ') : Boxq Lt Q σ' := by
  have hf' := hf.creates hsK hc
  rcases hc with ⟨_, _, rfl⟩ | ⟨_, _, _, rfl⟩ | ⟨_, hn, x, hx, _, rfl⟩
  · exact h.tick
  · exact h.tick
  · refine (h.tick.add hf.tick hx).did (hf.tick.add x) _ hf' (fun t y ht hy => ?_) (fun i u t y ht hu hy => ?_)
    · simp only [Chg.app, putN] at hy
      split at hy
      · rename_i e1; exact absurd (e1 ▸ ht) hs
      · exact (h.tick.add hf.tick hx).now (hf.tick.add x) ht hy
    · simp only [Chg.app, putN] at hu
      split at hu
      · obtain rfl := Option.some.inj hu
        exact absurd (hf.setIn i t x hy) hx
      · exact h.apart i u t y ht hu hy

theorem Boxq.appends (h : Boxq Lt Q σ) (hs : ¬ Lt s) (hc : σ.appends s t e σ') : Boxq Lt Q σ' := by
  rcases hc with ⟨_, _, rfl⟩ | ⟨_, _, _, rfl⟩ | ⟨_, x, hx, _, rfl⟩
  · exact h.tick
  · exact h.tick
  · exact h.tick.wrote hs hx _ _

/-- a Sync, of any file: what is allowed is allowed when it is safe -/
theorem Boxq.syncs (h : Boxq Lt Q σ) (hf : Fits K C L σ) (hQ : ∀ s c n, Lt s → Q s c n → Q s c c.length) (hc : σ.syncs s e σ') : Boxq Lt Q σ' := by
  rcases hc with ⟨_, _, rfl⟩ | ⟨_, _, _, rfl⟩ | ⟨_, x, hx, _, rfl⟩
  · exact h.tick
  · exact h.tick
  · exact h.tick.wroteIn hx _ _ (fun _ _ _ _ e => e) (fun hs => hQ s _ _ hs (h.now hf hs hx))

theorem Boxq.removes (h : Boxq Lt Q σ) (hf : Fits K C L σ) (hc : σ.removes s e σ') : Boxq Lt Q σ' := by
  have hf' := hf.removes hc
  rcases hc with ⟨_, _, rfl⟩ | ⟨_, _, _, rfl⟩ | ⟨_, x, hx, _, rfl⟩
  · exact h.tick
  · exact h.tick
  · have hd : ∀ u y, delN σ.now s u = some y → σ.now u = some y := fun u y hy => by
      unfold delN at hy
      split at hy
      · cases hy
      · exact hy
    exact h.tick.did hf.tick _ hf' (fun t y ht hy => h.now hf ht (hd t y hy)) (fun i u t y ht hu hy => h.apart i u t y ht (hd u y hu) hy)

/-- a name of no mail is renamed: to another one, or to a mail's whose file it is -/
theorem Boxq.renames (h : Boxq Lt Q σ) (hf : Fits K C L σ) (htK : t ∈ K) (hs : ¬ Lt s) (ht : Lt t → ∀ x, σ.now s = some x → Q t (σ.cont x) (σ.sure x)) (hc : σ.renames s t e σ') : Boxq Lt Q σ' := by
  have hf' := hf.renames htK hc
  rcases hc with ⟨_, _, rfl⟩ | ⟨_, _, _, rfl⟩ | ⟨_, x, hx, _, rfl⟩
  · exact h.tick
  · exact h.tick
  · have hd : ∀ u y, putN (delN σ.now s) t x u = some y → (u = t ∧ y = x) ∨ σ.now u = some y := fun u y hy => by
      unfold putN at hy
      split at hy
      · rename_i e1; exact .inl ⟨e1, (Option.some.inj hy).symm⟩
      · unfold delN at hy
        split at hy
        · cases hy
        · exact .inr hy
    refine h.tick.did hf.tick _ hf' (fun u y hu hy => ?_) (fun i u v y hv hu hy => ?_)
    · rcases hd u y hy with ⟨rfl, rfl⟩ | h1
      · exact ht hu y hx
      · exact h.now hf hu h1
    · rcases hd u y hu with ⟨rfl, rfl⟩ | h1
      · exact absurd (h.apart i s v y hv hx hy ▸ hv) hs
      · exact h.apart i u v y hv h1 hy

theorem Boxq.syncsDir (h : Boxq Lt Q σ) (hc : σ.syncsDir e σ') : Boxq Lt Q σ' := by
  rcases hc with ⟨_, _, rfl⟩ | ⟨_, _, rfl⟩
  · exact h.tick
  · refine ⟨fun i t x ht hx => ?_, fun i u t x ht hu hx => ?_⟩
    · rw [synced_settled] at hx
      exact h.whole _ t x ht hx
    · rw [synced_settled] at hx
      exact h.apart _ u t x ht hu hx

theorem cr_q (P : Text → Nat → Prop) (hP : ∀ c n j, n ≤ c.length → P c n → P (survive c n j) (survive c n j).length) (σ : Dk) (ks : List Text) (ts : List Int) {x : Nat} (hn : σ.sure x ≤ (σ.cont x).length) (hx : P (σ.cont x) (σ.sure x)) : ∀ i, P ((σ.cr ks ts i).cont x) ((σ.cr ks ts i).sure x) ∧ (σ.cr ks ts i).sure x ≤ ((σ.cr ks ts i).cont x).length
  | 0 => ⟨hx, hn⟩
  | i + 1 => by
    obtain ⟨h1, h2⟩ := cr_q P hP σ ks ts hn hx i
    unfold Dk.cr
    split
    · rename_i y hy
      by_cases e : x = y
      · subst e
        simp only [Dk.wrote, upd_same]
        exact ⟨hP _ _ _ h2 h1, Nat.le_refl _⟩
      · simp only [Dk.wrote, upd_other _ _ e]
        exact ⟨h1, h2⟩
    · exact ⟨h1, h2⟩

theorem Boxq.crashed (h : Boxq Lt Q σ) (hf : Fits K C L σ) (hQ : ∀ s c n j, Lt s → n ≤ c.length → Q s c n → Q s (survive c n j) (survive c n j).length) (k : Nat) (ks : List Text) (ts : List Int) : Boxq Lt Q (σ.crashed k ks ts) := by
  refine ⟨fun i t x ht hx => ?_, fun i u t x ht hu hx => ?_⟩
  · rw [crashed_settled] at hx
    exact (cr_q (Q t) (fun c n j hn hq => hQ t c n j ht hn hq) { σ.settled k with chs := [] } ks ts (hf.sizes x (hf.setIn k t x hx)).1 (h.whole k t x ht hx) ks.length).1
  · rw [crashed_settled] at hx
    rw [crashed_now] at hu
    exact hf.setInj k u t x hu hx

/-! names that are firm -/

theorem FirmN.tick (h : FirmN σ s) : FirmN σ.tick s := h
theorem FirmN.did (h : FirmN σ s) (hf : Fits K C L σ) (c : Chg) (hc : c.app σ.now s = σ.now s) : FirmN (σ.did c) s := by
  intro i
  rw [did_settled hf]
  show _ = c.app σ.now s
  split
  · rw [hc]; exact h i
  · rfl

theorem Wr.firm (x : Wr) (hs : FirmN σ s) (hf : Fits K C L σ) (hm : ¬ x.makes s) (ht : ¬ x.takes s) (h : x.rel σ k σ') : FirmN σ' s := by
  obtain ⟨n, a, b⟩ := x
  match n, hm, ht, h with
  | 0, hm, _, h =>
    rcases h with ⟨_, _, rfl⟩ | ⟨_, _, _, rfl⟩ | ⟨_, hn, x, hx, _, rfl⟩
    · exact hs
    · exact hs
    · refine FirmN.did (σ := σ.tick.add x) hs (hf.tick.add x) _ ?_
      exact if_neg hm
  | 1, _, _, h => rcases h with ⟨_, _, rfl⟩ | ⟨_, _, _, rfl⟩ | ⟨_, x, hx, _, rfl⟩ <;> exact hs
  | 2, _, _, h => rcases h with ⟨_, _, rfl⟩ | ⟨_, _, _, rfl⟩ | ⟨_, x, hx, _, rfl⟩ <;> exact hs
  | 3, _, ht, h =>
    rcases h with ⟨_, _, rfl⟩ | ⟨_, _, _, rfl⟩ | ⟨_, x, hx, _, rfl⟩
    · exact hs
    · exact hs
    · refine FirmN.did (σ := σ.tick) hs hf.tick _ ?_
      exact if_neg ht
  | 4, hm, ht, h =>
    rcases h with ⟨_, _, rfl⟩ | ⟨_, _, _, rfl⟩ | ⟨_, x, hx, _, rfl⟩
    · exact hs
    · exact hs
    · refine FirmN.did (σ := σ.tick) hs hf.tick _ ?_
      exact (if_neg hm).trans (if_neg ht)
  | n + 5, _, _, h =>
    rcases h with ⟨_, _, rfl⟩ | ⟨_, _, rfl⟩
    · exact hs
    · intro i
      rw [synced_settled]
      exact hs _

theorem firm_of_syncsDir (hf : Fits K C L σ) (hc : σ.syncsDir e σ') (he : e = 0) (s : Text) : FirmN σ' s ∧ σ'.now = σ.now := by
  rcases hc with ⟨_, h, _⟩ | ⟨_, _, rfl⟩
  · omega
  · refine ⟨fun i => ?_, rfl⟩
    rw [synced_settled]
    have e1 : (σ.tick.settled σ.chs.length).safe = σ.now := hf.setNow
    rw [e1]; rfl

theorem firm_crashed (σ : Dk) (k : Nat) (ks : List Text) (ts : List Int) (s : Text) : FirmN (σ.crashed k ks ts) s := fun i => by
  rw [crashed_settled, crashed_now]

/-- what a write leaves of names -/
theorem Wr.nowOther (x : Wr) (hm : ¬ x.makes s) (ht : ¬ x.takes s) (h : x.rel σ k σ') : σ'.now s = σ.now s := by
  obtain ⟨n, a, b⟩ := x
  match n, hm, ht, h with
  | 0, hm, _, h =>
    rcases h with ⟨_, _, rfl⟩ | ⟨_, _, _, rfl⟩ | ⟨_, hn, x, hx, _, rfl⟩
    · rfl
    · rfl
    · exact if_neg hm
  | 1, _, _, h => rcases h with ⟨_, _, rfl⟩ | ⟨_, _, _, rfl⟩ | ⟨_, x, hx, _, rfl⟩ <;> rfl
  | 2, _, _, h => rcases h with ⟨_, _, rfl⟩ | ⟨_, _, _, rfl⟩ | ⟨_, x, hx, _, rfl⟩ <;> rfl
  | 3, _, ht, h =>
    rcases h with ⟨_, _, rfl⟩ | ⟨_, _, _, rfl⟩ | ⟨_, x, hx, _, rfl⟩
    · rfl
    · rfl
    · exact if_neg ht
  | 4, hm, ht, h =>
    rcases h with ⟨_, _, rfl⟩ | ⟨_, _, _, rfl⟩ | ⟨_, x, hx, _, rfl⟩
    · rfl
    · rfl
    · exact (if_neg hm).trans (if_neg ht)
  | n + 5, _, _, h => rcases h with ⟨_, _, rfl⟩ | ⟨_, _, rfl⟩ <;> rfl

/-- each view is one that was, or what is now -/
theorem Wr.view (x : Wr) (hf : Fits K C L σ) (h : x.rel σ k σ') (i : Nat) : (∃ j, (σ'.settled i).safe = (σ.settled j).safe) ∨ (σ'.settled i).safe = σ'.now := by
  have hd : ∀ (τ : Dk) (c : Chg), Fits K C L τ → (∀ i, (τ.settled i).safe = (σ.settled i).safe) → (∃ j, ((τ.did c).settled i).safe = (σ.settled j).safe) ∨ ((τ.did c).settled i).safe = (τ.did c).now := fun τ c hft he => by
    rw [did_settled hft]
    split
    · exact .inl ⟨i, he i⟩
    · exact .inr rfl
  obtain ⟨n, a, b⟩ := x
  match n, h with
  | 0, h =>
    rcases h with ⟨_, _, rfl⟩ | ⟨_, _, _, rfl⟩ | ⟨_, _, x, hx, _, rfl⟩
    · exact .inl ⟨i, rfl⟩
    · exact .inl ⟨i, rfl⟩
    · exact hd (σ.tick.add x) _ (hf.tick.add x) (fun _ => rfl)
  | 1, h => rcases h with ⟨_, _, rfl⟩ | ⟨_, _, _, rfl⟩ | ⟨_, x, hx, _, rfl⟩ <;> exact .inl ⟨i, rfl⟩
  | 2, h => rcases h with ⟨_, _, rfl⟩ | ⟨_, _, _, rfl⟩ | ⟨_, x, hx, _, rfl⟩ <;> exact .inl ⟨i, rfl⟩
  | 3, h =>
    rcases h with ⟨_, _, rfl⟩ | ⟨_, _, _, rfl⟩ | ⟨_, x, hx, _, rfl⟩
    · exact .inl ⟨i, rfl⟩
    · exact .inl ⟨i, rfl⟩
    · exact hd σ.tick _ hf.tick (fun _ => rfl)
  | 4, h =>
    rcases h with ⟨_, _, rfl⟩ | ⟨_, _, _, rfl⟩ | ⟨_, x, hx, _, rfl⟩
    · exact .inl ⟨i, rfl⟩
    · exact .inl ⟨i, rfl⟩
    · exact hd σ.tick _ hf.tick (fun _ => rfl)
  | n + 5, h =>
    rcases h with ⟨_, _, rfl⟩ | ⟨_, _, rfl⟩
    · exact .inl ⟨i, rfl⟩
    · refine .inl ⟨σ.chs.length, ?_⟩
      rw [synced_settled]
      rfl

end

end Go.Proofs.YtegbkpjcjlihmabGreatDoor

namespace Go.Proofs.YtegbkpjcjlihmabGreatDoor
open Go.RowKit Go.Maps

/-- who is left behind marks -/
def stillOf (l : List Ltr) (r : Text) : List Ltr := (once l).filter (fun p => decide (((once l).idxOf p : Int) ∉ marksOf r))
/-- that, as a map -/
def leftM (to left : List Ltr) : Lefts := fun p => if p ∈ left then some ((once to).idxOf p : Int) else none

theorem once_nd (l : List Ltr) : (once l).Nodup := once_nodup l [] List.nodup_nil
theorem once_in {l : List Ltr} {p : Ltr} (h : p ∈ once l) : p ∈ l := by
  have := (once_mem l [] p).1 h
  simpa using this
theorem still_in {l : List Ltr} {r : Text} {p : Ltr} (h : p ∈ stillOf l r) : p ∈ once l := (List.mem_filter.1 h).1
theorem still_sub (l : List Ltr) (r : Text) : (stillOf l r).Sublist (once l) := List.filter_sublist

theorem strikes_left (to : List Ltr) : ∀ (ps : List Text) (M : Lefts) (ns : List Int), M = (fun p => if p ∈ once to ∧ ((once to).idxOf p : Int) ∉ ns then some ((once to).idxOf p : Int) else none) →
    strikes (once to) M ps = fun p => if p ∈ once to ∧ ((once to).idxOf p : Int) ∉ ns ++ ps.filterMap markOf then some ((once to).idxOf p : Int) else none
  | [], M, ns, h => by
    rw [h]
    simp [strikes]
  | q :: ps, M, ns, h => by
    show strikes (once to) (strike1 (once to) M q) ps = _
    cases hq : markOf q with
    | none =>
      rw [strike_no hq, strikes_left to ps M ns h, List.filterMap_cons, hq]
    | some n =>
      have e1 : strike1 (once to) M q = (fun p => if p ∈ once to ∧ ((once to).idxOf p : Int) ∉ ns ++ [n] then some ((once to).idxOf p : Int) else none) := by
        funext p
        have key : p ∈ once to → (((once to).idxOf p : Int) = n ↔ (0 ≤ n ∧ (once to)[n.toNat]? = some p)) := fun hp => by
          have hlt := List.idxOf_lt_length_iff.2 hp
          constructor
          · intro e
            refine ⟨by omega, ?_⟩
            rw [← e, Int.toNat_natCast, List.getElem?_eq_getElem hlt, List.getElem_idxOf]
          · rintro ⟨h0, hg⟩
            obtain ⟨h4, h5⟩ := List.getElem?_eq_some_iff.1 hg
            have h6 := (once_nd to).idxOf_getElem n.toNat h4
            rw [h5] at h6
            omega
        have e4 : (p ∈ once to ∧ ((once to).idxOf p : Int) ∉ ns ++ [n]) ↔ (p ∈ once to ∧ ((once to).idxOf p : Int) ∉ ns) ∧ ¬ (0 ≤ n ∧ (once to)[n.toNat]? = some p) := by
          constructor
          · rintro ⟨h1, h2⟩
            rw [List.mem_append, List.mem_singleton] at h2
            exact ⟨⟨h1, fun e => h2 (.inl e)⟩, fun e => h2 (.inr ((key h1).2 e))⟩
          · rintro ⟨⟨h1, h2⟩, h3⟩
            refine ⟨h1, ?_⟩
            rw [List.mem_append, List.mem_singleton]
            rintro (e | e)
            · exact h2 e
            · exact h3 ((key h1).1 e)
        simp only [e4]
        unfold strike1
        rw [hq]
        dsimp only
        cases hg : (once to)[n.toNat]? with
        | none => simp [h]
        | some a =>
          dsimp only
          by_cases h0 : 0 ≤ n
          · rw [if_pos h0]
            unfold delA
            by_cases hpa : p = a
            · simp [hpa, h0]
            · have : ¬ a = p := fun e => hpa e.symm
              simp [hpa, this, h]
          · simp [h0, h]
      rw [strikes_left to ps _ (ns ++ [n]) e1, List.filterMap_cons, hq]
      funext p
      simp [List.append_assoc]

theorem strikes_still (to : List Ltr) (r : Text) : strikes (once to) (plc (once to)) (splits r) = leftM to (stillOf to r) := by
  have h0 : plc (once to) = (fun p => if p ∈ once to ∧ ((once to).idxOf p : Int) ∉ ([] : List Int) then some ((once to).idxOf p : Int) else none) := by
    funext p
    unfold plc
    simp
  rw [strikes_left to (splits r) _ [] h0]
  funext p
  unfold leftM stillOf marksOf
  simp [List.mem_filter]

theorem still_nil (l : List Ltr) : stillOf l [] = once l := by
  unfold stillOf
  rw [marksOf_nil]
  simp

theorem leftM_once (l : List Ltr) : leftM l (once l) = plc (once l) := rfl

theorem once_idx_lt {l : List Ltr} {p : Ltr} (h : p ∈ once l) (hl : l.length < 1000000000000000000) : (once l).idxOf p < 1000000000000000000 := by
  have h1 := List.idxOf_lt_length_iff.2 h
  have h2 := once_len l
  omega

theorem idx_inj {l : List Ltr} {p q : Ltr} (hp : p ∈ once l) (hq : q ∈ once l) (e : (once l).idxOf p = (once l).idxOf q) : p = q := by
  have h1 := List.getElem_idxOf (List.idxOf_lt_length_iff.2 hp)
  have h2 := List.getElem_idxOf (List.idxOf_lt_length_iff.2 hq)
  rw [← h1, ← h2]
  simp only [e]

/-- a mark more -/
theorem still_mark (l : List Ltr) (r : Text) {a : Ltr} (ha : a ∈ once l) (hl : l.length < 1000000000000000000) : stillOf l (r ++ markT ((once l).idxOf a : Int)) = (stillOf l r).filter (fun p => decide (p ≠ a)) := by
  unfold stillOf
  rw [marksOf_mark r _ (once_idx_lt ha hl), List.filter_filter]
  refine List.filter_congr (fun p hp => ?_)
  have : ((once l).idxOf p : Int) = ((once l).idxOf a : Int) ↔ p = a := ⟨fun e => idx_inj hp ha (by omega), fun e => by rw [e]⟩
  rw [← Bool.decide_and]
  refine decide_eq_decide.2 ?_
  rw [List.mem_append, List.mem_singleton, this]
  constructor
  · intro h
    exact ⟨fun e => h (.inr e), fun e => h (.inl e)⟩
  · rintro ⟨h1, h2⟩ (e | e)
    · exact h2 e
    · exact h1 e

/-- a mark that was cut -/
theorem still_cut (l : List Ltr) (r : Text) {a : Ltr} (j : Nat) (hj : j < (markT ((once l).idxOf a : Int)).length) : stillOf l (r ++ (markT ((once l).idxOf a : Int)).take j) = stillOf l r := by
  unfold stillOf
  rw [marksOf_cut r _ j hj]

/-- a mail as it is put: from whom, to whom, its data -/
abbrev Ml := Text × Text × List Ltr × Text
def mlText (m : Ml) : Text := mailText m.1 m.2.1 m.2.2.1 m.2.2.2
def mlTo (m : Ml) : List Ltr := m.2.2.1

/-- a mail that comes back -/
structure MlOk (m : Ml) : Prop where
  fa : m.1.length < 1000000000000000000
  fb : m.2.1.length < 1000000000000000000
  dd : m.2.2.2.length < 1000000000000000000
  to : ∀ p ∈ m.2.2.1, p.1.length < 1000000000000000000 ∧ p.2.length < 1000000000000000000
  ws : (wt (m.2.2.1.flatMap twoOf)).length < 1000000000000000000
  ln : m.2.2.1.length < 1000000000000000000

theorem MlOk.back {m : Ml} (h : MlOk m) {r : Text} {M : Lefts} (hM : LeftOf (mlText m ++ r) M) : M = leftM (mlTo m) (stillOf (mlTo m) r) := by
  obtain ⟨a, b, l, d, r', h1, rfl⟩ := hM
  obtain ⟨_, _, rfl, _, rfl⟩ := mail_back rfl h.fa h.fb h.dd h.to h.ws h1
  exact strikes_still _ _

end Go.Proofs.YtegbkpjcjlihmabGreatDoor

namespace Go.Proofs.YtegbkpjcjlihmabGreatDoor
open Go.RowKit Go.Maps

/-! names -/

theorem numberOf_name (k : Text) {n : Int} (h0 : 0 ≤ n) (h1 : n < 1000000000000000000) : numberOf (numName k n) k = some n := by
  obtain ⟨m, rfl⟩ := Int.eq_ofNat_of_zero_le h0
  unfold numberOf numName
  rw [if_pos (by rw [List.isPrefixOf_iff_prefix]; exact List.prefix_append _ _), List.drop_left, itoa_nat, atoiAll_digits m (by omega)]

theorem numberOf_pre2 {s k : Text} (h : (numberOf s k).isSome = true) : ∃ r, s = k ++ r := by
  unfold numberOf at h
  split at h
  · rename_i hp
    rw [List.isPrefixOf_iff_prefix] at hp
    obtain ⟨r, e⟩ := hp
    exact ⟨r, e.symm⟩
  · cases h

theorem numberOf_not {s k : Text} (h : ∀ r, s ≠ k ++ r) : numberOf s k = none := by
  cases e : numberOf s k with
  | none => rfl
  | some n =>
    obtain ⟨r, hr⟩ := numberOf_pre2 (s := s) (k := k) (by rw [e]; rfl)
    exact absurd hr (h r)

theorem last_not_mail {s : Text} (h : (numberOf s lastT).isSome = true) : numberOf s mailT = none := by
  obtain ⟨r, rfl⟩ := numberOf_pre2 h
  exact numberOf_not (fun q e => by simp [lastT, mailT] at e)
theorem mail_not_last {s : Text} (h : (numberOf s mailT).isSome = true) : numberOf s lastT = none := by
  obtain ⟨r, rfl⟩ := numberOf_pre2 h
  exact numberOf_not (fun q e => by simp [lastT, mailT] at e)
theorem new_not_last : numberOf newT lastT = none := numberOf_not (fun q e => by simp [newT, lastT] at e)
theorem new_not_mail : numberOf newT mailT = none := numberOf_not (fun q e => by simp [newT, mailT] at e)

/-- a mail's name -/
def MlN (s : Text) : Prop := (numberOf s mailT).isSome = true
/-- a mail's, or that of the last number -/
def Nm (s : Text) : Prop := (numberOf s lastT).isSome = true ∨ MlN s

theorem mlN_name {n : Int} (h0 : 0 ≤ n) (h1 : n < 1000000000000000000) : MlN (mName n) := by
  unfold MlN mName
  rw [numberOf_name mailT h0 h1]; rfl
theorem lsN_name {n : Int} (h0 : 0 ≤ n) (h1 : n < 1000000000000000000) : (numberOf (lName n) lastT).isSome = true := by
  unfold lName
  rw [numberOf_name lastT h0 h1]; rfl
theorem lName_not {n : Int} (h0 : 0 ≤ n) (h1 : n < 1000000000000000000) : ¬ MlN (lName n) := fun h => by
  have := last_not_mail (lsN_name h0 h1)
  unfold MlN at h
  rw [this] at h
  cases h
theorem newT_nm : ¬ Nm newT := fun h => by
  rcases h with h | h
  · rw [new_not_last] at h; cases h
  · unfold MlN at h; rw [new_not_mail] at h; cases h
theorem mName_inj {n m : Int} (h0 : 0 ≤ n) (h1 : n < 1000000000000000000) (h2 : 0 ≤ m) (h3 : m < 1000000000000000000) (e : mName n = mName m) : n = m := by
  have e1 := numberOf_name mailT h0 h1
  have e2 := numberOf_name mailT h2 h3
  unfold mName at e
  rw [e, e2] at e1
  exact (Option.some.inj e1).symm
theorem lName_inj {n m : Int} (h0 : 0 ≤ n) (h1 : n < 1000000000000000000) (h2 : 0 ≤ m) (h3 : m < 1000000000000000000) (e : lName n = lName m) : n = m := by
  have e1 := numberOf_name lastT h0 h1
  have e2 := numberOf_name lastT h2 h3
  unfold lName at e
  rw [e, e2] at e1
  exact (Option.some.inj e1).symm
theorem ne_of_mlN {s t : Text} (hs : MlN s) (ht : ¬ MlN t) : s ≠ t := fun e => ht (e ▸ hs)

/-! what must wait, and what may -/

/-- a mail that waits: its number, itself, who is left -/
abbrev Wg := Int × Ml × List Ltr
def ids (l : List Wg) : List Int := l.map (·.1)

/-- what may have been done: nothing, a Put, a Done -/
abbrev May := Option (Ml ⊕ (Int × Ltr))
abbrev May.no : May := none
abbrev May.put (m : Ml) : May := some (Sum.inl m)
abbrev May.done (id : Int) (a : Ltr) : May := some (Sum.inr (id, a))
theorem May.put_inj {m m' : Ml} (e : May.put m = May.put m') : m = m' := Sum.inl.inj (Option.some.inj e)
theorem May.done_inj {id id' : Int} {a a' : Ltr} (e : May.done id a = May.done id' a') : id = id' ∧ a = a' := Prod.mk.inj (Sum.inr.inj (Option.some.inj e))

/-- what a mail's file may hold -/
def QQ (l : List Wg) (lv : Int) (may : May) (s c : Text) (n : Nat) : Prop :=
  (∃ w ∈ l, s = mName w.1 ∧ ∃ r, c = mlText w.2.1 ++ r ∧ stillOf (mlTo w.2.1) r = w.2.2 ∧ n = c.length) ∨
  (∃ w ∈ l, ∃ a, may = .done w.1 a ∧ a ∈ w.2.2 ∧ w.2.2 ≠ [a] ∧ s = mName w.1 ∧ ∃ r, c = (mlText w.2.1 ++ r) ++ markT ((once (mlTo w.2.1)).idxOf a : Int) ∧ stillOf (mlTo w.2.1) r = w.2.2 ∧ (mlText w.2.1 ++ r).length ≤ n) ∨
  (∃ m, may = .put m ∧ s = mName (lv + 1) ∧ c = mlText m ∧ n = c.length)

/-- which names there are -/
structure DirOk (l : List Wg) (lv : Int) (may : May) (N : Names) : Prop where
  last : ∃ n, (n = lv ∨ ((∃ m, may = .put m) ∧ n = lv + 1)) ∧ ∀ s, (numberOf s lastT).isSome = true → ((N s).isSome = true ↔ s = lName n)
  mail : ∀ s, MlN s → (N s).isSome = true → (∃ w ∈ l, s = mName w.1) ∨ ((∃ m, may = .put m) ∧ s = mName (lv + 1) ∧ (N (lName (lv + 1))).isSome = true)
  must : ∀ w ∈ l, (∃ a, may = .done w.1 a ∧ w.2.2 = [a]) ∨ (N (mName w.1)).isSome = true

/-- mails that are in order -/
structure Wgs (l : List Wg) (lv : Int) : Prop where
  lo : 0 ≤ lv
  hi : lv + 1 < 1000000000000000000
  mem : ∀ w ∈ l, 0 < w.1 ∧ w.1 ≤ lv ∧ MlOk w.2.1 ∧ w.2.2 ≠ [] ∧ w.2.2.Sublist (once (mlTo w.2.1))
  up : (ids l).Pairwise (· < ·)

/-- what may have been done is such a thing -/
def MayOk (l : List Wg) : May → Prop
  | none => True
  | some (Sum.inl m) => MlOk m ∧ mlTo m ≠ []
  | some (Sum.inr (id, a)) => ∃ w ∈ l, w.1 = id ∧ a ∈ w.2.2

structure Inv (σ : Dk) (l : List Wg) (lv : Int) (may : May) : Prop where
  box : Boxq MlN (QQ l lv may) σ
  dir : ∀ i, DirOk l lv may (σ.settled i).safe
  wgs : Wgs l lv
  ok : MayOk l may

/-- nothing is open -/
structure Alive (σ : Dk) (l : List Wg) (lv : Int) : Prop where
  inv : Inv σ l lv .no
  firm : ∀ s, Nm s → FirmN σ s
  new : σ.now newT = none

section
variable {σ σ' : Dk} {l l' : List Wg} {lv lv' : Int} {may may' : May} {K : List Text} {C L : Nat} {k : Int}

theorem Wgs.nameM (h : Wgs l lv) {w : Wg} (hw : w ∈ l) : MlN (mName w.1) := by
  obtain ⟨h1, h2, _⟩ := h.mem w hw
  have := h.hi
  exact mlN_name (by omega) (by omega)
theorem Wgs.inj (h : Wgs l lv) {w v : Wg} (hw : w ∈ l) (hv : v ∈ l) (e : mName w.1 = mName v.1) : w.1 = v.1 := by
  obtain ⟨h1, h2, _⟩ := h.mem w hw
  obtain ⟨h3, h4, _⟩ := h.mem v hv
  have := h.hi
  exact mName_inj (by omega) (by omega) (by omega) (by omega) e
theorem ids_inj : ∀ {l : List Wg}, (ids l).Pairwise (· < ·) → ∀ {w v : Wg}, w ∈ l → v ∈ l → w.1 = v.1 → w = v
  | [], _, _, _, hw, _, _ => by cases hw
  | x :: l, h, w, v, hw, hv, e => by
    have h1 : ∀ n ∈ ids l, x.1 < n := (List.pairwise_cons.1 h).1
    rcases List.mem_cons.1 hw with rfl | hw
    · rcases List.mem_cons.1 hv with rfl | hv
      · rfl
      · have := h1 v.1 (List.mem_map_of_mem hv)
        omega
    · rcases List.mem_cons.1 hv with rfl | hv
      · rename_i hw0
        have := h1 w.1 (List.mem_map_of_mem hw0)
        omega
      · exact ids_inj (List.pairwise_cons.1 h).2 hw hv e
theorem Wgs.same (h : Wgs l lv) {w v : Wg} (hw : w ∈ l) (hv : v ∈ l) (e : mName w.1 = mName v.1) : w = v := ids_inj h.up hw hv (h.inj hw hv e)

theorem DirOk.congr {N N' : Names} (h : DirOk l lv may N) (hw : Wgs l lv) (e : ∀ s, Nm s → N' s = N s) : DirOk l lv may N' := by
  have hlo := hw.lo
  have hhi := hw.hi
  obtain ⟨n, hn, hs⟩ := h.last
  refine ⟨⟨n, hn, fun s h1 => by rw [e s (.inl h1)]; exact hs s h1⟩, fun s h1 h2 => ?_, fun w h1 => ?_⟩
  · rw [e s (.inr h1)] at h2
    rw [e (lName (lv + 1)) (.inl (lsN_name (by omega) (by omega)))]
    exact h.mail s h1 h2
  · rw [e (mName w.1) (.inr (hw.nameM h1))]
    exact h.must w h1

theorem DirOk.more {N : Names} (h : DirOk l lv .no N) : DirOk l lv may N := by
  obtain ⟨n, hn, hs⟩ := h.last
  refine ⟨⟨n, ?_, hs⟩, fun s h1 h2 => ?_, fun w h1 => ?_⟩
  · rcases hn with hn | ⟨⟨m, e⟩, _⟩
    · exact .inl hn
    · cases e
  · rcases h.mail s h1 h2 with h3 | ⟨⟨m, e⟩, _⟩
    · exact .inl h3
    · cases e
  · rcases h.must w h1 with ⟨a, e, _⟩ | h3
    · cases e
    · exact .inr h3

theorem QQ.more {s c : Text} {n : Nat} (h : QQ l lv .no s c n) : QQ l lv may s c n := by
  rcases h with h | ⟨w, _, a, e, _⟩ | ⟨m, e, _⟩
  · exact .inl h
  · cases e
  · cases e

theorem Inv.more (h : Inv σ l lv .no) (hm : MayOk l may) : Inv σ l lv may :=
  ⟨h.box.mono (fun _ _ _ _ e => e.more), fun i => (h.dir i).more, h.wgs, hm⟩

theorem QQ.sync {s c : Text} {n : Nat} (hn : n ≤ c.length) (h : QQ l lv may s c n) : QQ l lv may s c c.length := by
  rcases h with ⟨w, h1, h2, r, h3, h4, _⟩ | ⟨w, h1, a, h2, h3, h4, h5, r, h6, h7, h8⟩ | ⟨m, h1, h2, h3, _⟩
  · exact .inl ⟨w, h1, h2, r, h3, h4, rfl⟩
  · exact .inr (.inl ⟨w, h1, a, h2, h3, h4, h5, r, h6, h7, by omega⟩)
  · exact .inr (.inr ⟨m, h1, h2, h3, rfl⟩)

theorem survive_full {c : Text} {n : Nat} (j : Int) (h : n = c.length) : survive c n j = c := by
  unfold survive
  exact List.take_of_length_le (by omega)

theorem QQ.crash {s c : Text} {n : Nat} (j : Int) (hn : n ≤ c.length) (h : QQ l lv may s c n) : QQ l lv may s (survive c n j) (survive c n j).length := by
  rcases h with ⟨w, h1, h2, r, h3, h4, h5⟩ | ⟨w, h1, a, h2, h3, h4, h5, r, h6, h7, h8⟩ | ⟨m, h1, h2, h3, h5⟩
  · rw [survive_full j h5]
    exact .inl ⟨w, h1, h2, r, h3, h4, rfl⟩
  · obtain ⟨q, hq, hq2⟩ : ∃ q, survive c n j = (mlText w.2.1 ++ r) ++ (markT ((once (mlTo w.2.1)).idxOf a : Int)).take q ∧ q ≤ (markT ((once (mlTo w.2.1)).idxOf a : Int)).length := by
      refine ⟨n + min j.toNat (c.length - n) - (mlText w.2.1 ++ r).length, ?_, ?_⟩
      · unfold survive
        rw [h6, List.take_append, List.take_of_length_le (by omega)]
      · have e6 : c.length = (mlText w.2.1 ++ r).length + (markT ((once (mlTo w.2.1)).idxOf a : Int)).length := by rw [h6, List.length_append]
        omega
    rw [hq]
    by_cases e : q = (markT ((once (mlTo w.2.1)).idxOf a : Int)).length
    · rw [e, List.take_length]
      exact .inr (.inl ⟨w, h1, a, h2, h3, h4, h5, r, rfl, h7, Nat.le_trans (Nat.le_add_right _ _) (Nat.le_of_eq List.length_append.symm)⟩)
    · refine .inl ⟨w, h1, h5, r ++ (markT ((once (mlTo w.2.1)).idxOf a : Int)).take q, by rw [List.append_assoc], ?_, rfl⟩
      rw [still_cut _ _ q (by omega)]
      exact h7
  · rw [survive_full j h5]
    exact .inr (.inr ⟨m, h1, h2, h3, rfl⟩)

theorem Inv.crashed (h : Inv σ l lv may) (hf : Fits K C L σ) (j : Nat) (ks : List Text) (ts : List Int) : Inv (σ.crashed j ks ts) l lv may :=
  ⟨h.box.crashed hf (fun _ _ _ t _ hn hq => hq.crash t hn) j ks ts, fun i => by rw [crashed_settled]; exact h.dir j, h.wgs, h.ok⟩

theorem Inv.left (h : Inv σ l lv may) (n : Option Nat) : Inv { σ with left := n } l lv may := ⟨h.box.left n, h.dir, h.wgs, h.ok⟩
theorem Alive.left (h : Alive σ l lv) (n : Option Nat) : Alive { σ with left := n } l lv := ⟨h.inv.left n, h.firm, h.new⟩

/-- a write that touches no mail -/
structure Offm (K : List Text) (x : Wr) : Prop where
  mks : ∀ s, x.makes s → s ∈ K ∧ ¬ Nm s
  tks : ∀ s, x.takes s → ¬ Nm s
  ap : x.1 = 1 → ¬ MlN x.2.1

theorem Inv.offm (h : Inv σ l lv may) (hf : Fits K C L σ) {x : Wr} (ho : Offm K x) (hr : x.rel σ k σ') : Inv σ' l lv may := by
  refine ⟨?_, fun i => ?_, h.wgs, h.ok⟩
  · obtain ⟨n, s, t⟩ := x
    match n, ho, hr with
    | 0, ho, hr => exact h.box.creates hf (ho.mks s rfl).1 (fun e => (ho.mks s rfl).2 (.inr e)) hr
    | 1, ho, hr => exact h.box.appends (ho.ap rfl) hr
    | 2, _, hr =>
      rcases hr with ⟨_, _, rfl⟩ | ⟨_, _, _, rfl⟩ | ⟨_, x, hx, _, rfl⟩
      · exact h.box.tick
      · exact h.box.tick
      · exact h.box.tick.wroteIn hx _ _ (fun _ _ _ _ e => e) (fun hs => (h.box.now hf hs hx).sync (hf.sizes x (hf.nowIn s x hx)).1)
    | 3, _, hr => exact h.box.removes hf hr
    | 4, ho, hr => exact h.box.renames hf (ho.mks t rfl).1 (fun e => ho.tks s rfl (.inr e)) (fun e => absurd (.inr e) (ho.mks t rfl).2) hr
    | n + 5, _, hr => exact h.box.syncsDir hr
  · rcases x.view hf hr i with ⟨j, e⟩ | e
    · rw [e]; exact h.dir j
    · rw [e]
      have h0 := h.dir σ.chs.length
      rw [hf.setNow] at h0
      exact h0.congr h.wgs (fun s hs => x.nowOther (fun e => (ho.mks s e).2 hs) (fun e => ho.tks s e hs) hr)

theorem Alive.offm (h : Alive σ l lv) (hf : Fits K C L σ) {x : Wr} (ho : Offm K x) (hn : ¬ x.makes newT) (ht : ¬ x.takes newT) (hr : x.rel σ k σ') : Alive σ' l lv :=
  ⟨h.inv.offm hf ho hr, fun s hs => x.firm (h.firm s hs) hf (fun e => (ho.mks s e).2 hs) (fun e => ho.tks s e hs) hr, by rw [x.nowOther hn ht hr]; exact h.new⟩

theorem Inv.offs {ws : List Wr} (h : Inv σ l lv may) (hf : Fits K C L σ) (ho : ∀ x ∈ ws, Offm K x) (hr : runs (ws.map Wr.rel) σ k σ') : Inv σ' l lv may :=
  runsW_keep (fun σ => Inv σ l lv may) ws (fun x hx _ _ _ _ _ hf hp hx' => hp.offm hf (ho x hx) hx') hf (fun x hx s hs => ((ho x hx).mks s hs).1) h hr

/-- what is firm need be said but of now -/
theorem Alive.of (hf : Fits K C L σ) (hw : Wgs l lv) (hfm : ∀ s, Nm s → FirmN σ s) (hnew : σ.now newT = none) (hd : DirOk l lv .no σ.now) (hq : ∀ s x, MlN s → σ.now s = some x → QQ l lv .no s (σ.cont x) (σ.sure x)) : Alive σ l lv := by
  refine ⟨⟨⟨fun i s x hs hx => ?_, fun i s t x ht hs hx => ?_⟩, fun i => hd.congr hw (fun s hs => hfm s hs i), hw, trivial⟩, hfm, hnew⟩
  · rw [hfm s (.inr hs) i] at hx
    exact hq s x hs hx
  · rw [hfm t (.inr ht) i] at hx
    exact hf.nowInj s t x hs hx

theorem Alive.dir (h : Alive σ l lv) (hf : Fits K C L σ) : DirOk l lv .no σ.now := by
  have := h.inv.dir σ.chs.length
  rwa [hf.setNow] at this
theorem Inv.dirNow (h : Inv σ l lv may) (hf : Fits K C L σ) : DirOk l lv may σ.now := by
  have := h.dir σ.chs.length
  rwa [hf.setNow] at this

theorem DirOk.lastNow {N : Names} (h : DirOk l lv .no N) (hw : Wgs l lv) : ∀ s, (numberOf s lastT).isSome = true → ((N s).isSome = true ↔ s = lName lv) := by
  obtain ⟨n, hn, hs⟩ := h.last
  rcases hn with rfl | ⟨⟨m, e⟩, _⟩
  · exact hs
  · cases e

end

end Go.Proofs.YtegbkpjcjlihmabGreatDoor

namespace Go.Proofs.YtegbkpjcjlihmabGreatDoor
open Go.RowKit Go.Maps

section
variable {σ σ' : Dk} {l l' : List Wg} {lv lv' : Int} {may may' : May} {K : List Text} {C L : Nat} {k : Int}

theorem Inv.tick (h : Inv σ l lv may) : Inv σ.tick l lv may := ⟨h.box.tick, h.dir, h.wgs, h.ok⟩

theorem runs_step {R : Rel} {Rs : List Rel} {G : Prop} (hr : runs (R :: Rs) σ k σ') (hbad : ∀ k1, k1 ≠ 0 → R σ k1 σ' → k = k1 → G) (hgood : ∀ σ1, R σ 0 σ1 → runs Rs σ1 k σ' → G) : G := by
  obtain ⟨k1, σ1, h1, h2⟩ := hr
  rcases h2 with ⟨rfl, h2⟩ | ⟨h2, h3, rfl⟩
  · exact hgood σ1 h1 h2
  · exact hbad k1 h2 h1 h3

theorem bad_creates {s : Text} (h : σ.creates s k σ') (hk : k ≠ 0) (hs : σ.now s = none) : σ.left ≠ none ∧ σ' = σ.tick := by
  rcases h with ⟨hd, _, e⟩ | ⟨_, e, _⟩ | ⟨_, _, _, _, e, _⟩
  · exact ⟨dead_left hd, e⟩
  · rw [hs] at e; cases e
  · exact absurd e hk
theorem bad_appends {s t : Text} (h : σ.appends s t k σ') (hk : k ≠ 0) (hs : (σ.now s).isSome = true) : σ.left ≠ none ∧ σ' = σ.tick := by
  rcases h with ⟨hd, _, e⟩ | ⟨_, e, _⟩ | ⟨_, _, _, e, _⟩
  · exact ⟨dead_left hd, e⟩
  · rw [e] at hs; cases hs
  · exact absurd e hk
theorem bad_syncs {s : Text} (h : σ.syncs s k σ') (hk : k ≠ 0) (hs : (σ.now s).isSome = true) : σ.left ≠ none ∧ σ' = σ.tick := by
  rcases h with ⟨hd, _, e⟩ | ⟨_, e, _⟩ | ⟨_, _, _, e, _⟩
  · exact ⟨dead_left hd, e⟩
  · rw [e] at hs; cases hs
  · exact absurd e hk
theorem bad_removes {s : Text} (h : σ.removes s k σ') (hk : k ≠ 0) (hs : (σ.now s).isSome = true) : σ.left ≠ none ∧ σ' = σ.tick := by
  rcases h with ⟨hd, _, e⟩ | ⟨_, e, _⟩ | ⟨_, _, _, e, _⟩
  · exact ⟨dead_left hd, e⟩
  · rw [e] at hs; cases hs
  · exact absurd e hk
theorem bad_renames {s t : Text} (h : σ.renames s t k σ') (hk : k ≠ 0) (hs : (σ.now s).isSome = true) : σ.left ≠ none ∧ σ' = σ.tick := by
  rcases h with ⟨hd, _, e⟩ | ⟨_, e, _⟩ | ⟨_, _, _, e, _⟩
  · exact ⟨dead_left hd, e⟩
  · rw [e] at hs; cases hs
  · exact absurd e hk
theorem bad_syncsDir (h : σ.syncsDir k σ') (hk : k ≠ 0) : σ.left ≠ none ∧ σ' = σ.tick := by
  rcases h with ⟨hd, _, e⟩ | ⟨_, e, _⟩
  · exact ⟨dead_left hd, e⟩
  · exact absurd e hk
theorem ok_creates {s : Text} (h : σ.creates s 0 σ') : ∃ x, x ∉ σ.files ∧ σ' = (σ.tick.add x).did (.create s x) := by
  rcases h with ⟨_, e, _⟩ | ⟨_, _, e, _⟩ | ⟨_, _, x, hx, _, e⟩
  · omega
  · omega
  · exact ⟨x, hx, e⟩
theorem ok_appends {s t : Text} (h : σ.appends s t 0 σ') : ∃ x, σ.now s = some x ∧ σ' = σ.tick.wrote x (σ.cont x ++ t) (σ.sure x) := by
  rcases h with ⟨_, e, _⟩ | ⟨_, _, e, _⟩ | ⟨_, x, hx, _, e⟩
  · omega
  · omega
  · exact ⟨x, hx, e⟩
theorem ok_syncs {s : Text} (h : σ.syncs s 0 σ') : ∃ x, σ.now s = some x ∧ σ' = σ.tick.wrote x (σ.cont x) (σ.cont x).length := by
  rcases h with ⟨_, e, _⟩ | ⟨_, _, e, _⟩ | ⟨_, x, hx, _, e⟩
  · omega
  · omega
  · exact ⟨x, hx, e⟩
theorem ok_removes {s : Text} (h : σ.removes s 0 σ') : ∃ x, σ.now s = some x ∧ σ' = σ.tick.did (.remove s) := by
  rcases h with ⟨_, e, _⟩ | ⟨_, _, e, _⟩ | ⟨_, x, hx, _, e⟩
  · omega
  · omega
  · exact ⟨x, hx, e⟩
theorem ok_renames {s t : Text} (h : σ.renames s t 0 σ') : ∃ x, σ.now s = some x ∧ σ' = σ.tick.did (.rename s t x) := by
  rcases h with ⟨_, e, _⟩ | ⟨_, _, e, _⟩ | ⟨_, x, hx, _, e⟩
  · omega
  · omega
  · exact ⟨x, hx, e⟩

theorem Wgs.snoc (h : Wgs l lv) (hhi : lv + 2 < 1000000000000000000) {m : Ml} (hm : MlOk m) (hto : mlTo m ≠ []) : Wgs (l ++ [(lv + 1, m, once (mlTo m))]) (lv + 1) := by
  have hlo := h.lo
  refine ⟨by omega, by omega, fun w hw => ?_, ?_⟩
  · rcases List.mem_append.1 hw with hw | hw
    · obtain ⟨h1, h2, h3⟩ := h.mem w hw
      exact ⟨h1, by omega, h3⟩
    · simp at hw
      subst hw
      refine ⟨by show 0 < lv + 1; omega, Int.le_refl _, hm, fun e => ?_, List.Sublist.refl _⟩
      obtain ⟨p, hp⟩ := List.exists_mem_of_ne_nil _ hto
      have : p ∈ once (mlTo m) := (once_mem (mlTo m) [] p).2 (.inr hp)
      have e : once (mlTo m) = [] := e
      rw [e] at this
      cases this
  · unfold ids
    rw [List.map_append]
    refine List.pairwise_append.2 ⟨h.up, by simp, fun a ha b hb => ?_⟩
    obtain ⟨w, hw, rfl⟩ := List.mem_map.1 ha
    simp at hb
    subst hb
    have := (h.mem w hw).2.1
    omega

theorem Alive.mustNow (h : Alive σ l lv) (hf : Fits K C L σ) : ∀ w ∈ l, (σ.now (mName w.1)).isSome = true := fun w hw => by
  rcases (h.dir hf).must w hw with ⟨a, e, _⟩ | e
  · cases e
  · exact e
theorem Alive.mailNow (h : Alive σ l lv) (hf : Fits K C L σ) : ∀ s, MlN s → (σ.now s).isSome = true → ∃ w ∈ l, s = mName w.1 := fun s h1 h2 => by
  rcases (h.dir hf).mail s h1 h2 with e | ⟨⟨m, e⟩, _⟩
  · exact e
  · cases e

/-- a write at any place -/
theorem Inv.viewed (h : Inv σ l lv may) (hf : Fits K C L σ) {x : Wr} (hb : Boxq MlN (QQ l lv may) σ') (hn : DirOk l lv may σ'.now) (hr : x.rel σ k σ') : Inv σ' l lv may :=
  ⟨hb, fun i => by
    rcases x.view hf hr i with ⟨j, e⟩ | e
    · rw [e]; exact h.dir j
    · rw [e]; exact hn, h.wgs, h.ok⟩

theorem Alive.put (h : Alive σ l lv) (hf : Fits K C L σ) (hhi : lv + 2 < 1000000000000000000) {m : Ml} (hm : MlOk m) (hto : mlTo m ≠ []) (hnK : newT ∈ K) (hlK : lName (lv + 1) ∈ K) (hmK : mName (lv + 1) ∈ K)
    (hr : runs ((putWs (mlText m) (lName lv) (lName (lv + 1)) (mName (lv + 1))).map Wr.rel) σ k σ') :
    (k ≠ 0 ∧ σ.left ≠ none ∧ Inv σ' l lv (.put m)) ∨ (k = 0 ∧ Alive σ' (l ++ [(lv + 1, m, once (mlTo m))]) (lv + 1)) := by
  have hlo := h.inv.wgs.lo
  have nl0 : ¬ MlN (lName lv) := lName_not hlo (by omega)
  have nl1 : ¬ MlN (lName (lv + 1)) := lName_not (by omega) (by omega)
  have ls0 : (numberOf (lName lv) lastT).isSome = true := lsN_name hlo (by omega)
  have ls1 : (numberOf (lName (lv + 1)) lastT).isSome = true := lsN_name (by omega) (by omega)
  have mm1 : MlN (mName (lv + 1)) := mlN_name (by omega) (by omega)
  have nnew : ¬ MlN newT := fun e => newT_nm (.inr e)
  have hne : ∀ {s t : Text}, Nm s → ¬ Nm t → s ≠ t := fun a b e => b (e ▸ a)
  have hml : ∀ s, (numberOf s lastT).isSome = true → ¬ MlN s := fun s h1 h2 => by
    unfold MlN at h2
    rw [last_not_mail h1] at h2
    cases h2
  have hl10 : lName (lv + 1) ≠ lName lv := fun e => by have := lName_inj (by omega) (by omega) hlo (by omega) e; omega
  have I0 : Inv σ l lv (.put m) := h.inv.more ⟨hm, hto⟩
  have hlast := (h.dir hf).lastNow h.inv.wgs
  have hmust := h.mustNow hf
  have hmail := h.mailNow hf
  have hl0 : (σ.now (lName lv)).isSome = true := (hlast _ ls0).2 rfl
  have wM : ∀ w ∈ l, MlN (mName w.1) := fun w hw => h.inv.wgs.nameM hw
  have wne : ∀ w ∈ l, mName w.1 ≠ mName (lv + 1) := fun w hw e => by
    obtain ⟨h1, h2, _⟩ := h.inv.wgs.mem w hw
    have := mName_inj (by omega) (by omega) (by omega) (by omega) e
    omega
  refine runs_step hr (fun k1 hk h1 e => ?_) (fun σ1 h1 hr => ?_)
  · obtain ⟨e1, rfl⟩ := bad_creates h1 hk h.new
    exact .inl ⟨by omega, e1, I0.tick⟩
  have I1 := I0.offm hf (x := (0, newT, [])) ⟨fun s e => ⟨by rw [show s = newT from e]; exact hnK, by rw [show s = newT from e]; exact newT_nm⟩, fun s e => e.elim, fun e => by cases e⟩ h1
  have f1 := Wr.fits (0, newT, []) hf (fun s e => by rw [show s = newT from e]; exact hnK) h1
  have L1 := fun e => Wr.leftN (0, newT, []) (σ := σ) (σ' := σ1) (k := 0) e h1
  obtain ⟨x, hx, e1⟩ := ok_creates h1
  have n1 : σ1.now newT = some x := by rw [e1]; show putN σ.now newT x newT = _; exact if_pos rfl
  have o1 : ∀ s, s ≠ newT → σ1.now s = σ.now s := fun s hs => by rw [e1]; exact if_neg hs
  have c1 : σ1.cont x = [] := by rw [e1]; exact upd_same _ _ _
  clear h1 e1 hx
  refine runs_step hr (fun k1 hk h2 e => ?_) (fun σ2 h2 hr => ?_)
  · obtain ⟨e1, rfl⟩ := bad_appends h2 hk (by rw [n1]; rfl)
    exact .inl ⟨by omega, fun e => e1 (L1 e), I1.tick⟩
  have I2 := I1.offm f1 (x := (1, newT, mlText m)) ⟨fun s e => e.elim, fun s e => e.elim, fun _ => nnew⟩ h2
  have f2 := Wr.fits (1, newT, mlText m) f1 (fun s e => e.elim) h2
  have L2 := fun e => Wr.leftN (1, newT, mlText m) (σ := σ1) (σ' := σ2) (k := 0) e h2
  obtain ⟨y, hy, e2⟩ := ok_appends h2
  obtain rfl : y = x := Option.some.inj (hy.symm.trans n1)
  have o2 : σ2.now = σ1.now := by rw [e2]; rfl
  have c2 : σ2.cont y = mlText m := by
    rw [e2]
    refine (upd_same _ _ _).trans ?_
    rw [c1, List.nil_append]
  clear h2 e2 hy
  refine runs_step hr (fun k1 hk h3 e => ?_) (fun σ3 h3 hr => ?_)
  · obtain ⟨e1, rfl⟩ := bad_syncs h3 hk (by rw [o2, n1]; rfl)
    exact .inl ⟨by omega, fun e => e1 (L2 (L1 e)), I2.tick⟩
  have I3 := I2.offm f2 (x := (2, newT, [])) ⟨fun s e => e.elim, fun s e => e.elim, fun e => by cases e⟩ h3
  have f3 := Wr.fits (2, newT, []) f2 (fun s e => e.elim) h3
  have L3 := fun e => Wr.leftN (2, newT, []) (σ := σ2) (σ' := σ3) (k := 0) e h3
  obtain ⟨x, hy, e3⟩ := ok_syncs h3
  obtain rfl : x = y := Option.some.inj (hy.symm.trans (by rw [o2]; exact n1))
  have o3 : σ3.now = σ1.now := by rw [e3]; exact o2
  have c3 : σ3.cont x = mlText m := by
    rw [e3]
    exact (upd_same _ _ _).trans c2
  have s3 : σ3.sure x = (mlText m).length := by
    rw [e3]
    refine (upd_same _ _ _).trans ?_
    rw [c2]
  clear h3 e3 hy
  refine runs_step hr (fun k1 hk h4 e => ?_) (fun σ4 h4 hr => ?_)
  · obtain ⟨e1, rfl⟩ := bad_renames h4 hk (by rw [o3, o1 _ (hne (.inl ls0) newT_nm)]; exact hl0)
    exact .inl ⟨by omega, fun e => e1 (L3 (L2 (L1 e))), I3.tick⟩
  have f4 := Wr.fits (4, lName lv, lName (lv + 1)) f3 (fun s e => by rw [show s = lName (lv + 1) from e]; exact hlK) h4
  have L4 := fun e => Wr.leftN (4, lName lv, lName (lv + 1)) (σ := σ3) (σ' := σ4) (k := 0) e h4
  have b4 : Boxq MlN (QQ l lv (.put m)) σ4 := I3.box.renames f3 hlK nl0 (fun e => absurd e nl1) h4
  obtain ⟨z, hz, e4⟩ := ok_renames h4
  have o4 : ∀ s, s ≠ lName lv → s ≠ lName (lv + 1) → σ4.now s = σ1.now s := fun s h1 h2 => by
    rw [e4, ← o3]
    exact (if_neg h2).trans (if_neg h1)
  have n4 : σ4.now (lName (lv + 1)) = some z := by rw [e4]; exact if_pos rfl
  have m4 : σ4.now (lName lv) = none := by
    rw [e4]
    exact (if_neg (Ne.symm hl10)).trans (if_pos rfl)
  have c4 : σ4.cont = σ3.cont ∧ σ4.sure = σ3.sure := by rw [e4]; exact ⟨rfl, rfl⟩
  have q4 : ∀ s, MlN s → σ4.now s = σ.now s := fun s hs => by
    rw [o4 s (fun e => nl0 (e ▸ hs)) (fun e => nl1 (e ▸ hs)), o1 s (fun e => nnew (e ▸ hs))]
  have d4 : ∀ s, (numberOf s lastT).isSome = true → ((σ4.now s).isSome = true ↔ s = lName (lv + 1)) := fun s hs => by
    by_cases e : s = lName (lv + 1)
    · simp [e, n4]
    · by_cases e5 : s = lName lv
      · simp [e5, m4, Ne.symm hl10]
      · rw [o4 s e5 e, o1 s (hne (.inl hs) newT_nm), hlast s hs]
        simp [e, e5]
  have I4 : Inv σ4 l lv (.put m) := I3.viewed f3 b4 ⟨⟨lv + 1, .inr ⟨⟨m, rfl⟩, rfl⟩, d4⟩, fun s hs h1 => .inl (hmail s hs (by rw [← q4 s hs]; exact h1)), fun w hw => .inr (by rw [q4 _ (wM w hw)]; exact hmust w hw)⟩ h4
  have n5 : σ4.now newT = some x := by
    rw [o4 newT (fun e => newT_nm (e ▸ .inl ls0)) (fun e => newT_nm (e ▸ .inl ls1))]
    exact n1
  clear h4 e4
  refine runs_step hr (fun k1 hk h5 e => ?_) (fun σ5 h5 hr => ?_)
  · obtain ⟨e1, rfl⟩ := bad_renames h5 hk (by rw [n5]; rfl)
    exact .inl ⟨by omega, fun e => e1 (L4 (L3 (L2 (L1 e)))), I4.tick⟩
  have f5 := Wr.fits (4, newT, mName (lv + 1)) f4 (fun s e => by rw [show s = mName (lv + 1) from e]; exact hmK) h5
  have L5 := fun e => Wr.leftN (4, newT, mName (lv + 1)) (σ := σ4) (σ' := σ5) (k := 0) e h5
  have b5 : Boxq MlN (QQ l lv (.put m)) σ5 := I4.box.renames f4 hmK nnew (fun _ u hu => by
    obtain rfl : u = x := Option.some.inj (hu.symm.trans n5)
    rw [c4.1, c4.2, c3, s3]
    exact .inr (.inr ⟨m, rfl, rfl, rfl, rfl⟩)) h5
  obtain ⟨u, hu, e5⟩ := ok_renames h5
  have o5 : ∀ s, s ≠ newT → s ≠ mName (lv + 1) → σ5.now s = σ4.now s := fun s h1 h2 => by
    rw [e5]
    exact (if_neg h2).trans (if_neg h1)
  have n6 : (σ5.now (mName (lv + 1))).isSome = true := by rw [e5]; exact congrArg Option.isSome (if_pos rfl)
  have n7 : σ5.now newT = none := by
    rw [e5]
    show putN (delN σ4.now newT) (mName (lv + 1)) u newT = none
    unfold putN delN
    rw [if_neg (fun e : newT = mName (lv + 1) => nnew (e ▸ mm1)), if_pos rfl]
  have d5 : ∀ s, (numberOf s lastT).isSome = true → ((σ5.now s).isSome = true ↔ s = lName (lv + 1)) := fun s hs => by
    rw [o5 s (hne (.inl hs) newT_nm) (fun e => hml s hs (e ▸ mm1))]
    exact d4 s hs
  have q5 : ∀ s, MlN s → s ≠ mName (lv + 1) → σ5.now s = σ.now s := fun s hs h1 => by
    rw [o5 s (fun e => nnew (e ▸ hs)) h1, q4 s hs]
  have I5 : Inv σ5 l lv (.put m) := I4.viewed f4 b5 ⟨⟨lv + 1, .inr ⟨⟨m, rfl⟩, rfl⟩, d5⟩, fun s hs h1 => by
    by_cases e : s = mName (lv + 1)
    · exact .inr ⟨⟨m, rfl⟩, e, (d5 _ ls1).2 rfl⟩
    · exact .inl (hmail s hs (by rw [← q5 s hs e]; exact h1)), fun w hw => .inr (by rw [q5 _ (wM w hw) (wne w hw)]; exact hmust w hw)⟩ h5
  clear h5 e5
  refine runs_step hr (fun k1 hk h6 e => ?_) (fun σ6 h6 hr => ?_)
  · obtain ⟨e1, rfl⟩ := bad_syncsDir h6 hk
    exact .inl ⟨by omega, fun e => e1 (L5 (L4 (L3 (L2 (L1 e))))), I5.tick⟩
  obtain ⟨rfl, rfl⟩ := hr
  have f6 := Wr.fits (5, [], []) f5 (fun s e => e.elim) h6
  have I6 := I5.offm f5 (x := (5, [], [])) ⟨fun s e => e.elim, fun s e => e.elim, fun e => by cases e⟩ h6
  have o6 : σ'.now = σ5.now := (firm_of_syncsDir f5 h6 rfl newT).2
  have W6 := h.inv.wgs.snoc hhi hm hto
  refine .inr ⟨rfl, Alive.of f6 W6 (fun s _ => (firm_of_syncsDir f5 h6 rfl s).1) (by rw [o6]; exact n7) ⟨⟨lv + 1, .inl rfl, by rw [o6]; exact d5⟩, fun s hs h1 => .inl ?_, fun w hw => .inr ?_⟩ (fun s v hs hv => ?_)⟩
  · rw [o6] at h1
    by_cases e : s = mName (lv + 1)
    · exact ⟨_, List.mem_append_right _ (List.mem_singleton.2 rfl), e⟩
    · obtain ⟨w, hw, e2⟩ := hmail s hs (by rw [← q5 s hs e]; exact h1)
      exact ⟨w, List.mem_append_left _ hw, e2⟩
  · rw [o6]
    rcases List.mem_append.1 hw with hw | hw
    · rw [q5 _ (wM w hw) (wne w hw)]; exact hmust w hw
    · rw [List.mem_singleton.1 hw]; exact n6
  · rcases I6.box.now f6 hs hv with ⟨w, h1, h2, r, h3, h4, h5⟩ | ⟨w, _, a, e, _⟩ | ⟨m', e, h2, h3, h4⟩
    · exact .inl ⟨w, List.mem_append_left _ h1, h2, r, h3, h4, h5⟩
    · cases e
    · have e := May.put_inj e
      subst e
      exact .inl ⟨_, List.mem_append_right _ (List.mem_singleton.2 rfl), h2, [], by rw [List.append_nil]; exact h3, still_nil _, h4⟩

/-! Done -/

/-- somebody is done -/
def gone1 (id : Int) (a : Ltr) (w : Wg) : Wg := if w.1 = id then (w.1, w.2.1, w.2.2.filter (fun p => decide (p ≠ a))) else w
def gone (l : List Wg) (id : Int) (a : Ltr) : List Wg := (l.map (gone1 id a)).filter (fun w => !w.2.2.isEmpty)

theorem gone1_id (id : Int) (a : Ltr) (w : Wg) : (gone1 id a w).1 = w.1 ∧ (gone1 id a w).2.1 = w.2.1 := by
  unfold gone1
  split <;> exact ⟨rfl, rfl⟩
theorem gone1_sub (id : Int) (a : Ltr) (w : Wg) : (gone1 id a w).2.2.Sublist w.2.2 := by
  unfold gone1
  split
  · exact List.filter_sublist
  · exact List.Sublist.refl _
theorem gone1_other {id : Int} {a : Ltr} {w : Wg} (h : w.1 ≠ id) : gone1 id a w = w := if_neg h

theorem mem_gone {id : Int} {a : Ltr} {v : Wg} : v ∈ gone l id a ↔ v.2.2 ≠ [] ∧ ∃ w ∈ l, v = gone1 id a w := by
  unfold gone
  rw [List.mem_filter, List.mem_map]
  constructor
  · rintro ⟨⟨w, hw, rfl⟩, h2⟩
    refine ⟨fun e => ?_, w, hw, rfl⟩
    rw [e] at h2
    cases h2
  · rintro ⟨h1, w, hw, rfl⟩
    refine ⟨⟨w, hw, rfl⟩, ?_⟩
    cases e : (gone1 id a w).2.2 with
    | nil => exact absurd e h1
    | cons b t => rfl

theorem Wgs.gone (h : Wgs l lv) (id : Int) (a : Ltr) : Wgs (gone l id a) lv := by
  refine ⟨h.lo, h.hi, fun v hv => ?_, ?_⟩
  · obtain ⟨h1, w, hw, rfl⟩ := mem_gone.1 hv
    obtain ⟨q1, q2, q3, q4, q5⟩ := h.mem w hw
    obtain ⟨e1, e2⟩ := gone1_id id a w
    refine ⟨by rw [e1]; exact q1, by rw [e1]; exact q2, by rw [e2]; exact q3, h1, by rw [e2]; exact (gone1_sub id a w).trans q5⟩
  · have e : ids (l.map (gone1 id a)) = ids l := by
      unfold ids
      rw [List.map_map]
      exact List.map_congr_left (fun w _ => (gone1_id id a w).1)
    have hs : (ids (Go.Proofs.YtegbkpjcjlihmabGreatDoor.gone l id a)).Sublist (ids l) := by
      rw [← e]
      exact List.Sublist.map _ List.filter_sublist
    exact h.up.sublist hs

theorem left_more {t : List Ltr} {a : Ltr} (hnd : t.Nodup) (h0 : t ≠ []) (h1 : t ≠ [a]) : t.filter (fun p => decide (p ≠ a)) ≠ [] := fun e => by
  apply h1
  have hall : ∀ p ∈ t, p = a := fun p hp => by
    by_cases e2 : p = a
    · exact e2
    · have : p ∈ t.filter (fun p => decide (p ≠ a)) := List.mem_filter.2 ⟨hp, by simpa using e2⟩
      rw [e] at this
      cases this
  cases e3 : t with
  | nil => exact absurd e3 h0
  | cons p t' =>
    rw [e3] at hall hnd
    have e4 : p = a := hall p (by simp)
    cases t' with
    | nil => rw [e4]
    | cons q t'' =>
      have e5 : q = a := hall q (by simp)
      rw [e4, e5] at hnd
      simp at hnd

/-- Done, of one of several -/
theorem Alive.done (h : Alive σ l lv) (hf : Fits K C L σ) {w : Wg} (hw : w ∈ l) {a : Ltr} (ha : a ∈ w.2.2) (h1 : w.2.2 ≠ [a])
    (hr : runs (([(1, mName w.1, markT ((once (mlTo w.2.1)).idxOf a : Int)), (2, mName w.1, [])] : List Wr).map Wr.rel) σ k σ') :
    (k ≠ 0 ∧ σ.left ≠ none ∧ Inv σ' l lv (.done w.1 a)) ∨ (k = 0 ∧ Alive σ' (gone l w.1 a) lv) := by
  have wM := h.inv.wgs.nameM hw
  obtain ⟨w1, w2, w3, w4, w5⟩ := h.inv.wgs.mem w hw
  have hp := h.mustNow hf w hw
  have hmok : MayOk l (.done w.1 a) := ⟨w, hw, rfl, ha⟩
  have ha2 : a ∈ once (mlTo w.2.1) := w5.subset ha
  obtain ⟨x, hx⟩ := Option.isSome_iff_exists.1 hp
  have hq : ∃ r, σ.cont x = mlText w.2.1 ++ r ∧ stillOf (mlTo w.2.1) r = w.2.2 ∧ σ.sure x = (σ.cont x).length := by
    rcases h.inv.box.now hf wM hx with ⟨v, h1, h2, r, h3, h4, h5⟩ | ⟨v, _, a, e, _⟩ | ⟨m', e, _⟩
    · obtain rfl := h.inv.wgs.same hw h1 h2
      exact ⟨r, h3, h4, h5⟩
    · cases e
    · cases e
  obtain ⟨r, hc, hst, hsu⟩ := hq
  refine runs_step hr (fun k1 hk h1 e => ?_) (fun σ1 r1 hr => ?_)
  · obtain ⟨e1, rfl⟩ := bad_appends h1 hk hp
    exact .inl ⟨by omega, e1, (h.inv.more hmok).tick⟩
  have f1 := Wr.fits (1, mName w.1, markT ((once (mlTo w.2.1)).idxOf a : Int)) hf (fun s e => e.elim) r1
  have L1 := fun e => Wr.leftN (1, mName w.1, markT ((once (mlTo w.2.1)).idxOf a : Int)) (σ := σ) (σ' := σ1) (k := 0) e r1
  obtain ⟨y, hy, e1⟩ := ok_appends r1
  obtain rfl : y = x := Option.some.inj (hy.symm.trans hx)
  have o1 : σ1.now = σ.now := by rw [e1]; rfl
  have c1 : σ1.cont y = (mlText w.2.1 ++ r) ++ markT ((once (mlTo w.2.1)).idxOf a : Int) := by
    rw [e1]
    refine (upd_same _ _ _).trans ?_
    rw [hc]
  have oc1 : ∀ z, z ≠ y → σ1.cont z = σ.cont z ∧ σ1.sure z = σ.sure z := fun z hz => by rw [e1]; exact ⟨upd_other _ _ hz, upd_other _ _ hz⟩
  have I1 : Inv σ1 l lv (.done w.1 a) := by
    refine (h.inv.more hmok).viewed hf ?_ ?_ r1
    · rw [e1]
      refine (h.inv.more hmok).box.tick.wroteIn (s := mName w.1) hx _ _ (fun _ _ _ _ e => e) (fun _ => .inr (.inl ⟨w, hw, a, rfl, ha, h1, rfl, r, by rw [hc], hst, ?_⟩))
      rw [hsu, hc]
      exact Nat.le_refl _
    · rw [o1]
      exact (h.dir hf).more
  have F1 : ∀ s, Nm s → FirmN σ1 s := fun s hs => Wr.firm (1, mName w.1, markT ((once (mlTo w.2.1)).idxOf a : Int)) (h.firm s hs) hf (fun e => e) (fun e => e) r1
  clear r1 e1 hy
  refine runs_step hr (fun k1 hk h2 e => ?_) (fun σ2 h2 hr => ?_)
  · obtain ⟨e1, rfl⟩ := bad_syncs h2 hk (by rw [o1]; exact hp)
    exact .inl ⟨by omega, fun e => e1 (L1 e), I1.tick⟩
  obtain ⟨rfl, rfl⟩ := hr
  have f2 := Wr.fits (2, mName w.1, []) f1 (fun s e => e.elim) h2
  have F2 : ∀ s, Nm s → FirmN σ' s := fun s hs => Wr.firm (2, mName w.1, []) (F1 s hs) f1 (fun e => e) (fun e => e) h2
  obtain ⟨z, hz, e2⟩ := ok_syncs h2
  obtain rfl : z = y := Option.some.inj (hz.symm.trans (by rw [o1]; exact hx))
  have o2 : σ'.now = σ.now := by rw [e2]; exact o1
  have c2 : σ'.cont z = (mlText w.2.1 ++ r) ++ markT ((once (mlTo w.2.1)).idxOf a : Int) ∧ σ'.sure z = (σ'.cont z).length := by
    have q1 : σ'.cont z = σ1.cont z := by rw [e2]; exact upd_same _ _ _
    refine ⟨q1.trans c1, ?_⟩
    rw [q1, e2]
    exact upd_same _ _ _
  have oc2 : ∀ u, u ≠ z → σ'.cont u = σ.cont u ∧ σ'.sure u = σ.sure u := fun u hu => by
    rw [e2]
    exact ⟨(upd_other _ _ hu).trans (oc1 u hu).1, (upd_other _ _ hu).trans (oc1 u hu).2⟩
  have hflt : w.2.2.filter (fun p => decide (p ≠ a)) ≠ [] := left_more (w5.nodup (once_nd _)) w4 h1
  have hg1 : gone1 w.1 a w = (w.1, w.2.1, w.2.2.filter (fun p => decide (p ≠ a))) := if_pos rfl
  have hwg : gone1 w.1 a w ∈ gone l w.1 a := mem_gone.2 ⟨by rw [hg1]; exact hflt, w, hw, rfl⟩
  have hin : ∀ v ∈ l, gone1 w.1 a v ∈ gone l w.1 a := fun v hv => by
    by_cases e : v.1 = w.1
    · rw [ids_inj h.inv.wgs.up hv hw e]; exact hwg
    · exact mem_gone.2 ⟨by rw [gone1_other e]; exact (h.inv.wgs.mem v hv).2.2.2.1, v, hv, rfl⟩
  refine .inr ⟨rfl, Alive.of f2 (h.inv.wgs.gone _ _) F2 (by rw [o2]; exact h.new) ⟨⟨lv, .inl rfl, by rw [o2]; exact (h.dir hf).lastNow h.inv.wgs⟩, fun s hs q1 => .inl ?_, fun v hv => .inr ?_⟩ (fun s u hs hu => ?_)⟩
  · rw [o2] at q1
    obtain ⟨v, hv, e⟩ := h.mailNow hf s hs q1
    exact ⟨_, hin v hv, by rw [(gone1_id w.1 a v).1]; exact e⟩
  · obtain ⟨_, v', hv', rfl⟩ := mem_gone.1 hv
    rw [(gone1_id w.1 a v').1, o2]
    exact h.mustNow hf v' hv'
  · rw [o2] at hu
    by_cases e : u = z
    · subst e
      obtain rfl : s = mName w.1 := hf.nowInj _ _ _ hu hx
      refine .inl ⟨_, hwg, by rw [(gone1_id w.1 a w).1], r ++ markT ((once (mlTo w.2.1)).idxOf a : Int), ?_, ?_, c2.2⟩
      · rw [c2.1, (gone1_id w.1 a w).2, List.append_assoc]
      · rw [hg1]
        show stillOf (mlTo w.2.1) _ = _
        rw [still_mark _ _ ha2 w3.ln, hst]
    · rw [(oc2 u e).1, (oc2 u e).2]
      rcases h.inv.box.now hf hs hu with ⟨v, q1, q2, r', q3, q4, q5⟩ | ⟨v, _, a, e, _⟩ | ⟨m', e, _⟩
      · have hvne : v.1 ≠ w.1 := fun e3 => by
          rw [q2, e3] at hu
          exact e (Option.some.inj (hu.symm.trans hx))
        exact .inl ⟨v, by have := hin v q1; rwa [gone1_other hvne] at this, q2, r', q3, q4, q5⟩
      · cases e
      · cases e

/-- Done, of the last one -/
theorem Alive.drop (h : Alive σ l lv) (hf : Fits K C L σ) {w : Wg} (hw : w ∈ l) {a : Ltr} (h1 : w.2.2 = [a])
    (hr : runs (([(3, mName w.1, []), (5, [], [])] : List Wr).map Wr.rel) σ k σ') :
    (k ≠ 0 ∧ σ.left ≠ none ∧ Inv σ' l lv (.done w.1 a)) ∨ (k = 0 ∧ Alive σ' (gone l w.1 a) lv) := by
  have wM := h.inv.wgs.nameM hw
  have hp := h.mustNow hf w hw
  have hmok : MayOk l (.done w.1 a) := ⟨w, hw, rfl, by rw [h1]; simp⟩
  have I0 := h.inv.more hmok
  refine runs_step hr (fun k1 hk h2 e => ?_) (fun σ1 r1 hr => ?_)
  · obtain ⟨e1, rfl⟩ := bad_removes h2 hk hp
    exact .inl ⟨by omega, e1, I0.tick⟩
  have f1 := Wr.fits (3, mName w.1, []) hf (fun s e => e.elim) r1
  have L1 := fun e => Wr.leftN (3, mName w.1, []) (σ := σ) (σ' := σ1) (k := 0) e r1
  have b1 : Boxq MlN (QQ l lv (.done w.1 a)) σ1 := I0.box.removes hf r1
  obtain ⟨x, hx, e1⟩ := ok_removes r1
  have o1 : ∀ s, s ≠ mName w.1 → σ1.now s = σ.now s := fun s hs => by rw [e1]; exact if_neg hs
  have n1 : σ1.now (mName w.1) = none := by rw [e1]; exact if_pos rfl
  have c1 : σ1.cont = σ.cont ∧ σ1.sure = σ.sure := by rw [e1]; exact ⟨rfl, rfl⟩
  have d1 : ∀ s, (numberOf s lastT).isSome = true → ((σ1.now s).isSome = true ↔ s = lName lv) := fun s hs => by
    rw [o1 s (fun e => by rw [e] at hs; rw [mail_not_last wM] at hs; cases hs)]
    exact (h.dir hf).lastNow h.inv.wgs s hs
  have m1 : ∀ s, MlN s → (σ1.now s).isSome = true → s ≠ mName w.1 ∧ ∃ v ∈ l, s = mName v.1 := fun s hs h2 => by
    have hne : s ≠ mName w.1 := fun e => by rw [e, n1] at h2; cases h2
    rw [o1 s hne] at h2
    exact ⟨hne, h.mailNow hf s hs h2⟩
  have u1 : ∀ v ∈ l, v.1 ≠ w.1 → (σ1.now (mName v.1)).isSome = true := fun v hv e => by
    rw [o1 _ (fun e2 => e (h.inv.wgs.inj hv hw e2))]
    exact h.mustNow hf v hv
  have I1 : Inv σ1 l lv (.done w.1 a) := I0.viewed hf b1 ⟨⟨lv, .inl rfl, d1⟩, fun s hs h2 => .inl (m1 s hs h2).2, fun v hv => by
    by_cases e : v.1 = w.1
    · exact .inl ⟨a, by rw [e], by rw [ids_inj h.inv.wgs.up hv hw e]; exact h1⟩
    · exact .inr (u1 v hv e)⟩ r1
  refine runs_step hr (fun k1 hk h2 e => ?_) (fun σ2 h2 hr => ?_)
  · obtain ⟨e1, rfl⟩ := bad_syncsDir h2 hk
    exact .inl ⟨by omega, fun e => e1 (L1 e), I1.tick⟩
  obtain ⟨rfl, rfl⟩ := hr
  have f2 := Wr.fits (5, [], []) f1 (fun s e => e.elim) h2
  have I2 := I1.offm f1 (x := (5, [], [])) ⟨fun s e => e.elim, fun s e => e.elim, fun e => by cases e⟩ h2
  have o2 : σ'.now = σ1.now := (firm_of_syncsDir f1 h2 rfl newT).2
  have hg : ∀ v ∈ l, v.1 ≠ w.1 → v ∈ gone l w.1 a := fun v hv e => mem_gone.2 ⟨(h.inv.wgs.mem v hv).2.2.2.1, v, hv, (gone1_other e).symm⟩
  have hg2 : ∀ v ∈ gone l w.1 a, v ∈ l ∧ v.1 ≠ w.1 := fun v hv => by
    obtain ⟨q1, v', hv', rfl⟩ := mem_gone.1 hv
    by_cases e : v'.1 = w.1
    · exfalso
      apply q1
      obtain rfl := ids_inj h.inv.wgs.up hv' hw e
      unfold gone1
      rw [if_pos rfl, h1]
      simp
    · rw [gone1_other e]
      exact ⟨hv', e⟩
  refine .inr ⟨rfl, Alive.of f2 (h.inv.wgs.gone _ _) (fun s _ => (firm_of_syncsDir f1 h2 rfl s).1) ?_ ⟨⟨lv, .inl rfl, by rw [o2]; exact d1⟩, fun s hs q1 => .inl ?_, fun v hv => .inr ?_⟩ (fun s u hs hu => ?_)⟩
  · rw [o2, o1 newT (fun e => newT_nm (e ▸ .inr wM))]
    exact h.new
  · rw [o2] at q1
    obtain ⟨q2, v, hv, e⟩ := m1 s hs q1
    exact ⟨v, hg v hv (fun e2 => q2 (by rw [e, e2])), e⟩
  · obtain ⟨q1, q2⟩ := hg2 v hv
    rw [o2]
    exact u1 v q1 q2
  · have hne : s ≠ mName w.1 := fun e => by
      rw [o2, e, n1] at hu
      cases hu
    rcases I2.box.now f2 hs hu with ⟨v, q1, q2, q3⟩ | ⟨v, q1, a', e, _, q0, q2, _⟩ | ⟨m', e, _⟩
    · exact .inl ⟨v, hg v q1 (fun e => hne (by rw [q2, e])), q2, q3⟩
    · obtain ⟨e, e'⟩ := May.done_inj e
      exact absurd (by rw [q2, e]) hne
    · cases e

end

end Go.Proofs.YtegbkpjcjlihmabGreatDoor

namespace Go.Proofs.YtegbkpjcjlihmabGreatDoor
open Go.RowKit Go.Maps

def Firmed (σ : Dk) (s : Text) : Prop := ∀ x, σ.now s = some x → σ.sure x = (σ.cont x).length

/-- how Open's writes leave a disk -/
structure Opn (σ σ' : Dk) : Prop where
  now : ∀ s, s ≠ newT → σ'.now s = σ.now s
  sub : ∀ s x, σ'.now s = some x → σ.now s = some x
  cont : σ'.cont = σ.cont
  firm : ∀ s, Firmed σ s → Firmed σ' s
  leftN : σ.left = none → σ'.left = none
  dead : σ.dead = true → σ'.dead = true

section
variable {σ σ' τ : Dk} {l l' : List Wg} {lv lv' : Int} {may may' : May} {K : List Text} {C L : Nat} {k : Int} {ks : List Text}

theorem Opn.refl (σ : Dk) : Opn σ σ := ⟨fun _ _ => rfl, fun _ _ h => h, rfl, fun _ h => h, fun h => h, fun h => h⟩
theorem Opn.trans (h : Opn σ σ') (h' : Opn σ' τ) : Opn σ τ := ⟨fun s hs => (h'.now s hs).trans (h.now s hs), fun s x hx => h.sub s x (h'.sub s x hx), h'.cont.trans h.cont, fun s hs => h'.firm s (h.firm s hs), fun e => h'.leftN (h.leftN e), fun e => h'.dead (h.dead e)⟩

theorem tick_dead (h : σ.dead = true) : σ.tick.dead = true := by
  unfold Dk.dead at *
  unfold Dk.tick
  have e : σ.left = some 0 := by simpa using h
  rw [e]
  rfl

theorem opn_tick (σ : Dk) : Opn σ σ.tick := ⟨fun _ _ => rfl, fun _ _ h => h, rfl, fun _ h => h, fun h => by unfold Dk.tick; rw [h]; rfl, tick_dead⟩

theorem opn_sync {s : Text} (h : σ.syncs s k σ') : Opn σ σ' := by
  rcases h with ⟨_, _, rfl⟩ | ⟨_, _, _, rfl⟩ | ⟨hd, x, hx, _, rfl⟩
  · exact opn_tick σ
  · exact opn_tick σ
  · have hc : (σ.tick.wrote x (σ.cont x) (σ.cont x).length).cont = σ.cont := by
      funext y
      show upd σ.cont x (σ.cont x) y = _
      by_cases e : y = x
      · rw [e, upd_same]
      · rw [upd_other _ _ e]
    refine ⟨fun _ _ => rfl, fun _ _ h => h, hc, fun t ht y hy => ?_, fun h => by show σ.left.map _ = _; rw [h]; rfl, fun h => absurd h (by rw [hd]; simp)⟩
    rw [hc]
    show upd σ.sure x _ y = _
    by_cases e : y = x
    · rw [e, upd_same]
    · rw [upd_other _ _ e]
      exact ht y hy

theorem opn_remove (h : σ.removes newT k σ') : Opn σ σ' := by
  rcases h with ⟨_, _, rfl⟩ | ⟨_, _, _, rfl⟩ | ⟨hd, x, hx, _, rfl⟩
  · exact opn_tick σ
  · exact opn_tick σ
  · have hs : ∀ s x, delN σ.now newT s = some x → σ.now s = some x := fun s x h => by
      unfold delN at h
      split at h
      · cases h
      · exact h
    exact ⟨fun s hs => if_neg hs, hs, rfl, fun t ht y hy => ht y (hs t y hy), fun h => by show σ.left.map _ = _; rw [h]; rfl, fun h => absurd h (by rw [hd]; simp)⟩

theorem opn_syncDir (h : σ.syncsDir k σ') : Opn σ σ' := by
  rcases h with ⟨_, _, rfl⟩ | ⟨hd, _, rfl⟩
  · exact opn_tick σ
  · exact ⟨fun _ _ => rfl, fun _ _ h => h, rfl, fun _ h => h, fun h => by show σ.left.map _ = _; rw [h]; rfl, fun h => absurd h (by rw [hd]; simp)⟩

theorem find_runs : ∀ (ks : List Text) {σ : Dk} {Rs : List Rel}, ks.Nodup → (∀ s ∈ ks, (σ.now s).isSome = true) → runs ((findW ks).map Wr.rel ++ Rs) σ k σ' →
    (∃ σ1, Opn σ σ1 ∧ (∀ s ∈ ks, ∀ n, isMail s n → Firmed σ1 s) ∧ (newT ∈ ks → σ1.now newT = none) ∧ runs Rs σ1 k σ') ∨ (k ≠ 0 ∧ σ.left ≠ none ∧ Opn σ σ')
  | [], σ, Rs, _, _, h => .inl ⟨σ, Opn.refl σ, fun s hs => (by cases hs), fun hs => (by cases hs), h⟩
  | t :: ks, σ, Rs, hnd, hin, h => by
    obtain ⟨ht, hnd2⟩ := List.nodup_cons.1 hnd
    have e : findW (t :: ks) = (findW1 t).toList ++ findW ks := by
      unfold findW
      rw [List.filterMap_cons]
      cases findW1 t <;> rfl
    rw [e, List.map_append, List.append_assoc] at h
    by_cases hnew : t = newT
    · subst hnew
      rw [show findW1 newT = some (3, newT, []) from if_pos rfl] at h
      refine runs_step h (fun k1 hk h1 e => ?_) (fun σ1 h1 hr => ?_)
      · obtain ⟨e1, e2⟩ := bad_removes h1 hk (hin newT (by simp))
        exact .inr ⟨by omega, e1, by rw [e2]; exact opn_tick σ⟩
      · have O1 := opn_remove h1
        have n1 : σ1.now newT = none := by
          obtain ⟨x, _, e⟩ := ok_removes h1
          rw [e]; show delN σ.now newT newT = none; exact if_pos rfl
        have hin1 : ∀ s ∈ ks, (σ1.now s).isSome = true := fun s hs => by
          rw [O1.now s (fun e => ht (e ▸ hs))]
          exact hin s (by simp [hs])
        rcases find_runs ks hnd2 hin1 hr with ⟨σ2, O2, h2, h3, h4⟩ | ⟨h2, h3, h4⟩
        · refine .inl ⟨σ2, O1.trans O2, fun s hs n hm => ?_, fun _ => ?_, h4⟩
          · rcases List.mem_cons.1 hs with rfl | hs
            · exact absurd rfl hm.1
            · exact h2 s hs n hm
          · cases e : σ2.now newT with
            | none => rfl
            | some x =>
              have := O2.sub newT x e
              rw [n1] at this
              cases this
        · exact .inr ⟨h2, fun e => h3 (O1.leftN e), O1.trans h4⟩
    · by_cases hm : (numberOf t lastT).isSome = true ∨ (numberOf t mailT).isSome = false
      · have e1 : findW1 t = none := by
          unfold findW1
          rw [if_neg hnew]
          split
          · rfl
          · rename_i h0
            rcases hm with hm | hm
            · exact absurd hm h0
            · rw [if_neg (by rw [hm]; simp)]
        rw [e1] at h
        rcases find_runs ks hnd2 (fun s hs => hin s (by simp [hs])) h with ⟨σ2, O2, h2, h3, h4⟩ | h2
        · refine .inl ⟨σ2, O2, fun s hs n hm2 => ?_, fun hs => ?_, h4⟩
          · rcases List.mem_cons.1 hs with rfl | hs
            · exfalso
              rcases hm with hm | hm
              · rw [hm2.2.1] at hm; cases hm
              · rw [hm2.2.2] at hm; cases hm
            · exact h2 s hs n hm2
          · rcases List.mem_cons.1 hs with e | hs
            · exact absurd e.symm hnew
            · exact h3 hs
        · exact .inr h2
      · have hm1 : ¬ (numberOf t lastT).isSome = true := fun e => hm (.inl e)
        have hm2 : (numberOf t mailT).isSome = true := by
          cases e : (numberOf t mailT).isSome with
          | true => rfl
          | false => exact absurd (.inr e) hm
        have e1 : findW1 t = some (2, t, []) := by
          unfold findW1
          rw [if_neg hnew, if_neg hm1, if_pos hm2]
        rw [e1] at h
        refine runs_step h (fun k1 hk h1 e => ?_) (fun σ1 h1 hr => ?_)
        · obtain ⟨e1, e2⟩ := bad_syncs h1 hk (hin t (by simp))
          exact .inr ⟨by omega, e1, by rw [e2]; exact opn_tick σ⟩
        · have O1 := opn_sync h1
          have n1 : Firmed σ1 t := by
            obtain ⟨x, hx, e⟩ := ok_syncs h1
            intro y hy
            have hy : σ.now t = some y := by rw [e] at hy; exact hy
            obtain rfl : y = x := Option.some.inj (hy.symm.trans hx)
            rw [O1.cont, e]
            exact upd_same _ _ _
          have hin1 : ∀ s ∈ ks, (σ1.now s).isSome = true := fun s hs => by
            obtain ⟨x, hx, e⟩ := ok_syncs h1
            rw [e]
            exact hin s (by simp [hs])
          rcases find_runs ks hnd2 hin1 hr with ⟨σ2, O2, h2, h3, h4⟩ | ⟨h2, h3, h4⟩
          · refine .inl ⟨σ2, O1.trans O2, fun s hs n hm => ?_, fun hs => ?_, h4⟩
            · rcases List.mem_cons.1 hs with rfl | hs
              · exact O2.firm _ n1
              · exact h2 s hs n hm
            · rcases List.mem_cons.1 hs with e | hs
              · exact absurd e.symm hnew
              · exact h3 hs
          · exact .inr ⟨h2, fun e => h3 (O1.leftN e), O1.trans h4⟩

theorem findLast_of {n : Int} (h0 : 0 ≤ n) (h1 : n < 1000000000000000000) : ∀ (ks : List Text) (acc : Option Int), (∀ s ∈ ks, (numberOf s lastT).isSome = true → s = lName n) → ks.foldl last1 acc = if lName n ∈ ks then some n else acc
  | [], acc, _ => by simp
  | t :: ks, acc, h => by
    have hne : lName n ≠ newT := fun e => newT_nm (e ▸ .inl (lsN_name h0 h1))
    rw [List.foldl_cons, findLast_of h0 h1 ks _ (fun s hs => h s (by simp [hs]))]
    by_cases ht : t = lName n
    · subst ht
      have e : last1 acc (lName n) = some n := by
        unfold last1
        rw [if_neg hne]
        have := numberOf_name lastT h0 h1
        unfold lName
        rw [this]
      rw [e]
      simp
    · have e : last1 acc t = acc := by
        unfold last1
        split
        · rfl
        · cases e : numberOf t lastT with
          | none => rfl
          | some m => exact absurd (h t (by simp) (by rw [e]; rfl)) ht
      rw [e]
      by_cases hk : lName n ∈ ks
      · rw [if_pos hk, if_pos (by simp [hk])]
      · rw [if_neg hk, if_neg (by simp [hk, Ne.symm ht])]

/-- what Open may find -/
def Seen (l : List Wg) (lv : Int) : May → List Wg → Int → Prop
  | none, l', lv' => l' = l ∧ lv' = lv
  | some (Sum.inl m), l', lv' => (l' = l ++ [(lv + 1, m, once (mlTo m))] ∧ lv' = lv + 1) ∨ (l' = l ∧ (lv' = lv ∨ lv' = lv + 1))
  | some (Sum.inr (id, a)), l', lv' => (l' = l ∨ l' = gone l id a) ∧ lv' = lv

theorem off_openW (hx : (findLast ks).isSome = true) : ∀ x ∈ openW ks, Offm K x := by
  intro x hx'
  unfold openW at hx'
  rw [if_pos hx, List.append_nil, List.mem_append] at hx'
  rcases hx' with hx' | hx'
  · unfold findW at hx'
    obtain ⟨t, _, ht⟩ := List.mem_filterMap.1 hx'
    unfold findW1 at ht
    split at ht
    · rename_i ht0
      rw [← Option.some.inj ht]
      exact ⟨fun s e => e.elim, fun s e => by rw [show s = t from e, ht0]; exact newT_nm, fun e => by cases e⟩
    · split at ht
      · cases ht
      · split at ht
        · rw [← Option.some.inj ht]
          exact ⟨fun s e => e.elim, fun s e => e.elim, fun e => by cases e⟩
        · cases ht
  · simp at hx'
    subst hx'
    exact ⟨fun s e => e.elim, fun s e => e.elim, fun e => by cases e⟩

theorem QQ.toNo {s c : Text} {n : Nat} (h : QQ l lv may s c n) (hd : ∀ w ∈ l, ∀ a, may = .done w.1 a → s ≠ mName w.1) (hp : ∀ m, may = .put m → s ≠ mName (lv + 1)) : ∃ w ∈ l, s = mName w.1 ∧ ∃ r, c = mlText w.2.1 ++ r ∧ stillOf (mlTo w.2.1) r = w.2.2 ∧ n = c.length := by
  rcases h with h | ⟨w, hw, a, e, _, _, h2, _⟩ | ⟨m, e, h2, _⟩
  · exact h
  · exact absurd h2 (hd w hw a e)
  · exact absurd h2 (hp m e)

/-- the mails that are seen -/
theorem seen_some (h : Inv σ l lv may) (hf : Fits K C L σ) (hhi : lv + 2 < 1000000000000000000) (hfm : ∀ s, MlN s → Firmed σ s) (hfn : ∀ s, Nm s → FirmN σ s) (hnew : σ.now newT = none) :
    ∃ l' lv', Seen l lv may l' lv' ∧ Alive σ l' lv' := by
  have hd := h.dirNow hf
  have hlo := h.wgs.lo
  obtain ⟨n, hn, hlast⟩ := hd.last
  rcases may with _ | m | ⟨id, a⟩
  · skip
    have hn : n = lv := hn.resolve_right (fun e => by obtain ⟨⟨m, e⟩, _⟩ := e; cases e)
    subst hn
    exact ⟨l, n, ⟨rfl, rfl⟩, Alive.of hf h.wgs hfn hnew hd (fun s x hs hx => h.box.now hf hs hx)⟩
  · skip
    obtain ⟨hm, hto⟩ := h.ok
    have mm1 : MlN (mName (lv + 1)) := mlN_name (by omega) (by omega)
    by_cases hin : (σ.now (mName (lv + 1))).isSome = true
    · have hl1 : (σ.now (lName (lv + 1))).isSome = true := by
        rcases hd.mail _ mm1 hin with ⟨w, hw, e⟩ | ⟨_, _, e⟩
        · obtain ⟨h1, h2, _⟩ := h.wgs.mem w hw
          have := mName_inj (by omega) (by omega) (by omega) (by omega) e
          omega
        · exact e
      have hn1 : n = lv + 1 := by
        have e := (hlast _ (lsN_name (by omega) (by omega))).1 hl1
        rcases hn with hn | ⟨_, hn⟩
        · rw [hn] at e
          have := lName_inj (by omega) (by omega) (by omega) (by omega) e
          omega
        · exact hn
      subst hn1
      refine ⟨_, _, .inl ⟨rfl, rfl⟩, Alive.of hf (h.wgs.snoc hhi hm hto) hfn hnew ⟨⟨lv + 1, .inl rfl, hlast⟩, fun s hs h1 => .inl ?_, fun w hw => .inr ?_⟩ (fun s v hs hv => ?_)⟩
      · rcases hd.mail s hs h1 with ⟨w, hw, e⟩ | ⟨_, e, _⟩
        · exact ⟨w, List.mem_append_left _ hw, e⟩
        · exact ⟨_, List.mem_append_right _ (List.mem_singleton.2 rfl), e⟩
      · rcases List.mem_append.1 hw with hw | hw
        · rcases hd.must w hw with ⟨a, e, _⟩ | e
          · cases e
          · exact e
        · rw [List.mem_singleton.1 hw]; exact hin
      · rcases h.box.now hf hs hv with ⟨w, h1, h2, r, h3, h4, h5⟩ | ⟨w, _, a, e, _⟩ | ⟨m', e, h2, h3, h4⟩
        · exact .inl ⟨w, List.mem_append_left _ h1, h2, r, h3, h4, h5⟩
        · cases e
        · have e := May.put_inj e
          subst e
          exact .inl ⟨_, List.mem_append_right _ (List.mem_singleton.2 rfl), h2, [], by rw [List.append_nil]; exact h3, still_nil _, h4⟩
    · have hn2 : n = lv ∨ n = lv + 1 := hn.imp id (fun e => e.2)
      refine ⟨l, n, .inr ⟨rfl, hn2⟩, Alive.of hf ⟨by omega, by omega, fun w hw => ?_, h.wgs.up⟩ hfn hnew ⟨⟨n, .inl rfl, hlast⟩, fun s hs h1 => .inl ?_, fun w hw => .inr ?_⟩ (fun s v hs hv => ?_)⟩
      · obtain ⟨h1, h2, h3⟩ := h.wgs.mem w hw
        exact ⟨h1, by omega, h3⟩
      · rcases hd.mail s hs h1 with e | ⟨_, e, _⟩
        · exact e
        · rw [e] at h1; exact absurd h1 hin
      · rcases hd.must w hw with ⟨a, e, _⟩ | e
        · cases e
        · exact e
      · obtain ⟨w, h1, h2, r, h3, h4, h5⟩ := (h.box.now hf hs hv).toNo (fun w _ a e => by cases e) (fun m' _ e => hin (by rw [← e, hv]; rfl))
        exact .inl ⟨w, h1, h2, r, h3, h4, h5⟩
  · skip
    obtain ⟨w, hw, hid, ha⟩ := h.ok
    subst hid
    have hn : n = lv := hn.resolve_right (fun e => by obtain ⟨⟨m, e⟩, _⟩ := e; cases e)
    subst hn
    have wM := h.wgs.nameM hw
    obtain ⟨w1, w2, w3, w4, w5⟩ := h.wgs.mem w hw
    have hmail : ∀ s, MlN s → (σ.now s).isSome = true → ∃ v ∈ l, s = mName v.1 := fun s hs h1 => by
      rcases hd.mail s hs h1 with e | ⟨⟨m, e⟩, _⟩
      · exact e
      · cases e
    have hmust : ∀ v ∈ l, v.1 ≠ w.1 → (σ.now (mName v.1)).isSome = true := fun v hv e => by
      rcases hd.must v hv with ⟨b, e2, _⟩ | e2
      · exact absurd (May.done_inj e2).1.symm e
      · exact e2
    have hoth : ∀ s x, MlN s → σ.now s = some x → s ≠ mName w.1 → ∃ v ∈ l, v.1 ≠ w.1 ∧ s = mName v.1 ∧ ∃ r, σ.cont x = mlText v.2.1 ++ r ∧ stillOf (mlTo v.2.1) r = v.2.2 ∧ σ.sure x = (σ.cont x).length := fun s x hs hx hne => by
      obtain ⟨v, h1, h2, h3⟩ := (h.box.now hf hs hx).toNo (fun v hv b e2 => by have e2 := (May.done_inj e2).1; rw [← e2]; exact hne) (fun m e => by cases e)
      exact ⟨v, h1, fun e => hne (by rw [h2, e]), h2, h3⟩
    have hg : ∀ v ∈ l, v.1 ≠ w.1 → v ∈ gone l w.1 a := fun v hv e => mem_gone.2 ⟨(h.wgs.mem v hv).2.2.2.1, v, hv, (gone1_other e).symm⟩
    have hg1 : gone1 w.1 a w = (w.1, w.2.1, w.2.2.filter (fun p => decide (p ≠ a))) := if_pos rfl
    cases hx : σ.now (mName w.1) with
    | none =>
      have hla : w.2.2 = [a] := by
        rcases hd.must w hw with ⟨b, e, h2⟩ | e
        · have e := (May.done_inj e).2
          rw [h2, e]
        · rw [hx] at e; cases e
      have hg2 : ∀ v ∈ gone l w.1 a, v ∈ l ∧ v.1 ≠ w.1 := fun v hv => by
        obtain ⟨q1, v', hv', rfl⟩ := mem_gone.1 hv
        by_cases e : v'.1 = w.1
        · exfalso
          apply q1
          obtain rfl := ids_inj h.wgs.up hv' hw e
          unfold gone1
          rw [if_pos rfl, hla]
          simp
        · rw [gone1_other e]
          exact ⟨hv', e⟩
      refine ⟨gone l w.1 a, n, ⟨.inr rfl, rfl⟩, Alive.of hf (h.wgs.gone _ _) hfn hnew ⟨⟨n, .inl rfl, hlast⟩, fun s hs h1 => .inl ?_, fun v hv => .inr ?_⟩ (fun s x hs hv => ?_)⟩
      · obtain ⟨v, hv, e⟩ := hmail s hs h1
        exact ⟨v, hg v hv (fun e2 => by rw [e, e2, hx] at h1; cases h1), e⟩
      · obtain ⟨q1, q2⟩ := hg2 v hv
        exact hmust v q1 q2
      · obtain ⟨v, h1, h2, h3⟩ := hoth s x hs hv (fun e => by rw [e, hx] at hv; cases hv)
        exact .inl ⟨v, hg v h1 h2, h3⟩
    | some x =>
      have hfx := hfm _ wM x hx
      by_cases hA : ∃ r, σ.cont x = mlText w.2.1 ++ r ∧ stillOf (mlTo w.2.1) r = w.2.2
      · obtain ⟨r, hA1, hA2⟩ := hA
        refine ⟨l, n, ⟨.inl rfl, rfl⟩, Alive.of hf h.wgs hfn hnew ⟨⟨n, .inl rfl, hlast⟩, fun s hs h1 => .inl (hmail s hs h1), fun v hv => .inr ?_⟩ (fun s y hs hv => ?_)⟩
        · by_cases e : v.1 = w.1
          · rw [e, hx]; rfl
          · exact hmust v hv e
        · by_cases e : s = mName w.1
          · subst e
            obtain rfl : y = x := Option.some.inj (hv.symm.trans hx)
            exact .inl ⟨w, hw, rfl, r, hA1, hA2, hfx⟩
          · obtain ⟨v, h1, h2, h3⟩ := hoth s y hs hv e
            exact .inl ⟨v, h1, h3⟩
      · obtain ⟨r, hB1, hB2, hB3⟩ : ∃ r, σ.cont x = (mlText w.2.1 ++ r) ++ markT ((once (mlTo w.2.1)).idxOf a : Int) ∧ stillOf (mlTo w.2.1) r = w.2.2 ∧ w.2.2 ≠ [a] := by
          rcases h.box.now hf wM hx with ⟨v, h1, h2, r, h3, h4, _⟩ | ⟨v, h1, b, e, _, h3, h4, r, h5, h6, _⟩ | ⟨m', e, _⟩
          · obtain rfl := h.wgs.same hw h1 h2
            exact absurd ⟨r, h3, h4⟩ hA
          · obtain rfl := h.wgs.same hw h1 h4
            have e := (May.done_inj e).2
            subst e
            exact ⟨r, h5, h6, h3⟩
          · cases e
        have ha2 : a ∈ once (mlTo w.2.1) := w5.subset ha
        have hflt : w.2.2.filter (fun p => decide (p ≠ a)) ≠ [] := left_more (w5.nodup (once_nd _)) w4 hB3
        have hwg : gone1 w.1 a w ∈ gone l w.1 a := mem_gone.2 ⟨by rw [hg1]; exact hflt, w, hw, rfl⟩
        refine ⟨gone l w.1 a, n, ⟨.inr rfl, rfl⟩, Alive.of hf (h.wgs.gone _ _) hfn hnew ⟨⟨n, .inl rfl, hlast⟩, fun s hs h1 => .inl ?_, fun v hv => .inr ?_⟩ (fun s y hs hv => ?_)⟩
        · obtain ⟨v, hv, e⟩ := hmail s hs h1
          by_cases e2 : v.1 = w.1
          · exact ⟨_, hwg, by rw [(gone1_id w.1 a w).1, e, e2]⟩
          · exact ⟨v, hg v hv e2, e⟩
        · obtain ⟨_, v', hv', rfl⟩ := mem_gone.1 hv
          rw [(gone1_id w.1 a v').1]
          by_cases e : v'.1 = w.1
          · rw [e, hx]; rfl
          · exact hmust v' hv' e
        · by_cases e : s = mName w.1
          · subst e
            obtain rfl : y = x := Option.some.inj (hv.symm.trans hx)
            refine .inl ⟨_, hwg, by rw [(gone1_id w.1 a w).1], r ++ markT ((once (mlTo w.2.1)).idxOf a : Int), ?_, ?_, hfx⟩
            · rw [hB1, (gone1_id w.1 a w).2, List.append_assoc]
            · rw [hg1]
              show stillOf (mlTo w.2.1) _ = _
              rw [still_mark _ _ ha2 w3.ln, hB2]
          · obtain ⟨v, h1, h2, h3⟩ := hoth s y hs hv e
            exact .inl ⟨v, hg v h1 h2, h3⟩

theorem firm_synced {σ1 : Dk} (hf : Fits K C L σ') (h : σ1.syncsDir 0 σ') (s : Text) : FirmN σ' s := by
  rcases h with ⟨_, e, _⟩ | ⟨_, _, rfl⟩
  · omega
  · intro i
    have := congrFun hf.setNow s
    rw [synced_settled] at this ⊢
    exact this

theorem open_plain (h : Inv σ l lv may) (hf : Fits K C L σ) (hhi : lv + 2 < 1000000000000000000) (hs : Sorted σ.now ks) (hr : runs ((openW ks).map Wr.rel) σ k σ') :
    Inv σ' l lv may ∧ (k ≠ 0 → σ.left ≠ none) ∧ (σ.dead = true → k ≠ 0) ∧ (k = 0 → ∃ l' lv', Seen l lv may l' lv' ∧ Alive σ' l' lv' ∧ findLast ks = some lv' ∧ (∀ n M, Found σ ks n M → ∃ w ∈ l', w.1 = n ∧ M = leftM (mlTo w.2.1) w.2.2) ∧ (∀ n, (∃ s ∈ ks, isMail s n) ↔ n ∈ ids l')) := by
  have hlo := h.wgs.lo
  obtain ⟨n, hn, hlast⟩ := (h.dirNow hf).last
  have hn1 : 0 ≤ n ∧ n < 1000000000000000000 := by rcases hn with hn | ⟨_, hn⟩ <;> omega
  have hfl : findLast ks = some n := by
    unfold findLast
    rw [findLast_of hn1.1 hn1.2 ks none (fun s h1 h2 => (hlast s h2).1 ((hs.mem s).1 h1)), if_pos ((hs.mem _).2 ((hlast _ (lsN_name hn1.1 hn1.2)).2 rfl))]
  have ho := off_openW (K := K) (ks := ks) (by rw [hfl]; rfl)
  have I' : Inv σ' l lv may := h.offs hf ho hr
  have hr2 : runs ((findW ks).map Wr.rel ++ [Wr.rel (5, [], [])]) σ k σ' := by
    unfold openW at hr
    rw [if_pos (by rw [hfl]; rfl), List.append_nil, List.map_append] at hr
    exact hr
  refine ⟨I', ?_⟩
  have f' := runsW_fits (openW ks) hf (fun x hx s hs => ((ho x hx).mks s hs).1) hr
  rcases find_runs ks hs.nodup (fun s h1 => (hs.mem s).1 h1) hr2 with ⟨σ1, O1, h1, h2, h3⟩ | ⟨h1, h2, h3⟩
  · refine runs_step h3 (fun k1 hk h6 e => ?_) (fun σ2 h6 hr3 => ?_)
    · obtain ⟨e1, _⟩ := bad_syncsDir h6 hk
      exact ⟨fun _ e => e1 (O1.leftN e), fun _ => by omega, fun e2 => by omega⟩
    · obtain ⟨rfl, rfl⟩ := hr3
      have O2 := opn_syncDir h6
      have O := O1.trans O2
      have hdead : ¬ σ.dead = true := fun e => by
        have := O1.dead e
        rcases h6 with ⟨_, e6, _⟩ | ⟨e6, _⟩
        · omega
        · rw [this] at e6; cases e6
      refine ⟨fun e => absurd rfl e, fun e => absurd e hdead, fun _ => ?_⟩
      have hnew : σ'.now newT = none := by
        cases e : σ'.now newT with
        | none => rfl
        | some x =>
          have e1 := O2.sub _ _ e
          have e2 := O1.sub _ _ e1
          have := h2 ((hs.mem _).2 (by rw [e2]; rfl))
          rw [this] at e1
          cases e1
      have hfm : ∀ s, MlN s → Firmed σ' s := fun s hm x hx => by
        have e2 := O.sub _ _ hx
        obtain ⟨m, hm2⟩ := Option.isSome_iff_exists.1 hm
        exact O2.firm s (h1 s ((hs.mem _).2 (by rw [e2]; rfl)) m ⟨fun e => newT_nm (e ▸ .inr hm), mail_not_last hm, hm2⟩) x hx
      obtain ⟨l', lv', hseen, hal⟩ := seen_some I' f' hhi hfm (fun s _ => firm_synced f' h6 s) hnew
      have hw' := hal.inv.wgs
      have hlo' := hw'.lo
      have hhi' := hw'.hi
      have hn2 : n = lv' := by
        have e1 := ((hal.dir f').lastNow hw' _ (lsN_name hlo' (by omega))).2 rfl
        obtain ⟨x, hx⟩ := Option.isSome_iff_exists.1 e1
        have e2 := (hlast _ (lsN_name hlo' (by omega))).1 (by rw [O.sub _ _ hx]; rfl)
        exact (lName_inj hlo' (by omega) hn1.1 hn1.2 e2).symm
      have hfnd : ∀ s ∈ ks, ∀ m, isMail s m → ∃ w ∈ l', w.1 = m ∧ ∃ r, (σ.read s).getD [] = mlText w.2.1 ++ r ∧ stillOf (mlTo w.2.1) r = w.2.2 := fun s hk m hm => by
        obtain ⟨x, hx⟩ := Option.isSome_iff_exists.1 ((hs.mem s).1 hk)
        have hx' : σ'.now s = some x := by rw [O.now s hm.1]; exact hx
        have hmn : MlN s := by unfold MlN; rw [hm.2.2]; rfl
        obtain ⟨w, hw, e, r, h3, h4, _⟩ := (hal.inv.box.now f' hmn hx').toNo (fun w _ a e => by cases e) (fun m e => by cases e)
        refine ⟨w, hw, ?_, r, ?_, h4⟩
        · obtain ⟨q1, q2, _⟩ := hw'.mem w hw
          have e3 := numberOf_name mailT (n := w.1) (by omega) (by omega)
          have e4 := hm.2.2
          rw [e] at e4
          unfold mName at e4
          rw [e3] at e4
          exact Option.some.inj e4
        · unfold Dk.read
          rw [hx]
          show σ.cont x = _
          rw [← O.cont]
          exact h3
      refine ⟨l', lv', hseen, hal, by rw [hfl, hn2], fun m M hF => ?_, fun m => ⟨fun hm => ?_, fun hm => ?_⟩⟩
      · obtain ⟨s, hk, hm, hM⟩ := hF
        obtain ⟨w, hw, e, r, h3, h4⟩ := hfnd s hk m hm
        rw [h3] at hM
        refine ⟨w, hw, e, ?_⟩
        rw [(hw'.mem w hw).2.2.1.back hM, h4]
      · obtain ⟨s, hk, hm⟩ := hm
        obtain ⟨w, hw, e, _⟩ := hfnd s hk m hm
        exact List.mem_map.2 ⟨w, hw, e⟩
      · obtain ⟨w, hw, rfl⟩ := List.mem_map.1 hm
        have hmn := hw'.nameM hw
        obtain ⟨q1, q2, _⟩ := hw'.mem w hw
        obtain ⟨x, hx⟩ := Option.isSome_iff_exists.1 (hal.mustNow f' w hw)
        exact ⟨mName w.1, (hs.mem _).2 (by rw [O.sub _ _ hx]; rfl), fun e => newT_nm (e ▸ .inr hmn), mail_not_last hmn, numberOf_name mailT (by omega) (by omega)⟩
  · exact ⟨fun _ => h2, fun _ => h1, fun e => absurd e h1⟩

end

end Go.Proofs.YtegbkpjcjlihmabGreatDoor

namespace Go.Proofs.YtegbkpjcjlihmabGreatDoor
open Go.RowKit Go.Maps

section
variable {to left : List Ltr}

theorem leftM_some {p : Ltr} {x : Int} (h : leftM to left p = some x) : p ∈ left ∧ x = ((once to).idxOf p : Int) := by
  unfold leftM at h
  split at h
  · rename_i hp
    exact ⟨hp, (Option.some.inj h).symm⟩
  · cases h

theorem leftM_ok (hs : left.Sublist (once to)) (hl : to.length < 1099511627776) : okM (leftM to left) where
  rng := fun p x hx => by
    obtain ⟨hp, rfl⟩ := leftM_some hx
    have h1 := List.idxOf_lt_length_iff.2 (hs.subset hp)
    have h2 := once_len to
    omega
  inj := fun p q x hp hq => by
    obtain ⟨h1, e1⟩ := leftM_some hp
    obtain ⟨h2, e2⟩ := leftM_some hq
    exact idx_inj (hs.subset h1) (hs.subset h2) (by omega)

theorem once_up (to : List Ltr) : (once to).Pairwise (fun p q => ((once to).idxOf p : Int) ≤ ((once to).idxOf q : Int)) := by
  rw [List.pairwise_iff_getElem]
  intro i j hi hj hij
  rw [(once_nd to).idxOf_getElem i hi, (once_nd to).idxOf_getElem j hj]
  omega

theorem leftM_ordered (hs : left.Sublist (once to)) (hok : ∀ p ∈ left, okA p) : Ordered (leftM to left) left where
  nodup := hs.nodup (once_nd to)
  mem := fun p => by
    unfold leftM
    by_cases hp : p ∈ left
    · simp [hp, hok p hp]
    · simp [hp]
  up := by
    have h1 := (once_up to).sublist hs
    refine h1.imp_of_mem (fun {p q} hp hq h => ?_)
    unfold plOf leftM
    rw [if_pos hp, if_pos hq]
    exact h

theorem leftM_del {a : Ltr} : delA (leftM to left) a = leftM to (left.filter (fun p => decide (p ≠ a))) := by
  funext p
  unfold delA leftM
  by_cases e : p = a
  · rw [if_pos e, if_neg]
    intro h
    have := (List.mem_filter.1 h).2
    simp [e] at this
  · rw [if_neg e]
    by_cases hp : p ∈ left
    · rw [if_pos hp, if_pos (List.mem_filter.2 ⟨hp, by simpa using e⟩)]
    · rw [if_neg hp, if_neg (fun h => hp (List.mem_filter.1 h).1)]

end

/-- the length without one -/
theorem filter_len {l : List Ltr} {a : Ltr} (hnd : l.Nodup) (ha : a ∈ l) : (l.filter (fun p => decide (p ≠ a))).length + 1 = l.length := by
  induction l with
  | nil => cases ha
  | cons b t ih =>
    obtain ⟨h1, h2⟩ := List.nodup_cons.1 hnd
    by_cases e : b = a
    · subst e
      rw [List.filter_cons_of_neg (by simp), List.filter_eq_self.2 (fun p hp => decide_eq_true (show p ≠ b from fun e => h1 (e ▸ hp)))]
      rfl
    · have ha' : a ∈ t := (List.mem_cons.1 ha).resolve_left (fun e2 => e e2.symm)
      rw [List.filter_cons_of_pos (by simpa using e), List.length_cons, List.length_cons, ih h2 ha']

theorem ids_gone_sub (l : List Wg) (id : Int) (a : Ltr) : (ids (gone l id a)).Sublist (ids l) := by
  have e : ids (l.map (gone1 id a)) = ids l := by
    unfold ids
    rw [List.map_map]
    exact List.map_congr_left (fun w _ => (gone1_id id a w).1)
  rw [← e]
  exact List.Sublist.map _ List.filter_sublist

/-- a mail by its number -/
def byId (l : List Wg) (id : Int) : Option Wg := l.find? (fun w => decide (w.1 = id))

theorem byId_some {l : List Wg} {id : Int} {w : Wg} (h : byId l id = some w) : w ∈ l ∧ w.1 = id := by
  unfold byId at h
  have h1 := List.find?_some h
  exact ⟨List.mem_of_find?_eq_some h, by simpa using h1⟩

theorem byId_of {l : List Wg} (hu : (ids l).Pairwise (· < ·)) {w : Wg} (hw : w ∈ l) : byId l w.1 = some w := by
  cases h : byId l w.1 with
  | none =>
    unfold byId at h
    have := List.find?_eq_none.1 h w hw
    simp at this
  | some v =>
    obtain ⟨h1, h2⟩ := byId_some h
    rw [ids_inj hu h1 hw h2]

/-- which of the two was found is told by the length -/
theorem gone_tell {l : List Wg} {lv : Int} (hW : Wgs l lv) {w : Wg} (hw : w ∈ l) {a : Ltr} (ha : a ∈ w.2.2) : (w.2.2 = [a] ∧ byId (gone l w.1 a) w.1 = none) ∨ (w.2.2 ≠ [a] ∧ ∃ v, byId (gone l w.1 a) w.1 = some v ∧ v = (w.1, w.2.1, w.2.2.filter (fun p => decide (p ≠ a))) ∧ v.2.2.length + 1 = w.2.2.length) := by
  obtain ⟨h1, h2, h3, h4, h5⟩ := hW.mem w hw
  have hnd : w.2.2.Nodup := h5.nodup (once_nd _)
  by_cases e : w.2.2 = [a]
  · refine .inl ⟨e, ?_⟩
    cases h : byId (gone l w.1 a) w.1 with
    | none => rfl
    | some v =>
      exfalso
      obtain ⟨q1, q2⟩ := byId_some h
      obtain ⟨q3, v', q4, rfl⟩ := mem_gone.1 q1
      rw [(gone1_id w.1 a v').1] at q2
      obtain rfl := ids_inj hW.up q4 hw q2
      apply q3
      unfold gone1
      rw [if_pos rfl, e]
      simp
  · refine .inr ⟨e, _, ?_, rfl, filter_len hnd ha⟩
    have hg1 : gone1 w.1 a w = (w.1, w.2.1, w.2.2.filter (fun p => decide (p ≠ a))) := if_pos rfl
    have hin : gone1 w.1 a w ∈ gone l w.1 a := mem_gone.2 ⟨by rw [hg1]; exact left_more hnd h4 e, w, hw, rfl⟩
    have := byId_of (hW.gone w.1 a).up hin
    rw [hg1] at this
    exact this

end Go.Proofs.YtegbkpjcjlihmabGreatDoor

namespace Go.Proofs.YtegbkpjcjlihmabGreatDoor
open Go.RowKit Go.Maps

/-- the files, as they are told now, are those of these mails -/
structure NowOk (σ : Dk) (l : List Wg) (lv : Int) : Prop where
  wgs : Wgs l lv
  dir : DirOk l lv .no σ.now
  cont : ∀ s x, MlN s → σ.now s = some x → ∃ w ∈ l, s = mName w.1 ∧ ∃ r, σ.cont x = mlText w.2.1 ++ r ∧ stillOf (mlTo w.2.1) r = w.2.2
  lft : σ.left = none

section
variable {σ σ' τ : Dk} {l l' : List Wg} {lv lv' : Int} {K : List Text} {C L : Nat} {k : Int} {ks : List Text}

theorem open_copy (h : NowOk σ l lv) (hf : Fits K C L σ) (hhi : lv + 2 < 1000000000000000000) (hs : Sorted σ.now ks) (hr : runs ((openW ks).map Wr.rel) σ k σ') :
    k = 0 ∧ Alive σ' l lv ∧ σ'.left = none ∧ findLast ks = some lv ∧ (∀ n M, Found σ ks n M → ∃ w ∈ l, w.1 = n ∧ M = leftM (mlTo w.2.1) w.2.2) ∧ (∀ n, (∃ s ∈ ks, isMail s n) ↔ n ∈ ids l) := by
  have hlo := h.wgs.lo
  obtain ⟨n, hn, hlast⟩ := h.dir.last
  have hn : n = lv := hn.resolve_right (fun e => by obtain ⟨⟨m, e⟩, _⟩ := e; cases e)
  subst hn
  have hfl : findLast ks = some n := by
    unfold findLast
    rw [findLast_of hlo (by omega) ks none (fun s h1 h2 => (hlast s h2).1 ((hs.mem s).1 h1)), if_pos ((hs.mem _).2 ((hlast _ (lsN_name hlo (by omega))).2 rfl))]
  have ho := off_openW (K := K) (ks := ks) (by rw [hfl]; rfl)
  have hr2 : runs ((findW ks).map Wr.rel ++ [Wr.rel (5, [], [])]) σ k σ' := by
    unfold openW at hr
    rw [if_pos (by rw [hfl]; rfl), List.append_nil, List.map_append] at hr
    exact hr
  have f' := runsW_fits (openW ks) hf (fun x hx s hs => ((ho x hx).mks s hs).1) hr
  rcases find_runs ks hs.nodup (fun s h1 => (hs.mem s).1 h1) hr2 with ⟨σ1, O1, h1, h2, h3⟩ | ⟨_, h2, _⟩
  · refine runs_step h3 (fun k1 hk h6 e => ?_) (fun σ2 h6 hr3 => ?_)
    · obtain ⟨e1, _⟩ := bad_syncsDir h6 hk
      exact absurd (O1.leftN h.lft) e1
    · obtain ⟨rfl, rfl⟩ := hr3
      have O2 := opn_syncDir h6
      have O := O1.trans O2
      have hnew : σ'.now newT = none := by
        cases e : σ'.now newT with
        | none => rfl
        | some x =>
          have e1 := O2.sub _ _ e
          have e2 := O1.sub _ _ e1
          have := h2 ((hs.mem _).2 (by rw [e2]; rfl))
          rw [this] at e1
          cases e1
      have hml : ∀ s, MlN s → s ≠ newT := fun s hm e => newT_nm (e ▸ .inr hm)
      have hfm : ∀ s, MlN s → Firmed σ' s := fun s hm x hx => by
        have e2 := O.sub _ _ hx
        obtain ⟨m, hm2⟩ := Option.isSome_iff_exists.1 hm
        exact O2.firm s (h1 s ((hs.mem _).2 (by rw [e2]; rfl)) m ⟨hml s hm, mail_not_last hm, hm2⟩) x hx
      have hnl : ∀ s, (numberOf s lastT).isSome = true → s ≠ newT := fun s hm e => newT_nm (e ▸ .inl hm)
      have hdir : DirOk l n .no σ'.now := by
        refine ⟨⟨n, .inl rfl, fun s hs => ?_⟩, fun s hs h1 => ?_, fun w hw => ?_⟩
        · rw [O.now s (hnl s hs)]; exact hlast s hs
        · rw [O.now s (hml s hs)] at h1
          rcases h.dir.mail s hs h1 with e | ⟨⟨m, e⟩, _⟩
          · exact .inl e
          · cases e
        · rcases h.dir.must w hw with ⟨a, e, _⟩ | e
          · cases e
          · exact .inr (by rw [O.now _ (hml _ (h.wgs.nameM hw))]; exact e)
      have hal : Alive σ' l n := Alive.of f' h.wgs (fun s _ => firm_synced f' h6 s) hnew hdir (fun s x hs hx => by
        obtain ⟨w, hw, e, r, h3, h4⟩ := h.cont s x hs (O.sub _ _ hx)
        exact .inl ⟨w, hw, e, r, by rw [O.cont]; exact h3, h4, hfm s hs x hx⟩)
      have hw' := h.wgs
      have hhi' := hw'.hi
      have hfnd : ∀ s ∈ ks, ∀ m, isMail s m → ∃ w ∈ l, w.1 = m ∧ ∃ r, (σ.read s).getD [] = mlText w.2.1 ++ r ∧ stillOf (mlTo w.2.1) r = w.2.2 := fun s hk m hm => by
        obtain ⟨x, hx⟩ := Option.isSome_iff_exists.1 ((hs.mem s).1 hk)
        have hmn : MlN s := by unfold MlN; rw [hm.2.2]; rfl
        obtain ⟨w, hw, e, r, h3, h4⟩ := h.cont s x hmn hx
        refine ⟨w, hw, ?_, r, ?_, h4⟩
        · obtain ⟨q1, q2, _⟩ := hw'.mem w hw
          have e3 := numberOf_name mailT (n := w.1) (by omega) (by omega)
          have e4 := hm.2.2
          rw [e] at e4
          unfold mName at e4
          rw [e3] at e4
          exact Option.some.inj e4
        · unfold Dk.read
          rw [hx]
          exact h3
      refine ⟨rfl, hal, O.leftN h.lft, hfl, fun m M hF => ?_, fun m => ⟨fun hm => ?_, fun hm => ?_⟩⟩
      · obtain ⟨s, hk, hm, hM⟩ := hF
        obtain ⟨w, hw, e, r, h3, h4⟩ := hfnd s hk m hm
        rw [h3] at hM
        refine ⟨w, hw, e, ?_⟩
        rw [(hw'.mem w hw).2.2.1.back hM, h4]
      · obtain ⟨s, hk, hm⟩ := hm
        obtain ⟨w, hw, e, _⟩ := hfnd s hk m hm
        exact List.mem_map.2 ⟨w, hw, e⟩
      · obtain ⟨w, hw, rfl⟩ := List.mem_map.1 hm
        have hmn := hw'.nameM hw
        obtain ⟨q1, q2, _⟩ := hw'.mem w hw
        obtain ⟨x, hx⟩ := Option.isSome_iff_exists.1 (hal.mustNow f' w hw)
        exact ⟨mName w.1, (hs.mem _).2 (by rw [O.sub _ _ hx]; rfl), hml _ hmn, mail_not_last hmn, numberOf_name mailT (by omega) (by omega)⟩
  · exact absurd h.lft h2

/-- a living disk's files are such -/
theorem Alive.nowOk (h : Alive σ l lv) (hf : Fits K C L σ) (hl : σ.left = none) : NowOk σ l lv :=
  ⟨h.inv.wgs, h.dir hf, fun s x hs hx => by
    obtain ⟨w, hw, e, r, h3, h4, _⟩ := (h.inv.box.now hf hs hx).toNo (fun w _ a e => by cases e) (fun m e => by cases e)
    exact ⟨w, hw, e, r, h3, h4⟩, hl⟩

/-- files of the same names that read alike -/
theorem NowOk.copy (h : NowOk σ l lv) (hn : ∀ s, (τ.now s).isSome = (σ.now s).isSome) (hr : ∀ s, τ.read s = σ.read s) (hl : τ.left = none) : NowOk τ l lv := by
  refine ⟨h.wgs, ⟨?_, fun s hs h1 => ?_, fun w hw => ?_⟩, fun s x hs hx => ?_, hl⟩
  · obtain ⟨n, h1, h2⟩ := h.dir.last
    exact ⟨n, h1, fun s hs => by rw [hn s]; exact h2 s hs⟩
  · rw [hn s] at h1
    rcases h.dir.mail s hs h1 with e | ⟨⟨m, e⟩, _⟩
    · exact .inl e
    · cases e
  · rcases h.dir.must w hw with ⟨a, e, _⟩ | e
    · cases e
    · exact .inr (by rw [hn]; exact e)
  · have h1 : (σ.now s).isSome = true := by rw [← hn s, hx]; rfl
    obtain ⟨y, hy⟩ := Option.isSome_iff_exists.1 h1
    obtain ⟨w, hw, e, r, h3, h4⟩ := h.cont s y hs hy
    refine ⟨w, hw, e, r, ?_, h4⟩
    have h5 := hr s
    unfold Dk.read at h5
    rw [hx, hy] at h5
    have h6 : τ.cont x = σ.cont y := Option.some.inj h5
    rw [h6]
    exact h3

end

end Go.Proofs.YtegbkpjcjlihmabGreatDoor

namespace Go.Proofs.YtegbkpjcjlihmabGreatDoor
open Go.RowKit Go.Maps

/-- these names are copied -/
structure Part (σ τ : Dk) (ds : List Text) : Prop where
  nm : ∀ s, (τ.now s).isSome = true ↔ s ∈ ds
  rd : ∀ s ∈ ds, τ.read s = σ.read s
  lft : τ.left = none

section
variable {σ τ τ1 τ2 : Dk} {l : List Wg} {lv : Int} {K : List Text} {C L : Nat} {k1 k2 : Int} {ds : List Text} {s : Text}

theorem Part.start (σ : Dk) : Part σ Dk.empty [] := ⟨fun s => ⟨fun h => (by cases h), fun h => (by cases h)⟩, fun s h => (by cases h), rfl⟩

theorem live_not_dead (h : τ.left = none) : τ.dead = false := by
  unfold Dk.dead
  rw [h]
  rfl

theorem Part.step (h : Part σ τ ds) (hf : Fits K C L τ) (hs : s ∉ ds) (hin : (σ.now s).isSome = true) (hc : τ.creates s k1 τ1) (ha : τ1.appends s ((σ.read s).getD []) k2 τ2) : Part σ τ2 (ds ++ [s]) := by
  have hn : τ.now s = none := by
    cases e : τ.now s with
    | none => rfl
    | some x => exact absurd ((h.nm s).1 (by rw [e]; rfl)) hs
  have lf1 : τ1.left = none := Wr.leftN (0, s, []) h.lft hc
  have lf2 : τ2.left = none := Wr.leftN (1, s, (σ.read s).getD []) lf1 ha
  rcases hc with ⟨q, _⟩ | ⟨_, q, _⟩ | ⟨_, _, x, hx, _, rfl⟩
  · rw [live_not_dead h.lft] at q; cases q
  · rw [hn] at q; cases q
  have e1 : ((τ.tick.add x).did (.create s x)).now = putN τ.now s x := rfl
  have c1 : ((τ.tick.add x).did (.create s x)).cont = upd τ.cont x [] := rfl
  rcases ha with ⟨q, _⟩ | ⟨_, q, _⟩ | ⟨_, y, hy, _, rfl⟩
  · rw [live_not_dead lf1] at q; cases q
  · rw [e1] at q
    unfold putN at q
    rw [if_pos rfl] at q
    cases q
  rw [e1] at hy
  unfold putN at hy
  rw [if_pos rfl] at hy
  obtain rfl := Option.some.inj hy
  have e2 : (Dk.wrote ((τ.tick.add x).did (.create s x)).tick x (((τ.tick.add x).did (.create s x)).cont x ++ (σ.read s).getD []) (((τ.tick.add x).did (.create s x)).sure x)).now = putN τ.now s x := rfl
  have c2 : (Dk.wrote ((τ.tick.add x).did (.create s x)).tick x (((τ.tick.add x).did (.create s x)).cont x ++ (σ.read s).getD []) (((τ.tick.add x).did (.create s x)).sure x)).cont = upd (upd τ.cont x []) x (upd τ.cont x [] x ++ (σ.read s).getD []) := rfl
  refine ⟨fun u => ?_, fun u hu => ?_, lf2⟩
  · rw [e2]
    unfold putN
    by_cases e : u = s
    · subst e
      rw [if_pos rfl]
      simp
    · rw [if_neg e, h.nm u]
      simp [e]
  · unfold Dk.read at *
    rw [e2, c2]
    unfold putN
    by_cases e : u = s
    · subst e
      rw [if_pos rfl]
      obtain ⟨z, hz⟩ := Option.isSome_iff_exists.1 hin
      rw [hz]
      simp [upd_same]
    · rw [if_neg e]
      have hd : u ∈ ds := by
        rcases List.mem_append.1 hu with h1 | h1
        · exact h1
        · exact absurd (List.mem_singleton.1 h1) e
      have h3 := h.rd u hd
      unfold Dk.read at h3
      obtain ⟨z, hz⟩ := Option.isSome_iff_exists.1 ((h.nm u).2 hd)
      rw [hz] at h3 ⊢
      have hne : z ≠ x := fun e => hx (e ▸ hf.nowIn u z hz)
      have e5 : upd (upd τ.cont x []) x (upd τ.cont x [] x ++ ((σ.now s).map σ.cont).getD []) z = τ.cont z := by
        rw [upd_other _ _ hne, upd_other _ _ hne]
      show some (upd (upd τ.cont x []) x (upd τ.cont x [] x ++ ((σ.now s).map σ.cont).getD []) z) = _
      rw [e5]
      exact h3

/-- all are copied -/
theorem Part.all (h : Part σ τ ds) (hs : Sorted σ.now ds) (hn : NowOk σ l lv) : NowOk τ l lv := by
  have h1 : ∀ s, (τ.now s).isSome = (σ.now s).isSome := fun s => by
    rw [Bool.eq_iff_iff, h.nm s, hs.mem s]
  refine hn.copy h1 (fun s => ?_) h.lft
  by_cases e : s ∈ ds
  · exact h.rd s e
  · have e1 : τ.now s = none := by
      cases e2 : τ.now s with
      | none => rfl
      | some x => exact absurd ((h.nm s).1 (by rw [e2]; rfl)) e
    have e3 : σ.now s = none := by
      cases e2 : σ.now s with
      | none => rfl
      | some x => exact absurd ((hs.mem s).2 (by rw [e2]; rfl)) e
    unfold Dk.read
    rw [e1, e3]
    rfl

end

end Go.Proofs.YtegbkpjcjlihmabGreatDoor
