/-
  What was made safe survives: the plain part.
-/
import Derived.Test.YtegbkpjcjlihmabLiv
namespace Go.Proofs.Ytegbkpjcjlihmab
open Go.RowKit Go.Maps

/-- all bytes of all files with safe names are safe -/
def AllSure (σ : Dk) : Prop := ∀ s x, σ.safe s = some x → σ.sure x = (σ.cont x).length

theorem cr_sure (σ : Dk) (ks : List Text) (ts : List Int) : ∀ i j x, j < i → (ks[j]?).bind σ.safe = some x → (σ.cr ks ts i).sure x = ((σ.cr ks ts i).cont x).length
  | 0, j, x, hj, _ => absurd hj (Nat.not_lt_zero _)
  | i + 1, j, x, hj, hx => by
    unfold Dk.cr
    split
    · rename_i y hy
      by_cases e : x = y
      · subst e
        simp only [Dk.wrote, upd_same]
      · simp only [Dk.wrote, upd_other _ _ e]
        refine cr_sure σ ks ts i j x ?_ hx
        rcases Nat.lt_succ_iff_lt_or_eq.1 hj with h | h
        · exact h
        · subst h
          rw [hx] at hy
          exact absurd (Option.some.inj hy) e
    · rename_i hy
      refine cr_sure σ ks ts i j x ?_ hx
      rcases Nat.lt_succ_iff_lt_or_eq.1 hj with h | h
      · exact h
      · subst h
        rw [hx] at hy
        cases hy

theorem crashed_eq (σ : Dk) (k : Nat) (ks : List Text) (ts : List Int) : ∃ τ : Dk, τ = { σ.settled k with chs := [] } ∧ (σ.crashed k ks ts).now = τ.safe ∧ (σ.crashed k ks ts).safe = τ.safe ∧ (σ.crashed k ks ts).chs = [] ∧ (σ.crashed k ks ts).left = none ∧
    (σ.crashed k ks ts).cont = (τ.cr ks ts ks.length).cont ∧ (σ.crashed k ks ts).sure = (τ.cr ks ts ks.length).sure := by
  refine ⟨{ σ.settled k with chs := [] }, rfl, ?_, ?_, rfl, rfl, rfl, rfl⟩
  · exact (cr_safe _ ks ts ks.length).1
  · exact (cr_safe _ ks ts ks.length).1

theorem sorted_index {M : Names} {ks : List Text} (h : Sorted M ks) {s : Text} {x : Nat} (hx : M s = some x) : ∃ j, j < ks.length ∧ (ks[j]?).bind M = some x := by
  have hm : s ∈ ks := (h.mem s).2 (by rw [hx]; rfl)
  obtain ⟨j, hj, he⟩ := List.getElem_of_mem hm
  exact ⟨j, hj, by rw [List.getElem?_eq_getElem hj, he]; exact hx⟩

/-- behind a crash all is safe -/
theorem crashed_sure {σ : Dk} {k : Nat} {ks : List Text} {ts : List Int} (hk : Sorted (σ.settled k).safe ks) : AllSure (σ.crashed k ks ts) := by
  obtain ⟨τ, hτ, _, hs, _, _, hc, hu⟩ := crashed_eq σ k ks ts
  intro s x hx
  rw [hs] at hx
  have hts : τ.safe = (σ.settled k).safe := by rw [hτ]
  rw [← hts] at hk
  obtain ⟨j, hj, hb⟩ := sorted_index hk hx
  rw [hc, hu]
  exact cr_sure τ ks ts ks.length j x hj hb

/-- a crash that keeps no tail -/
theorem cr_none (σ : Dk) (ks : List Text) : ∀ i x,
    ((∃ j, j < i ∧ (ks[j]?).bind σ.safe = some x) → (σ.cr ks [] i).cont x = (σ.cont x).take (σ.sure x) ∧ (σ.cr ks [] i).sure x = ((σ.cont x).take (σ.sure x)).length) ∧
    ((∀ j, j < i → (ks[j]?).bind σ.safe ≠ some x) → (σ.cr ks [] i).cont x = σ.cont x ∧ (σ.cr ks [] i).sure x = σ.sure x)
  | 0, x => ⟨fun ⟨j, hj, _⟩ => absurd hj (Nat.not_lt_zero _), fun _ => ⟨rfl, rfl⟩⟩
  | i + 1, x => by
    have ih := cr_none σ ks i x
    have e0 : tailAt [] i = 0 := rfl
    have ec : (σ.cr ks [] (i + 1)) = match (ks[i]?).bind σ.safe with
      | some x => (σ.cr ks [] i).wrote x (survive ((σ.cr ks [] i).cont x) ((σ.cr ks [] i).sure x) (tailAt [] i)) (survive ((σ.cr ks [] i).cont x) ((σ.cr ks [] i).sure x) (tailAt [] i)).length
      | none => σ.cr ks [] i := rfl
    rw [ec]
    cases hb : (ks[i]?).bind σ.safe with
    | none =>
      simp only
      refine ⟨fun ⟨j, hj, hx⟩ => ih.1 ⟨j, ?_, hx⟩, fun h => ih.2 (fun j hj => h j (by omega))⟩
      rcases Nat.lt_succ_iff_lt_or_eq.1 hj with h | h
      · exact h
      · subst h; rw [hx] at hb; cases hb
    | some y =>
      simp only [e0]
      by_cases e : x = y
      · subst e
        simp only [Dk.wrote, upd_same]
        have hsv : ∀ (c : Text) n, survive c n 0 = c.take n := fun c n => by simp [survive]
        rw [hsv]
        refine ⟨fun _ => ?_, fun h => absurd hb (h i (by omega))⟩
        by_cases hp : ∃ j, j < i ∧ (ks[j]?).bind σ.safe = some x
        · have := ih.1 hp
          rw [this.1, this.2, List.take_length]
          exact ⟨rfl, rfl⟩
        · have := ih.2 (fun j hj hx => hp ⟨j, hj, hx⟩)
          rw [this.1, this.2]
          exact ⟨rfl, rfl⟩
      · simp only [Dk.wrote, upd_other _ _ e]
        refine ⟨fun ⟨j, hj, hx⟩ => ih.1 ⟨j, ?_, hx⟩, fun h => ih.2 (fun j hj => h j (by omega))⟩
        rcases Nat.lt_succ_iff_lt_or_eq.1 hj with h | h
        · exact h
        · subst h
          rw [hx] at hb
          exact absurd (Option.some.inj hb) e

theorem crashed_none {σ : Dk} {ks : List Text} (hch : σ.chs = []) {k : Nat} (hk : Sorted (σ.settled k).safe ks) : (σ.crashed k ks []).now = σ.safe ∧ ∀ s x, σ.safe s = some x → (σ.crashed k ks []).cont x = (σ.cont x).take (σ.sure x) := by
  obtain ⟨τ, hτ, hn, _, _, _, hc, _⟩ := crashed_eq σ k ks []
  have hts : τ.safe = σ.safe := by rw [hτ]; exact flat_settled σ hch k
  have hkt : Sorted τ.safe ks := by rw [hts]; rw [flat_settled σ hch k] at hk; exact hk
  refine ⟨by rw [hn, hts], fun s x hx => ?_⟩
  rw [← hts] at hx
  obtain ⟨j, hj, hb⟩ := sorted_index hkt hx
  have := (cr_none τ ks ks.length x).1 ⟨j, hj, hb⟩
  rw [hc, this.1, hτ]
  rfl

/-- the file of one name, and the others as they were -/
structure Sf (σ1 : Dk) (name : Text) (x : Nat) (c : Text) (n : Nat) (σ : Dk) : Prop where
  left : σ.left = none
  now : σ.now name = some x
  cont : σ.cont x = c
  sure : σ.sure x = n
  other : ∀ s y, s ≠ name → σ1.now s = some y → σ.now s = some y ∧ y ≠ x ∧ σ.cont y = σ1.cont y ∧ σ.sure y = σ1.sure y

section
variable {σ1 σ σ' : Dk} {name : Text} {x n : Nat} {c : Text} {k : Int}

theorem Sf.alive (h : Sf σ1 name x c n σ) : σ.dead = false := by simp [Dk.dead, h.left]

theorem tick_none {σ : Dk} (h : σ.left = none) : σ.tick = σ := by cases σ; simp only at h; simp [Dk.tick, h]

theorem sf_create {K : List Text} {C L : Nat} (hf : Fits K C L σ1) (hl : σ1.left = none) (h : σ1.creates name k σ') : (k = if (σ1.now name).isSome then 5 else 0) ∧ ∃ x c n, Sf σ1 name x c n σ' := by
  have hd : σ1.dead = false := by simp [Dk.dead, hl]
  rcases h with ⟨h, _⟩ | ⟨_, hs, rfl, rfl⟩ | ⟨_, hn, x, hx, rfl, rfl⟩
  · rw [hd] at h; cases h
  · rw [tick_none hl]
    obtain ⟨x, hx⟩ := Option.isSome_iff_exists.1 hs
    refine ⟨by rw [if_pos hs], x, _, _, hl, hx, rfl, rfl, fun s y hs hy => ⟨hy, fun e => hs (hf.nowInj s name y hy (e ▸ hx)), rfl, rfl⟩⟩
  · rw [tick_none hl]
    refine ⟨by rw [hn]; rfl, x, [], 0, hl, ?_, upd_same _ _ _, upd_same _ _ _, fun s y hs hy => ?_⟩
    · show putN σ1.now name x name = some x
      simp [putN]
    · have hyx : y ≠ x := fun e => hx (e ▸ hf.nowIn s y hy)
      refine ⟨?_, hyx, upd_other _ _ hyx, upd_other _ _ hyx⟩
      show putN σ1.now name x s = some y
      simp [putN, hs, hy]

theorem sf_wrote (h : Sf σ1 name x c n σ) (c' : Text) (n' : Nat) : Sf σ1 name x c' n' (σ.wrote x c' n') :=
  ⟨h.left, h.now, upd_same _ _ _, upd_same _ _ _, fun s y hs hy => by
    obtain ⟨a, b, d, e⟩ := h.other s y hs hy
    refine ⟨a, b, ?_, ?_⟩
    · rw [← d]; exact upd_other _ _ b
    · rw [← e]; exact upd_other _ _ b⟩

theorem sf_append {t : Text} (h : Sf σ1 name x c n σ) (hs : σ.appends name t k σ') : k = 0 ∧ Sf σ1 name x (c ++ t) n σ' ∧ σ'.safe = σ.safe ∧ σ'.chs = σ.chs ∧ σ'.now = σ.now := by
  rcases hs with ⟨hd, _⟩ | ⟨_, hd, _⟩ | ⟨_, y, hy, rfl, rfl⟩
  · rw [h.alive] at hd; cases hd
  · rw [h.now] at hd; cases hd
  · rw [h.now] at hy
    obtain rfl := Option.some.inj hy
    rw [tick_none h.left]
    exact ⟨rfl, by have := sf_wrote h (σ.cont x ++ t) (σ.sure x); rw [h.cont, h.sure] at this; rw [h.cont, h.sure]; exact this, rfl, rfl, rfl⟩

theorem sf_sync (h : Sf σ1 name x c n σ) (hs : σ.syncs name k σ') : k = 0 ∧ Sf σ1 name x c c.length σ' := by
  rcases hs with ⟨hd, _⟩ | ⟨_, hd, _⟩ | ⟨_, y, hy, rfl, rfl⟩
  · rw [h.alive] at hd; cases hd
  · rw [h.now] at hd; cases hd
  · rw [h.now] at hy
    obtain rfl := Option.some.inj hy
    rw [tick_none h.left]
    exact ⟨rfl, by have := sf_wrote h (σ.cont x) (σ.cont x).length; rw [h.cont] at this; rw [h.cont]; exact this⟩

theorem sf_syncDir {K : List Text} {C L : Nat} (hf : Fits K C L σ) (h : Sf σ1 name x c n σ) (hs : σ.syncsDir k σ') : k = 0 ∧ Sf σ1 name x c n σ' ∧ σ'.safe = σ'.now ∧ σ'.chs = [] := by
  rcases hs with ⟨hd, _⟩ | ⟨_, rfl, rfl⟩
  · rw [h.alive] at hd; cases hd
  · rw [tick_none h.left]
    exact ⟨rfl, ⟨h.left, h.now, h.cont, h.sure, h.other⟩, hf.setNow, rfl⟩

/-- behind the crash -/
theorem sf_crash {t : Text} (h1 : AllSure σ1) (hn1 : σ1.safe = σ1.now) (h : Sf σ1 name x (c ++ t) c.length σ) (hs : σ.safe = σ.now) (hch : σ.chs = []) {ks : List Text} {j : Nat} (hk : Sorted (σ.settled j).safe ks) :
    (σ.crashed j ks []).read name = some c ∧ ∀ s u, σ1.read s = some u → (σ.crashed j ks []).read s = some u ∨ (s = name ∧ ((σ.crashed j ks []).read s).isSome = true) := by
  obtain ⟨e1, e2⟩ := crashed_none hch hk
  have hnm : (σ.crashed j ks []).read name = some c := by
    unfold Dk.read
    rw [e1, hs, h.now]
    show some ((σ.crashed j ks []).cont x) = some c
    rw [e2 name x (by rw [hs]; exact h.now), h.cont, h.sure]
    simp
  refine ⟨hnm, fun s u hu => ?_⟩
  by_cases e : s = name
  · subst e
    exact .inr ⟨rfl, by rw [hnm]; rfl⟩
  · left
    unfold Dk.read at hu
    obtain ⟨y, hy, rfl⟩ := Option.map_eq_some_iff.1 hu
    obtain ⟨a, b, d, f⟩ := h.other s y e hy
    unfold Dk.read
    rw [e1, hs, a]
    show some ((σ.crashed j ks []).cont y) = some (σ1.cont y)
    rw [e2 s y (by rw [hs]; exact a), d, f, h1 s y (by rw [hn1]; exact hy), List.take_length]

end
end Go.Proofs.Ytegbkpjcjlihmab
