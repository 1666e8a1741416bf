/-
  The disk held against the reference: Crash, and any call.
-/
import Derived.Test.YtegbkpjcjlihmaaSm
namespace Go.Proofs.Ytegbkpjcjlihmaa
open Go.RowKit Go.Maps

def crFile (fs : List (Text × Nat)) (ts : List Int) (i : Nat) (e : Ent) : Text × Nat :=
  (survive (fs.getD e.2 ([], 0)).1 (fs.getD e.2 ([], 0)).2 (tailAt ts i), (survive (fs.getD e.2 ([], 0)).1 (fs.getD e.2 ([], 0)).2 (tailAt ts i)).length)
def crName (i : Nat) (e : Ent) : Ent := (e.1, i)
def Rf.crashed (ρ : Rf) (l : List Ent) (ts : List Int) : Rf := ⟨l.mapIdx (crFile ρ.files ts), [l.mapIdx crName], -1⟩

theorem nodup_at {l : List Text} (h : l.Nodup) {i j : Nat} {s : Text} (hi : l[i]? = some s) (hj : l[j]? = some s) : i = j := by
  have hp := List.pairwise_iff_getElem.1 h
  obtain ⟨a, ha⟩ := List.getElem?_eq_some_iff.1 hi
  obtain ⟨b, hb⟩ := List.getElem?_eq_some_iff.1 hj
  rcases Nat.lt_trichotomy i j with c | c | c
  · exact absurd (ha.trans hb.symm) (hp i j a b c)
  · exact c
  · exact absurd (hb.trans ha.symm) (hp j i b a c)

theorem cr_at (σ : Dk) (ks : List Text) (ts : List Int) (hn : ks.Nodup) (hi : ∀ s t x, σ.safe s = some x → σ.safe t = some x → s = t) {j x : Nat} (hj : (ks[j]?).bind σ.safe = some x) : ∀ i,
    ((σ.cr ks ts i).cont x = if j < i then survive (σ.cont x) (σ.sure x) (tailAt ts j) else σ.cont x) ∧ ((σ.cr ks ts i).sure x = if j < i then (survive (σ.cont x) (σ.sure x) (tailAt ts j)).length else σ.sure x)
  | 0 => by simp [Dk.cr]
  | i + 1 => by
    obtain ⟨h1, h2⟩ := cr_at σ ks ts hn hi hj i
    unfold Dk.cr
    split
    · rename_i y hy
      by_cases e : y = x
      · subst e
        obtain ⟨s, hs, hs'⟩ := Option.bind_eq_some_iff.1 hy
        obtain ⟨t, ht, ht'⟩ := Option.bind_eq_some_iff.1 hj
        obtain rfl := hi s t y hs' ht'
        obtain rfl : i = j := nodup_at hn hs ht
        simp only [Dk.wrote, upd_same, if_pos (Nat.lt_succ_self _)]
        rw [h1, h2, if_neg (Nat.lt_irrefl _), if_neg (Nat.lt_irrefl _)]
        exact ⟨rfl, rfl⟩
      · have hne : j ≠ i := fun e' => e (by rw [e'] at hj; rw [hj] at hy; exact (Option.some.inj hy).symm)
        have hiff : (j < i + 1) ↔ (j < i) := by omega
        simp only [Dk.wrote, upd_other _ _ (Ne.symm e), hiff]
        exact ⟨h1, h2⟩
    · rename_i hnone
      have hne : j ≠ i := fun e => by rw [e] at hj; rw [hnone] at hj; cases hj
      have hiff : (j < i + 1) ↔ (j < i) := by omega
      simp only [hiff]
      exact ⟨h1, h2⟩

section
variable {φ : Nat → Nat} {R : Nat → Prop} {σ : Dk} {ρ : Rf} {K : List Text} {C L : Nat}

theorem map_crName (l : List Ent) : (l.mapIdx crName).map (·.1) = l.map (·.1) := by
  apply List.ext_getElem?
  intro i
  simp only [List.getElem?_map, List.getElem?_mapIdx]
  cases l[i]? <;> rfl

theorem Sim.crashed (h : Sim φ R σ ρ) (hf : Fits K C L σ) {k : Nat} {l : List Ent} (hl : ρ.log[k]? = some l) {ks : List Text} (hks : Sorted (σ.settled k).safe ks) (ts : List Int) : ∃ ψ R', Sim ψ R' (σ.crashed k ks ts) (ρ.crashed l ts) := by
  have he := h.ents k l hl
  obtain ⟨M, hM⟩ : ∃ M, M = (σ.settled k).safe := ⟨_, rfl⟩
  rw [← hM] at he hks
  have hmap := he.sorted hks
  have hnd := hks.nodup
  have hMi : ∀ s t x, M s = some x → M t = some x → s = t := fun s t x => by rw [hM]; exact hf.setInj k s t x
  have hMR : ∀ s x, M s = some x → R x := fun s x => by rw [hM]; exact h.ref k s x
  obtain ⟨ψ, hψ⟩ : ∃ ψ : Nat → Nat, ψ = fun x => ks.findIdx (fun s => decide (M s = some x)) := ⟨_, rfl⟩
  have hidx : ∀ (i : Nat) s x, ks[i]? = some s → M s = some x → ψ x = i := fun i s x hi hx => by
    obtain ⟨hlt, hget⟩ := List.getElem?_eq_some_iff.1 hi
    rw [hψ]
    refine (List.findIdx_eq hlt).2 ⟨by rw [hget]; simpa using hx, fun j hj => ?_⟩
    simp only [decide_eq_false_iff_not]
    intro hjx
    have hj' := List.getElem?_eq_getElem (l := ks) (i := j) (by omega)
    rw [hMi _ _ _ hjx hx] at hj'
    have := nodup_at hnd hj' hi
    omega
  have hkl : ∀ (i : Nat) e, l[i]? = some e → ks[i]? = some e.1 := fun i e hi => by rw [← hmap, List.getElem?_map, hi]; rfl
  have hent : ∀ s x, M s = some x → ∃ i : Nat, l[i]? = some (s, φ x) ∧ ks[i]? = some s ∧ ψ x = i := fun s x hx => by
    obtain ⟨i, hi⟩ := List.mem_iff_getElem?.1 ((he.2 s (φ x)).2 ⟨x, hx, rfl⟩)
    exact ⟨i, hi, hkl i _ hi, hidx i s x (hkl i _ hi) hx⟩
  obtain ⟨τ, hτ⟩ : ∃ τ : Dk, τ = { σ.settled k with chs := [] } := ⟨_, rfl⟩
  have hs := cr_safe τ ks ts ks.length
  have hts : τ.safe = M := by rw [hτ, hM]
  have e0 : (σ.crashed k ks ts) = { τ.cr ks ts ks.length with now := (τ.cr ks ts ks.length).safe, left := none, chs := [] } := by rw [hτ]; rfl
  have e1 : ∀ j, ((σ.crashed k ks ts).settled j).safe = M := fun j => by
    rw [flat_settled _ (by rw [e0]), e0]
    show (τ.cr ks ts ks.length).safe = _
    rw [hs.1, hts]
  refine ⟨ψ, fun x => ∃ s, M s = some x, ?_, ?_, ?_, ?_, ?_, ?_, ?_⟩
  · rw [e0]; rfl
  · intro i l' hl'
    rw [e1]
    match i, hl' with
    | 0, hl' =>
      simp [Rf.crashed] at hl'
      subst hl'
      refine ⟨?_, fun s n => ?_⟩
      · have := he.1.names
        rw [← map_crName] at this
        exact List.pairwise_map.1 this
      · constructor
        · intro hm
          obtain ⟨i, hi⟩ := List.mem_iff_getElem?.1 hm
          rw [List.getElem?_mapIdx] at hi
          obtain ⟨e, he', hc⟩ := Option.map_eq_some_iff.1 hi
          obtain ⟨rfl, rfl⟩ := Prod.mk.inj hc
          obtain ⟨x, hx, _⟩ := (he.2 e.1 e.2).1 (List.mem_of_getElem? he')
          exact ⟨x, hx, hidx i _ x (hkl i e he') hx⟩
        · rintro ⟨x, hx, rfl⟩
          obtain ⟨i, h1, h2, h3⟩ := hent s x hx
          refine List.mem_iff_getElem?.2 ⟨i, ?_⟩
          rw [List.getElem?_mapIdx, h1, h3]
          rfl
  · intro i s x hx
    rw [e1] at hx
    exact ⟨s, hx⟩
  · rintro x ⟨s, hx⟩
    rw [e0]
    show x ∈ (τ.cr ks ts ks.length).files
    rw [hs.2.1, hτ]
    exact h.has x (hMR s x hx)
  · rintro x y ⟨s, hx⟩ ⟨t, hy⟩ e
    obtain ⟨i, _, h2, h3⟩ := hent s x hx
    obtain ⟨j, _, h5, h6⟩ := hent t y hy
    obtain rfl : i = j := by rw [← h3, ← h6]; exact e
    rw [h2] at h5
    obtain rfl := Option.some.inj h5
    rw [hx] at hy
    exact Option.some.inj hy
  · rintro x ⟨s, hx⟩
    obtain ⟨i, h1, h2, h3⟩ := hent s x hx
    have hc := cr_at τ ks ts hnd (by rw [hts]; exact hMi) (j := i) (x := x) (by rw [h2, hts]; exact hx) ks.length
    have hlt := (List.getElem?_eq_some_iff.1 h2).1
    rw [if_pos hlt, if_pos hlt] at hc
    have hcc : (σ.crashed k ks ts).cont x = survive (σ.cont x) (σ.sure x) (tailAt ts i) := by rw [e0]; show (τ.cr ks ts ks.length).cont x = _; rw [hc.1, hτ]; rfl
    have hcs : (σ.crashed k ks ts).sure x = (survive (σ.cont x) (σ.sure x) (tailAt ts i)).length := by rw [e0]; show (τ.cr ks ts ks.length).sure x = _; rw [hc.2, hτ]; rfl
    rw [hcc, hcs, h3]
    show (l.mapIdx (crFile ρ.files ts))[i]? = _
    rw [List.getElem?_mapIdx, h1]
    have hg : ρ.files.getD (φ x) ([], 0) = (σ.cont x, σ.sure x) := by rw [List.getD_eq_getElem?_getD, h.file x (hMR s x hx)]; rfl
    simp only [Option.map_some, crFile, hg]
  · rw [e0]; rfl

/-- what a call does to the reference, and answers -/
def RStep (ρ : Rf) (l : List Ent) (o : Op) (r : Int) (ρ' : Rf) : Prop :=
  (o.kind = 0 ∧ RCreate ρ l o.name.data.toList r ρ') ∨ (o.kind = 1 ∧ RAppend ρ l o.name.data.toList o.s.data.toList r ρ') ∨ (o.kind = 2 ∧ RSync ρ l o.name.data.toList r ρ') ∨
  (o.kind = 3 ∧ RRename ρ l o.name.data.toList o.s.data.toList r ρ') ∨ (o.kind = 4 ∧ RRemove ρ l o.name.data.toList r ρ') ∨ (o.kind = 5 ∧ RSyncDir ρ l r ρ') ∨
  (o.kind = 6 ∧ r = 0 ∧ ρ' = { ρ with left := ((o.n.toNat : Nat) : Int) }) ∨
  (o.kind = 7 ∧ r = 0 ∧ ∃ lk, ρ.log[min o.n.toNat (ρ.log.length - 1)]? = some lk ∧ ρ' = ρ.crashed lk o.tails) ∨
  ((o.kind < 0 ∨ 7 < o.kind) ∧ r = 0 ∧ ρ' = ρ)

theorem Sim.step (h : Sim φ R σ ρ) (hf : Fits K C L σ) {l : List Ent} (hl : EntsOf φ σ.now l) {o : Op} {r r' : Int} {σ' : Dk} {ρ' : Rf} (hs : Step σ o r σ') (hr : RStep ρ l o r' ρ') : r = r' ∧ ∃ ψ R', Sim ψ R' σ' ρ' := by
  have hlen := h.len
  rcases hs with ⟨hk, hs⟩ | ⟨hk, hs⟩ | ⟨hk, hs⟩ | ⟨hk, hs⟩ | ⟨hk, hs⟩ | ⟨hk, hs⟩ | ⟨hk, hs⟩ | ⟨hk, hs⟩ | ⟨hk, hs⟩ <;>
  rcases hr with ⟨hk', hr⟩ | ⟨hk', hr⟩ | ⟨hk', hr⟩ | ⟨hk', hr⟩ | ⟨hk', hr⟩ | ⟨hk', hr⟩ | ⟨hk', hr⟩ | ⟨hk', hr⟩ | ⟨hk', hr⟩ <;>
  first
  | (exfalso; omega)
  | exact h.creates hf hl hs hr
  | exact h.appends hf hl hs hr
  | exact h.syncs hf hl hs hr
  | exact h.renames hf hl hs hr
  | exact h.removes hf hl hs hr
  | exact h.syncsDir hf hl hs hr
  | skip
  · obtain ⟨rfl, rfl⟩ := hs
    obtain ⟨rfl, rfl⟩ := hr
    exact ⟨rfl, φ, R, h.setLeft _⟩
  · obtain ⟨rfl, ks, hks, rfl⟩ := hs
    obtain ⟨rfl, lk, hlk, rfl⟩ := hr
    rw [hlen, Nat.add_sub_cancel] at hlk
    exact ⟨rfl, h.crashed hf hlk hks _⟩
  · obtain ⟨rfl, rfl⟩ := hs
    obtain ⟨rfl, rfl⟩ := hr
    exact ⟨rfl, φ, R, h⟩

end
end Go.Proofs.Ytegbkpjcjlihmaa
