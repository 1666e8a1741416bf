/-
  The disk held against the reference: plain.
-/
import Derived.Test.YtegbkpjcjlihmaaRk
import Derived.Test.YtegbkpjcjlihmaaDoa
namespace Go.Proofs.Ytegbkpjcjlihmaa
open Go.RowKit Go.Maps

/-- the files R of the disk are the reference's, by their numbers -/
structure Sim (φ : Nat → Nat) (R : Nat → Prop) (σ : Dk) (ρ : Rf) : Prop where
  len : ρ.log.length = σ.chs.length + 1
  ents : ∀ i l, ρ.log[i]? = some l → EntsOf φ (σ.settled i).safe l
  ref : ∀ i s x, (σ.settled i).safe s = some x → R x
  has : ∀ x, R x → x ∈ σ.files
  inj : ∀ x y, R x → R y → φ x = φ y → x = y
  file : ∀ x, R x → ρ.files[φ x]? = some (σ.cont x, σ.sure x)
  left : ρ.left = match σ.left with | none => -1 | some n => (n : Int)

theorem Sim.empty : Sim (fun x => x) (fun _ => False) Dk.empty Rf.empty := by
  have e : ∀ i, (Dk.empty.settled i).safe = fun _ => none := fun i => by simp [Dk.settled, Dk.empty, appAll]
  refine ⟨rfl, fun i l hl => ?_, fun i s x h => ?_, fun x h => h.elim, fun x y h => h.elim, fun x h => h.elim, rfl⟩
  · match i, hl with
    | 0, hl =>
      simp [Rf.empty] at hl
      subst hl
      rw [e]
      exact ⟨List.Pairwise.nil, fun s k => by simp⟩
  · rw [e] at h; cases h

section
variable {φ : Nat → Nat} {R : Nat → Prop} {σ : Dk} {ρ : Rf} {K : List Text} {C L : Nat}

theorem Sim.tick (h : Sim φ R σ ρ) : Sim φ R σ.tick ρ.tick := by
  refine ⟨h.len, h.ents, h.ref, h.has, h.inj, h.file, ?_⟩
  have hl := h.left
  unfold Rf.tick Dk.tick
  cases e : σ.left with
  | none => rw [e] at hl; simp only at hl; simp [hl]
  | some n =>
    rw [e] at hl
    simp only at hl
    cases n with
    | zero => simp [hl]
    | succ n => simp [hl]

theorem Sim.dead (h : Sim φ R σ ρ) : σ.dead = true ↔ ρ.left = 0 := by
  have hl := h.left
  unfold Dk.dead
  cases e : σ.left with
  | none => rw [e] at hl; simp only at hl; simp [hl]
  | some n => rw [e] at hl; simp only at hl; simp [hl]

theorem Sim.setLeft (h : Sim φ R σ ρ) (n : Nat) : Sim φ R { σ with left := some n } { ρ with left := (n : Int) } :=
  ⟨h.len, h.ents, h.ref, h.has, h.inj, h.file, rfl⟩

theorem Sim.wrote (h : Sim φ R σ ρ) {x : Nat} (hx : R x) (c : Text) (m : Nat) : Sim φ R (σ.wrote x c m) { ρ with files := ρ.files.set (φ x) (c, m) } := by
  refine ⟨h.len, h.ents, h.ref, h.has, h.inj, fun y hy => ?_, h.left⟩
  by_cases e : y = x
  · subst e
    have hlt := (List.getElem?_eq_some_iff.1 (h.file y hx)).1
    simp only [Dk.wrote, upd_same]
    rw [List.getElem?_set_self hlt]
  · simp only [Dk.wrote, upd_other _ _ e]
    rw [List.getElem?_set_ne (fun e' => e (h.inj y x hy hx e'.symm))]
    exact h.file y hy

theorem Sim.add (h : Sim φ R σ ρ) {x : Nat} (hx : x ∉ σ.files) : Sim (upd φ x ρ.files.length) (fun y => R y ∨ y = x) (σ.add x) { ρ with files := ρ.files ++ [([], 0)] } := by
  have hne : ∀ y, R y → y ≠ x := fun y hy e => hx (e ▸ h.has y hy)
  have hlt : ∀ y, R y → φ y < ρ.files.length := fun y hy => (List.getElem?_eq_some_iff.1 (h.file y hy)).1
  refine ⟨h.len, fun i l hl => (h.ents i l hl).congr (fun s y hy => upd_other _ _ (hne y (h.ref i s y hy))), fun i s y hy => .inl (h.ref i s y hy), fun y hy => ?_, fun y z hy hz e => ?_, fun y hy => ?_, h.left⟩
  · rcases hy with hy | rfl
    · exact List.mem_cons_of_mem _ (h.has y hy)
    · exact List.mem_cons_self
  · rcases hy with hy | rfl
    · rw [upd_other _ _ (hne y hy)] at e
      rcases hz with hz | rfl
      · rw [upd_other _ _ (hne z hz)] at e
        exact h.inj y z hy hz e
      · rw [upd_same] at e
        have := hlt y hy
        omega
    · rw [upd_same] at e
      rcases hz with hz | rfl
      · rw [upd_other _ _ (hne z hz)] at e
        have := hlt z hz
        omega
      · rfl
  · rcases hy with hy | rfl
    · have e := hne y hy
      simp only [Dk.add, upd_other _ _ e]
      rw [List.getElem?_append_left (hlt y hy)]
      exact h.file y hy
    · simp only [Dk.add, upd_same]
      simp

theorem Sim.did (h : Sim φ R σ ρ) (hf : Fits K C L σ) (c : Chg) {l' : List Ent} (hl : EntsOf φ (c.app σ.now) l') (hR : ∀ s x, c.app σ.now s = some x → R x) : Sim φ R (σ.did c) { ρ with log := ρ.log ++ [l'] } := by
  refine ⟨by simp [Dk.did, h.len], fun i l hi => ?_, fun i s x hx => ?_, h.has, h.inj, h.file, h.left⟩
  · rw [did_settled hf]
    by_cases e : i < ρ.log.length
    · rw [List.getElem?_append_left e] at hi
      rw [if_pos (by have := h.len; omega)]
      exact h.ents i l hi
    · rw [List.getElem?_append_right (by omega)] at hi
      have : l' = l := by
        obtain ⟨j, hj⟩ : ∃ j, i - ρ.log.length = j := ⟨_, rfl⟩
        rw [hj] at hi
        cases j with
        | zero => simpa using hi
        | succ j => simp at hi
      subst this
      rw [if_neg (by have := h.len; omega)]
      exact hl
  · rw [did_settled hf] at hx
    split at hx
    · exact h.ref i s x hx
    · exact hR s x hx

theorem Sim.flat (h : Sim φ R σ ρ) (n : Nat) {l : List Ent} (hl : EntsOf φ (σ.settled n).safe l) : Sim φ R { σ.settled n with chs := [] } { ρ with log := [l] } := by
  have e : ∀ j, (({ σ.settled n with chs := [] } : Dk).settled j).safe = (σ.settled n).safe := fun j => flat_settled _ rfl j
  refine ⟨rfl, fun i l' hi => ?_, fun i s x hx => ?_, h.has, h.inj, h.file, h.left⟩
  · rw [e]
    match i, hi with
    | 0, hi => simp at hi; subst hi; exact hl
  · rw [e] at hx; exact h.ref n s x hx

/-- the names as they are -/
theorem Sim.now (h : Sim φ R σ ρ) (hf : Fits K C L σ) : ∃ l, ρ.log[σ.chs.length]? = some l ∧ EntsOf φ σ.now l := by
  obtain ⟨l, hl⟩ : ∃ l, ρ.log[σ.chs.length]? = some l := ⟨ρ.log[σ.chs.length]'(by have := h.len; omega), List.getElem?_eq_getElem _⟩
  exact ⟨l, hl, by rw [← hf.setNow]; exact h.ents _ l hl⟩

theorem Sim.nowRef (h : Sim φ R σ ρ) (hf : Fits K C L σ) {s : Text} {x : Nat} (hx : σ.now s = some x) : R x := h.ref σ.chs.length s x (by rw [hf.setNow]; exact hx)

theorem nodup_len : ∀ (a b : List Text), a.Nodup → (∀ x ∈ a, x ∈ b) → a.length ≤ b.length
  | [], _, _, _ => Nat.zero_le _
  | x :: a, b, hn, hs => by
    obtain ⟨h1, h2⟩ := List.nodup_cons.1 hn
    have hx : x ∈ b := hs x List.mem_cons_self
    have ih := nodup_len a (b.erase x) h2 (fun y hy => (List.mem_erase_of_ne (fun (e : y = x) => h1 (by rw [← e]; exact hy))).2 (hs y (List.mem_cons_of_mem _ hy)))
    have hp : 0 < b.length := List.length_pos_of_mem hx
    rw [List.length_erase_of_mem hx] at ih
    simp only [List.length_cons]
    omega

theorem EntsOf.length {M : Names} {l : List Ent} (h : EntsOf φ M l) (hK : ∀ s, (M s).isSome = true → s ∈ K) : l.length ≤ K.length := by
  have hn : (l.map (·.1)).Nodup := (h.1.names).imp (fun {a b} hab e => by rw [e] at hab; exact lt_irrefl' b hab)
  have hsub : ∀ s ∈ l.map (·.1), s ∈ K := fun s hs => by
    obtain ⟨⟨t, k⟩, hm, rfl⟩ := List.mem_map.1 hs
    obtain ⟨x, hx, _⟩ := (h.2 t k).1 hm
    exact hK t (by rw [hx]; rfl)
  have := nodup_len _ _ hn hsub
  simpa using this

theorem Sim.creates (h : Sim φ R σ ρ) (hf : Fits K C L σ) {l : List Ent} (hl : EntsOf φ σ.now l) {s : Text} {e e' : Int} {σ' : Dk} {ρ' : Rf} (hc : σ.creates s e σ') (hr : RCreate ρ l s e' ρ') : e = e' ∧ ∃ ψ R', Sim ψ R' σ' ρ' := by
  rcases hc with ⟨hd, rfl, rfl⟩ | ⟨hd, hs, rfl, rfl⟩ | ⟨hd, hs, x, hx, rfl, rfl⟩
  · rcases hr with ⟨_, rfl, rfl⟩ | ⟨h0, _⟩ | ⟨h0, _⟩
    · exact ⟨rfl, φ, R, h.tick⟩
    · exact absurd (h.dead.1 hd) h0
    · exact absurd (h.dead.1 hd) h0
  · rcases hr with ⟨h0, _⟩ | ⟨_, _, rfl, rfl⟩ | ⟨_, hno, _⟩
    · rw [h.dead.2 h0] at hd; cases hd
    · exact ⟨rfl, φ, R, h.tick⟩
    · obtain ⟨x, hx⟩ := Option.isSome_iff_exists.1 hs
      exact absurd ((hl.2 s (φ x)).2 ⟨x, hx, rfl⟩) (hno _)
  · rcases hr with ⟨h0, _⟩ | ⟨_, ⟨n, hn⟩, _⟩ | ⟨_, _, rfl, rfl⟩
    · rw [h.dead.2 h0] at hd; cases hd
    · obtain ⟨y, hy, _⟩ := (hl.2 s n).1 hn
      rw [hs] at hy; cases hy
    · refine ⟨rfl, upd φ x ρ.files.length, fun y => R y ∨ y = x, ?_⟩
      have h1 := h.tick.add (x := x) hx
      have e1 : EntsOf (upd φ x ρ.files.length) σ.now l := hl.congr (fun t y hy => upd_other _ _ (fun e => hx (e ▸ h.has y (h.nowRef hf hy))))
      have e2 := e1.put s x
      rw [upd_same] at e2
      exact h1.did (hf.tick.add x) (.create s x) e2 (fun t y hy => by
        simp only [Chg.app, putN] at hy
        split at hy
        · exact .inr (Option.some.inj hy).symm
        · exact .inl (h.nowRef hf hy))

theorem Sim.appends (h : Sim φ R σ ρ) (hf : Fits K C L σ) {l : List Ent} (hl : EntsOf φ σ.now l) {s t : Text} {e e' : Int} {σ' : Dk} {ρ' : Rf} (hc : σ.appends s t e σ') (hr : RAppend ρ l s t e' ρ') : e = e' ∧ ∃ ψ R', Sim ψ R' σ' ρ' := by
  rcases hc with ⟨hd, rfl, rfl⟩ | ⟨hd, hs, rfl, rfl⟩ | ⟨hd, x, hs, rfl, rfl⟩
  · rcases hr with ⟨_, rfl, rfl⟩ | ⟨h0, _⟩ | ⟨h0, _⟩
    · exact ⟨rfl, φ, R, h.tick⟩
    · exact absurd (h.dead.1 hd) h0
    · exact absurd (h.dead.1 hd) h0
  · rcases hr with ⟨h0, _⟩ | ⟨_, _, rfl, rfl⟩ | ⟨_, n, d, q, hn, _⟩
    · rw [h.dead.2 h0] at hd; cases hd
    · exact ⟨rfl, φ, R, h.tick⟩
    · obtain ⟨y, hy, _⟩ := (hl.2 s n).1 hn
      rw [hs] at hy; cases hy
  · rcases hr with ⟨h0, _⟩ | ⟨_, hno, _⟩ | ⟨_, n, d, q, hn, hfl, rfl, rfl⟩
    · rw [h.dead.2 h0] at hd; cases hd
    · exact absurd ((hl.2 s (φ x)).2 ⟨x, hs, rfl⟩) (hno _)
    · obtain ⟨y, hy, rfl⟩ := (hl.2 s n).1 hn
      rw [hs] at hy
      obtain rfl := Option.some.inj hy
      have hx := h.nowRef hf hs
      rw [h.file x hx] at hfl
      obtain ⟨rfl, rfl⟩ := Prod.mk.inj (Option.some.inj hfl)
      exact ⟨rfl, φ, R, h.tick.wrote hx _ _⟩

theorem Sim.syncs (h : Sim φ R σ ρ) (hf : Fits K C L σ) {l : List Ent} (hl : EntsOf φ σ.now l) {s : Text} {e e' : Int} {σ' : Dk} {ρ' : Rf} (hc : σ.syncs s e σ') (hr : RSync ρ l s e' ρ') : e = e' ∧ ∃ ψ R', Sim ψ R' σ' ρ' := by
  rcases hc with ⟨hd, rfl, rfl⟩ | ⟨hd, hs, rfl, rfl⟩ | ⟨hd, x, hs, rfl, rfl⟩
  · rcases hr with ⟨_, rfl, rfl⟩ | ⟨h0, _⟩ | ⟨h0, _⟩
    · exact ⟨rfl, φ, R, h.tick⟩
    · exact absurd (h.dead.1 hd) h0
    · exact absurd (h.dead.1 hd) h0
  · rcases hr with ⟨h0, _⟩ | ⟨_, _, rfl, rfl⟩ | ⟨_, n, d, q, hn, _⟩
    · rw [h.dead.2 h0] at hd; cases hd
    · exact ⟨rfl, φ, R, h.tick⟩
    · obtain ⟨y, hy, _⟩ := (hl.2 s n).1 hn
      rw [hs] at hy; cases hy
  · rcases hr with ⟨h0, _⟩ | ⟨_, hno, _⟩ | ⟨_, n, d, q, hn, hfl, rfl, rfl⟩
    · rw [h.dead.2 h0] at hd; cases hd
    · exact absurd ((hl.2 s (φ x)).2 ⟨x, hs, rfl⟩) (hno _)
    · obtain ⟨y, hy, rfl⟩ := (hl.2 s n).1 hn
      rw [hs] at hy
      obtain rfl := Option.some.inj hy
      have hx := h.nowRef hf hs
      rw [h.file x hx] at hfl
      obtain ⟨rfl, rfl⟩ := Prod.mk.inj (Option.some.inj hfl)
      exact ⟨rfl, φ, R, h.tick.wrote hx _ _⟩

theorem Sim.renames (h : Sim φ R σ ρ) (hf : Fits K C L σ) {l : List Ent} (hl : EntsOf φ σ.now l) {s t : Text} {e e' : Int} {σ' : Dk} {ρ' : Rf} (hc : σ.renames s t e σ') (hr : RRename ρ l s t e' ρ') : e = e' ∧ ∃ ψ R', Sim ψ R' σ' ρ' := by
  rcases hc with ⟨hd, rfl, rfl⟩ | ⟨hd, hs, rfl, rfl⟩ | ⟨hd, x, hs, rfl, rfl⟩
  · rcases hr with ⟨_, rfl, rfl⟩ | ⟨h0, _⟩ | ⟨h0, _⟩
    · exact ⟨rfl, φ, R, h.tick⟩
    · exact absurd (h.dead.1 hd) h0
    · exact absurd (h.dead.1 hd) h0
  · rcases hr with ⟨h0, _⟩ | ⟨_, _, rfl, rfl⟩ | ⟨_, n, hn, _⟩
    · rw [h.dead.2 h0] at hd; cases hd
    · exact ⟨rfl, φ, R, h.tick⟩
    · obtain ⟨y, hy, _⟩ := (hl.2 s n).1 hn
      rw [hs] at hy; cases hy
  · rcases hr with ⟨h0, _⟩ | ⟨_, hno, _⟩ | ⟨_, n, hn, rfl, rfl⟩
    · rw [h.dead.2 h0] at hd; cases hd
    · exact absurd ((hl.2 s (φ x)).2 ⟨x, hs, rfl⟩) (hno _)
    · obtain ⟨y, hy, rfl⟩ := (hl.2 s n).1 hn
      rw [hs] at hy
      obtain rfl := Option.some.inj hy
      refine ⟨rfl, φ, R, h.tick.did hf.tick (.rename s t x) ((hl.del s).put t x) (fun u z hz => ?_)⟩
      simp only [Chg.app, putN] at hz
      split at hz
      · rw [← Option.some.inj hz]; exact h.nowRef hf hs
      · unfold delN at hz
        split at hz
        · cases hz
        · exact h.nowRef hf hz

theorem Sim.removes (h : Sim φ R σ ρ) (hf : Fits K C L σ) {l : List Ent} (hl : EntsOf φ σ.now l) {s : Text} {e e' : Int} {σ' : Dk} {ρ' : Rf} (hc : σ.removes s e σ') (hr : RRemove ρ l s e' ρ') : e = e' ∧ ∃ ψ R', Sim ψ R' σ' ρ' := by
  rcases hc with ⟨hd, rfl, rfl⟩ | ⟨hd, hs, rfl, rfl⟩ | ⟨hd, x, hs, rfl, rfl⟩
  · rcases hr with ⟨_, rfl, rfl⟩ | ⟨h0, _⟩ | ⟨h0, _⟩
    · exact ⟨rfl, φ, R, h.tick⟩
    · exact absurd (h.dead.1 hd) h0
    · exact absurd (h.dead.1 hd) h0
  · rcases hr with ⟨h0, _⟩ | ⟨_, _, rfl, rfl⟩ | ⟨_, ⟨n, hn⟩, _⟩
    · rw [h.dead.2 h0] at hd; cases hd
    · exact ⟨rfl, φ, R, h.tick⟩
    · obtain ⟨y, hy, _⟩ := (hl.2 s n).1 hn
      rw [hs] at hy; cases hy
  · rcases hr with ⟨h0, _⟩ | ⟨_, hno, _⟩ | ⟨_, _, rfl, rfl⟩
    · rw [h.dead.2 h0] at hd; cases hd
    · exact absurd ((hl.2 s (φ x)).2 ⟨x, hs, rfl⟩) (hno _)
    · refine ⟨rfl, φ, R, h.tick.did hf.tick (.remove s) (hl.del s) (fun u z hz => ?_)⟩
      simp only [Chg.app] at hz
      unfold delN at hz
      split at hz
      · cases hz
      · exact h.nowRef hf hz

theorem Sim.syncsDir (h : Sim φ R σ ρ) (hf : Fits K C L σ) {l : List Ent} (hl : EntsOf φ σ.now l) {e e' : Int} {σ' : Dk} {ρ' : Rf} (hc : σ.syncsDir e σ') (hr : RSyncDir ρ l e' ρ') : e = e' ∧ ∃ ψ R', Sim ψ R' σ' ρ' := by
  rcases hc with ⟨hd, rfl, rfl⟩ | ⟨hd, rfl, rfl⟩
  · rcases hr with ⟨_, rfl, rfl⟩ | ⟨h0, _⟩
    · exact ⟨rfl, φ, R, h.tick⟩
    · exact absurd (h.dead.1 hd) h0
  · rcases hr with ⟨h0, _⟩ | ⟨_, rfl, rfl⟩
    · rw [h.dead.2 h0] at hd; cases hd
    · exact ⟨rfl, φ, R, h.tick.flat _ (by rw [← hf.setNow] at hl; exact hl)⟩

end
end Go.Proofs.Ytegbkpjcjlihmaa
