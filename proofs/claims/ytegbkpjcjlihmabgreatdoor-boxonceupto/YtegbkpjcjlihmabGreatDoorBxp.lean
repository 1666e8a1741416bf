/-
  What Deliver and Clean do, plain.
-/
import Derived.Test.YtegbkpjcjlihmabGreatDoorBxa
import Derived.Test.YtegbkpjcjlihmabGreatDoorBxf
namespace Go.Proofs.YtegbkpjcjlihmabGreatDoor

/-- what is kept from σ0 on while a letter is laid under nm -/
structure Kpt (Lt : Text → Prop) (D : Text → Text) (K : List Text) (nm : Text) (σ0 σ : Dk) : Prop where
  boxed : Boxed Lt D σ
  fits : ∃ C L, Fits K C L σ
  stays : ∀ t, t ≠ freshT → Stays σ0 t → Stays σ t
  gone : ∀ t, t ≠ freshT → t ≠ nm → σ0.now t = none → σ.now t = none
  there : ∀ t, t ≠ freshT → (σ0.now t).isSome = true → (σ.now t).isSome = true
  left : σ0.left = none → σ.left = none

section
variable {Lt : Text → Prop} {D : Text → Text} {K : List Text} {nm : Text} {σ0 σ σ' : Dk} {k : Int} {x : Nat} {c t : Text}

theorem Kpt.refl {C L : Nat} (hb : Boxed Lt D σ) (hf : Fits K C L σ) : Kpt Lt D K nm σ σ :=
  ⟨hb, ⟨C, L, hf⟩, fun _ _ h => h, fun _ _ _ h => h, fun _ _ h => h, fun h => h⟩

theorem dead_left (h : σ.dead = true) : σ.left ≠ none := fun e => by simp [Dk.dead, e] at h
theorem tick_left (h : σ.left = none) : σ.tick.left = none := by simp [Dk.tick, h]

theorem step_create (I : Kpt Lt D K nm σ0 σ) (hK : freshT ∈ K) (hl : ¬ Lt freshT) (hn : σ.now freshT = none) (h : σ.creates freshT k σ') :
    Kpt Lt D K nm σ0 σ' ∧ ((k = 6 ∧ σ.left ≠ none) ∨ (k = 0 ∧ ∃ x, σ'.now freshT = some x ∧ σ'.cont x = [])) := by
  obtain ⟨C, L, hf⟩ := I.fits
  have hb' := I.boxed.creates hf hK hl h
  have hf' := hf.creates hK h
  have hs' : ∀ t, t ≠ freshT → Stays σ0 t → Stays σ' t := fun t ht h0 => (I.stays t ht h0).creates hf h
  rcases h with ⟨h1, h2, rfl⟩ | ⟨_, h1, _⟩ | ⟨_, _, x, hx, h2, rfl⟩
  · exact ⟨⟨hb', ⟨_, _, hf'⟩, hs', I.gone, I.there, fun e => tick_left (I.left e)⟩, .inl ⟨h2, dead_left h1⟩⟩
  · rw [hn] at h1; cases h1
  · have hput : ∀ t, t ≠ freshT → ((σ.tick.add x).did (.create freshT x)).now t = σ.now t := fun t ht => by
      show putN σ.now freshT x t = _
      unfold putN; rw [if_neg ht]
    refine ⟨⟨hb', ⟨_, _, hf'⟩, hs', fun t ht hm h0 => by rw [hput t ht]; exact I.gone t ht hm h0, fun t ht h0 => by rw [hput t ht]; exact I.there t ht h0, fun e => tick_left (I.left e)⟩, .inr ⟨h2, x, ?_, ?_⟩⟩
    · show putN σ.now freshT x freshT = some x
      unfold putN; rw [if_pos rfl]
    · exact upd_same _ _ _

theorem step_append (I : Kpt Lt D K nm σ0 σ) (hl : ¬ Lt freshT) (hx : σ.now freshT = some x) (hc : σ.cont x = c) (h : σ.appends freshT t k σ') :
    Kpt Lt D K nm σ0 σ' ∧ ((k = 6 ∧ σ.left ≠ none) ∨ (k = 0 ∧ σ'.now freshT = some x ∧ σ'.cont x = c ++ t)) := by
  obtain ⟨C, L, hf⟩ := I.fits
  have hb' := I.boxed.appends hl h
  have hf' := hf.appends h
  have hs' : ∀ t, t ≠ freshT → Stays σ0 t → Stays σ' t := fun t ht h0 => (I.stays t ht h0).appends h
  rcases h with ⟨h1, h2, rfl⟩ | ⟨_, h1, _⟩ | ⟨_, y, hy, h2, rfl⟩
  · exact ⟨⟨hb', ⟨_, _, hf'⟩, hs', I.gone, I.there, fun e => tick_left (I.left e)⟩, .inl ⟨h2, dead_left h1⟩⟩
  · rw [hx] at h1; cases h1
  · rw [hx] at hy
    obtain rfl := Option.some.inj hy
    refine ⟨⟨hb', ⟨_, _, hf'⟩, hs', I.gone, I.there, fun e => tick_left (I.left e)⟩, .inr ⟨h2, hx, ?_⟩⟩
    rw [← hc]; exact upd_same _ _ _

theorem step_sync (I : Kpt Lt D K nm σ0 σ) (hl : ¬ Lt freshT) (hx : σ.now freshT = some x) (hc : σ.cont x = c) (h : σ.syncs freshT k σ') :
    Kpt Lt D K nm σ0 σ' ∧ ((k = 6 ∧ σ.left ≠ none) ∨ (k = 0 ∧ σ'.now freshT = some x ∧ σ'.cont x = c ∧ σ'.sure x = c.length)) := by
  obtain ⟨C, L, hf⟩ := I.fits
  have hb' := I.boxed.syncs hl h
  have hf' := hf.syncs h
  have hs' : ∀ t, t ≠ freshT → Stays σ0 t → Stays σ' t := fun t ht h0 => (I.stays t ht h0).syncs h
  rcases h with ⟨h1, h2, rfl⟩ | ⟨_, h1, _⟩ | ⟨_, y, hy, h2, rfl⟩
  · exact ⟨⟨hb', ⟨_, _, hf'⟩, hs', I.gone, I.there, fun e => tick_left (I.left e)⟩, .inl ⟨h2, dead_left h1⟩⟩
  · rw [hx] at h1; cases h1
  · rw [hx] at hy
    obtain rfl := Option.some.inj hy
    refine ⟨⟨hb', ⟨_, _, hf'⟩, hs', I.gone, I.there, fun e => tick_left (I.left e)⟩, .inr ⟨h2, hx, ?_, ?_⟩⟩
    · rw [← hc]; exact upd_same _ _ _
    · rw [← hc]; exact upd_same _ _ _

theorem step_rename (I : Kpt Lt D K nm σ0 σ) (hK : nm ∈ K) (hl : ¬ Lt freshT) (hx : σ.now freshT = some x) (hc : σ.cont x = D nm) (hs : σ.sure x = (D nm).length) (_hne : nm ≠ freshT) (h : σ.renames freshT nm k σ') :
    Kpt Lt D K nm σ0 σ' ∧ ((k = 6 ∧ σ.left ≠ none) ∨ (k = 0 ∧ (σ'.now nm).isSome = true)) := by
  obtain ⟨C, L, hf⟩ := I.fits
  have hb' := I.boxed.renames hf hK hl (fun _ y hy => by rw [hx] at hy; obtain rfl := Option.some.inj hy; exact ⟨hc, hs⟩) h
  have hf' := hf.renames hK h
  have hs' : ∀ t, t ≠ freshT → Stays σ0 t → Stays σ' t := fun t ht h0 => (I.stays t ht h0).renames hf ht h
  rcases h with ⟨h1, h2, rfl⟩ | ⟨_, h1, _⟩ | ⟨_, y, hy, h2, rfl⟩
  · exact ⟨⟨hb', ⟨_, _, hf'⟩, hs', I.gone, I.there, fun e => tick_left (I.left e)⟩, .inl ⟨h2, dead_left h1⟩⟩
  · rw [hx] at h1; cases h1
  · have hput : ∀ t, t ≠ freshT → t ≠ nm → (σ.tick.did (.rename freshT nm y)).now t = σ.now t := fun t ht hm => by
      show putN (delN σ.now freshT) nm y t = _
      unfold putN delN; rw [if_neg hm, if_neg ht]
    have hnm : ((σ.tick.did (.rename freshT nm y)).now nm).isSome = true := by
      show (putN (delN σ.now freshT) nm y nm).isSome = true
      unfold putN; rw [if_pos rfl]; rfl
    refine ⟨⟨hb', ⟨_, _, hf'⟩, hs', fun t ht hm h0 => by rw [hput t ht hm]; exact I.gone t ht hm h0, fun t ht h0 => ?_, fun e => tick_left (I.left e)⟩, .inr ⟨h2, hnm⟩⟩
    by_cases hm : t = nm
    · rw [hm]; exact hnm
    · rw [hput t ht hm]; exact I.there t ht h0

theorem step_remove (I : Kpt Lt D K nm σ0 σ) (hl : ¬ Lt freshT) (hx : (σ.now freshT).isSome = true) (h : σ.removes freshT k σ') :
    Kpt Lt D K nm σ0 σ' ∧ ((k = 6 ∧ σ.left ≠ none) ∨ (k = 0 ∧ σ'.now freshT = none)) := by
  obtain ⟨C, L, hf⟩ := I.fits
  have hb' := I.boxed.removes hf hl h
  have hf' := hf.removes h
  have hs' : ∀ t, t ≠ freshT → Stays σ0 t → Stays σ' t := fun t ht h0 => (I.stays t ht h0).removes hf ht h
  rcases h with ⟨h1, h2, rfl⟩ | ⟨_, h1, _⟩ | ⟨_, y, hy, h2, rfl⟩
  · exact ⟨⟨hb', ⟨_, _, hf'⟩, hs', I.gone, I.there, fun e => tick_left (I.left e)⟩, .inl ⟨h2, dead_left h1⟩⟩
  · rw [h1] at hx; cases hx
  · have hput : ∀ t, t ≠ freshT → (σ.tick.did (.remove freshT)).now t = σ.now t := fun t ht => by
      show delN σ.now freshT t = _
      unfold delN; rw [if_neg ht]
    refine ⟨⟨hb', ⟨_, _, hf'⟩, hs', fun t ht hm h0 => by rw [hput t ht]; exact I.gone t ht hm h0, fun t ht h0 => by rw [hput t ht]; exact I.there t ht h0, fun e => tick_left (I.left e)⟩, .inr ⟨h2, ?_⟩⟩
    show delN σ.now freshT freshT = none
    unfold delN; rw [if_pos rfl]

theorem step_syncDir (I : Kpt Lt D K nm σ0 σ) (h : σ.syncsDir k σ') :
    Kpt Lt D K nm σ0 σ' ∧ ((k = 6 ∧ σ.left ≠ none) ∨ (k = 0 ∧ σ'.now = σ.now ∧ ∀ t, (σ.now t).isSome = true → Stays σ' t)) := by
  obtain ⟨C, L, hf⟩ := I.fits
  have hb' := I.boxed.syncsDir h
  have hf' := hf.syncsDir h
  have hs' : ∀ t, t ≠ freshT → Stays σ0 t → Stays σ' t := fun t ht h0 => (I.stays t ht h0).syncsDir h
  have hst := fun t (he : k = 0) (ht : (σ.now t).isSome = true) => stays_of_syncsDir hf h he ht
  rcases h with ⟨h1, h2, rfl⟩ | ⟨_, h2, rfl⟩
  · exact ⟨⟨hb', ⟨_, _, hf'⟩, hs', I.gone, I.there, fun e => tick_left (I.left e)⟩, .inl ⟨h2, dead_left h1⟩⟩
  · exact ⟨⟨hb', ⟨_, _, hf'⟩, hs', I.gone, I.there, fun e => tick_left (I.left e)⟩, .inr ⟨h2, rfl, fun t ht => hst t h2 ht⟩⟩

/-- what Deliver leaves -/
def Left (nm : Text) (σ : Dk) (e : Int) (σ' : Dk) : Prop := (e = 6 ∧ σ.left ≠ none) ∨ (e = 0 ∧ (σ'.now nm).isSome = true ∧ Stays σ' nm)

theorem six_of {σ1 : Dk} (I : Kpt Lt D K nm σ0 σ1) (h : σ1.left ≠ none) : σ0.left ≠ none := fun e => h (I.left e)

theorem lay_plain (I : Kpt Lt D K nm σ0 σ) (hK : freshT ∈ K) (hnK : nm ∈ K) (hl : ¬ Lt freshT) (hne : nm ≠ freshT) (hn : σ.now freshT = none) (h : runs [createR, appendR (D nm), syncR, renameR nm, syncDirR] σ k σ') :
    Kpt Lt D K nm σ0 σ' ∧ Left nm σ0 k σ' := by
  obtain ⟨k1, σ1, h1, h⟩ := h
  obtain ⟨I1, c1⟩ := step_create I hK hl hn h1
  rcases c1 with ⟨e1, l1⟩ | ⟨e1, x, hx, hc⟩
  · rcases h with ⟨e, _⟩ | ⟨_, rfl, rfl⟩
    · omega
    · exact ⟨I1, .inl ⟨e1, six_of I l1⟩⟩
  · rcases h with ⟨_, h⟩ | ⟨e, _⟩
    rotate_left
    · exact absurd e1 e
    obtain ⟨k2, σ2, h2, h⟩ := h
    obtain ⟨I2, c2⟩ := step_append I1 hl hx hc h2
    rcases c2 with ⟨e2, l2⟩ | ⟨e2, hx2, hc2⟩
    · rcases h with ⟨e, _⟩ | ⟨_, rfl, rfl⟩
      · omega
      · exact ⟨I2, .inl ⟨e2, six_of I1 l2⟩⟩
    · rcases h with ⟨_, h⟩ | ⟨e, _⟩
      rotate_left
      · exact absurd e2 e
      obtain ⟨k3, σ3, h3, h⟩ := h
      obtain ⟨I3, c3⟩ := step_sync I2 hl hx2 hc2 h3
      rcases c3 with ⟨e3, l3⟩ | ⟨e3, hx3, hc3, hs3⟩
      · rcases h with ⟨e, _⟩ | ⟨_, rfl, rfl⟩
        · omega
        · exact ⟨I3, .inl ⟨e3, six_of I2 l3⟩⟩
      · rcases h with ⟨_, h⟩ | ⟨e, _⟩
        rotate_left
        · exact absurd e3 e
        obtain ⟨k4, σ4, h4, h⟩ := h
        obtain ⟨I4, c4⟩ := step_rename I3 hnK hl hx3 (by rw [hc3]; rfl) (by rw [hs3]; rfl) hne h4
        rcases c4 with ⟨e4, l4⟩ | ⟨e4, hn4⟩
        · rcases h with ⟨e, _⟩ | ⟨_, rfl, rfl⟩
          · omega
          · exact ⟨I4, .inl ⟨e4, six_of I3 l4⟩⟩
        · rcases h with ⟨_, h⟩ | ⟨e, _⟩
          rotate_left
          · exact absurd e4 e
          obtain ⟨k5, σ5, h5, h⟩ := h
          obtain ⟨I5, c5⟩ := step_syncDir I4 h5
          rcases c5 with ⟨e5, l5⟩ | ⟨e5, hn5, hs5⟩
          · rcases h with ⟨e, _⟩ | ⟨_, rfl, rfl⟩
            · omega
            · exact ⟨I5, .inl ⟨e5, six_of I4 l5⟩⟩
          · rcases h with ⟨_, rfl, rfl⟩ | ⟨e, _⟩
            rotate_left
            · exact absurd e5 e
            exact ⟨I5, .inr ⟨rfl, by rw [hn5]; exact hn4, hs5 nm hn4⟩⟩

theorem deliver_plain {C L : Nat} (hb : Boxed Lt D σ) (hf : Fits K C L σ) (hK : freshT ∈ K) (hnK : nm ∈ K) (hl : ¬ Lt freshT) (hne : nm ≠ freshT) (hD : (σ.now nm).isSome = false → t = D nm) (h : σ.delivers nm t k σ') :
    Kpt Lt D K nm σ σ' ∧ Left nm σ k σ' := by
  have I := Kpt.refl (nm := nm) hb hf
  unfold Dk.delivers at h
  cases hn : (σ.now nm).isSome with
  | true =>
    rw [if_pos hn] at h
    obtain ⟨k1, σ1, h1, h⟩ := h
    obtain ⟨I1, c1⟩ := step_syncDir I h1
    rcases c1 with ⟨e1, l1⟩ | ⟨e1, hn1, hs1⟩
    · rcases h with ⟨e, _⟩ | ⟨_, rfl, rfl⟩
      · omega
      · exact ⟨I1, .inl ⟨e1, l1⟩⟩
    · rcases h with ⟨_, rfl, rfl⟩ | ⟨e, _⟩
      rotate_left
      · exact absurd e1 e
      exact ⟨I1, .inr ⟨rfl, by rw [hn1]; exact hn, hs1 nm hn⟩⟩
  | false =>
    rw [if_neg (by rw [hn]; exact Bool.false_ne_true), hD hn] at h
    unfold Dk.sweeps at h
    cases hfr : (σ.now freshT).isSome with
    | false =>
      rw [if_neg (by rw [hfr]; exact Bool.false_ne_true)] at h
      exact lay_plain I hK hnK hl hne (Option.not_isSome_iff_eq_none.1 (by rw [hfr]; exact Bool.false_ne_true)) h
    | true =>
      rw [if_pos hfr] at h
      obtain ⟨k1, σ1, h1, h⟩ := h
      obtain ⟨I1, c1⟩ := step_remove I hl hfr h1
      rcases c1 with ⟨e1, l1⟩ | ⟨e1, hn1⟩
      · rcases h with ⟨e, _⟩ | ⟨_, rfl, rfl⟩
        · omega
        · exact ⟨I1, .inl ⟨e1, l1⟩⟩
      · rcases h with ⟨_, h⟩ | ⟨e, _⟩
        rotate_left
        · exact absurd e1 e
        exact lay_plain I1 hK hnK hl hne hn1 h

theorem clean_plain {C L : Nat} (hb : Boxed Lt D σ) (hf : Fits K C L σ) (hl : ¬ Lt freshT) (h : σ.cleans k σ') :
    Kpt Lt D K freshT σ σ' ∧ ((k = 6 ∧ σ.left ≠ none) ∨ (k = 0 ∧ σ'.now freshT = none)) := by
  have I := Kpt.refl (nm := freshT) hb hf
  unfold Dk.cleans Dk.sweeps at h
  cases hfr : (σ.now freshT).isSome with
  | false =>
    rw [if_neg (by rw [hfr]; exact Bool.false_ne_true)] at h
    obtain ⟨k1, σ1, h1, h⟩ := h
    obtain ⟨I1, c1⟩ := step_syncDir I h1
    rcases c1 with ⟨e1, l1⟩ | ⟨e1, hn1, hs1⟩
    · rcases h with ⟨e, _⟩ | ⟨_, rfl, rfl⟩
      · omega
      · exact ⟨I1, .inl ⟨e1, l1⟩⟩
    · rcases h with ⟨_, rfl, rfl⟩ | ⟨e, _⟩
      rotate_left
      · exact absurd e1 e
      exact ⟨I1, .inr ⟨rfl, by rw [hn1]; exact Option.not_isSome_iff_eq_none.1 (by rw [hfr]; exact Bool.false_ne_true)⟩⟩
  | true =>
    rw [if_pos hfr] at h
    obtain ⟨k1, σ1, h1, h⟩ := h
    obtain ⟨I1, c1⟩ := step_remove I hl hfr h1
    rcases c1 with ⟨e1, l1⟩ | ⟨e1, hn1⟩
    · rcases h with ⟨e, _⟩ | ⟨_, rfl, rfl⟩
      · omega
      · exact ⟨I1, .inl ⟨e1, l1⟩⟩
    · rcases h with ⟨_, h⟩ | ⟨e, _⟩
      rotate_left
      · exact absurd e1 e
      obtain ⟨k2, σ2, h2, h⟩ := h
      obtain ⟨I2, c2⟩ := step_syncDir I1 h2
      rcases c2 with ⟨e2, l2⟩ | ⟨e2, hn2, hs2⟩
      · rcases h with ⟨e, _⟩ | ⟨_, rfl, rfl⟩
        · omega
        · exact ⟨I2, .inl ⟨e2, six_of I1 l2⟩⟩
      · rcases h with ⟨_, rfl, rfl⟩ | ⟨e, _⟩
        rotate_left
        · exact absurd e2 e
        exact ⟨I2, .inr ⟨rfl, by rw [hn2]; exact hn1⟩⟩

end
end Go.Proofs.YtegbkpjcjlihmabGreatDoor
