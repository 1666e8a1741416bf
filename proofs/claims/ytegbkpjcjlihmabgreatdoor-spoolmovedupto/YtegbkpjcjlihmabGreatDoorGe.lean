/-
  What holds of a disk, whatever was called. | The calls, of a disk that was made behind w.
-/
import Derived.Test.YtegbkpjcjlihmabGreatDoorGd
namespace Go.Proofs.YtegbkpjcjlihmabGreatDoor
open Go.RowKit Go.Maps

structure Fits (K : List Text) (C L : Nat) (σ : Dk) : Prop where
  setK : ∀ i s, ((σ.settled i).safe s).isSome = true → s ∈ K
  setIn : ∀ i s x, (σ.settled i).safe s = some x → x ∈ σ.files
  setInj : ∀ i s t x, (σ.settled i).safe s = some x → (σ.settled i).safe t = some x → s = t
  setNow : (σ.settled σ.chs.length).safe = σ.now
  chgs : σ.chs.length ≤ C
  sizes : Sizes σ L
  left : ∀ l, σ.left = some l → l < 9223372036854775808

theorem Fits.empty (K : List Text) (C L : Nat) : Fits K C L Dk.empty := by
  have e : ∀ i, (Dk.empty.settled i).safe = fun _ => none := fun i => by simp [Dk.settled, Dk.empty, appAll]
  exact {
    setK := fun i s h => by rw [e] at h; cases h
    setIn := fun i s x h => by rw [e] at h; cases h
    setInj := fun i s t x h => by rw [e] at h; cases h
    setNow := e _
    chgs := Nat.zero_le _
    sizes := fun x hx => by cases hx
    left := fun l h => by cases h }

section
variable {K : List Text} {C L : Nat} {σ : Dk}

theorem Fits.nowK (h : Fits K C L σ) : ∀ s, (σ.now s).isSome = true → s ∈ K := fun s hs => h.setK σ.chs.length s (by rw [h.setNow]; exact hs)
theorem Fits.nowIn (h : Fits K C L σ) : ∀ s x, σ.now s = some x → x ∈ σ.files := fun s x hs => h.setIn σ.chs.length s x (by rw [h.setNow]; exact hs)
theorem Fits.nowInj (h : Fits K C L σ) : ∀ s t x, σ.now s = some x → σ.now t = some x → s = t := fun s t x hs ht => h.setInj σ.chs.length s t x (by rw [h.setNow]; exact hs) (by rw [h.setNow]; exact ht)

theorem Fits.mono (h : Fits K C L σ) {C' L' : Nat} (hC : C ≤ C') (hL : L ≤ L') : Fits K C' L' σ :=
  ⟨h.setK, h.setIn, h.setInj, h.setNow, Nat.le_trans h.chgs hC, fun x hx => ⟨(h.sizes x hx).1, Nat.le_trans (h.sizes x hx).2 hL⟩, h.left⟩

theorem Fits.setLeft (h : Fits K C L σ) (l : Option Nat) (hl : ∀ k, l = some k → k < 9223372036854775808) : Fits K C L { σ with left := l } :=
  ⟨h.setK, h.setIn, h.setInj, h.setNow, h.chgs, h.sizes, hl⟩

theorem Fits.tick (h : Fits K C L σ) : Fits K C L σ.tick := by
  refine h.setLeft _ (fun k hk => ?_)
  obtain ⟨l, hl, rfl⟩ := Option.map_eq_some_iff.1 hk
  have := h.left l hl
  omega

theorem Fits.wrote (h : Fits K C L σ) (x : Nat) {c : Text} {m : Nat} (hm : m ≤ c.length) (hc : c.length ≤ L) : Fits K C L (σ.wrote x c m) :=
  ⟨h.setK, h.setIn, h.setInj, h.setNow, h.chgs, h.sizes.wrote x hm hc, h.left⟩

theorem Fits.add (h : Fits K C L σ) (x : Nat) : Fits K C L (σ.add x) := by
  refine ⟨h.setK, fun i s y hy => List.mem_cons_of_mem _ (h.setIn i s y hy), h.setInj, h.setNow, h.chgs, fun y hy => ?_, h.left⟩
  by_cases e : y = x
  · subst e
    simp [Dk.add, upd_same]
  · simp only [Dk.add, upd_other _ _ e]
    exact h.sizes y (List.mem_of_ne_of_mem e hy)

theorem did_settled (h : Fits K C L σ) (c : Chg) (i : Nat) : ((σ.did c).settled i).safe = if i ≤ σ.chs.length then (σ.settled i).safe else c.app σ.now := by
  simp only [Dk.settled, Dk.did]
  split
  · rw [List.take_append_of_le_length (by assumption)]
  · rename_i hi
    rw [List.take_of_length_le (by simp; omega)]
    have := h.setNow
    simp only [Dk.settled, List.take_length] at this
    simp only [appAll] at this ⊢
    rw [List.foldl_append, this]
    rfl

theorem Fits.did (h : Fits K C L σ) (c : Chg) (hK : ∀ s, (c.app σ.now s).isSome = true → s ∈ K) (hIn : ∀ s x, c.app σ.now s = some x → x ∈ σ.files) (hInj : ∀ s t x, c.app σ.now s = some x → c.app σ.now t = some x → s = t) : Fits K (C + 1) L (σ.did c) := by
  refine ⟨fun i s hs => ?_, fun i s x hs => ?_, fun i s t x hs ht => ?_, ?_, ?_, h.sizes, h.left⟩
  · rw [did_settled h] at hs
    split at hs
    · exact h.setK i s hs
    · exact hK s hs
  · rw [did_settled h] at hs
    split at hs
    · exact h.setIn i s x hs
    · exact hIn s x hs
  · rw [did_settled h] at hs ht
    split at hs
    · rename_i hi
      rw [if_pos hi] at ht
      exact h.setInj i s t x hs ht
    · rename_i hi
      rw [if_neg hi] at ht
      exact hInj s t x hs ht
  · rw [did_settled h, if_neg (by simp [Dk.did])]
    rfl
  · have := h.chgs
    simp [Dk.did]
    omega

theorem flat_settled (σ : Dk) (h : σ.chs = []) (i : Nat) : (σ.settled i).safe = σ.safe := by simp [Dk.settled, h, appAll]

theorem Fits.synced (h : Fits K C L σ) (i : Nat) (hn : σ.now = (σ.settled i).safe) : Fits K C L { σ.settled i with chs := [] } := by
  have e : ∀ j, (({ σ.settled i with chs := [] } : Dk).settled j).safe = (σ.settled i).safe := fun j => flat_settled _ rfl j
  refine ⟨fun j s hs => ?_, fun j s x hs => ?_, fun j s t x hs ht => ?_, ?_, Nat.zero_le _, h.sizes, h.left⟩
  · rw [e] at hs; exact h.setK i s hs
  · rw [e] at hs; exact h.setIn i s x hs
  · rw [e] at hs ht; exact h.setInj i s t x hs ht
  · rw [e]; exact hn.symm

theorem Fits.crashed (h : Fits K C L σ) (i : Nat) (ks : List Text) (ts : List Int) : Fits K C L (σ.crashed i ks ts) := by
  obtain ⟨τ, hτ⟩ : ∃ τ : Dk, τ = { σ.settled i with chs := [] } := ⟨_, rfl⟩
  have hs := cr_safe τ ks ts ks.length
  have e0 : (σ.crashed i ks ts) = { τ.cr ks ts ks.length with now := (τ.cr ks ts ks.length).safe, left := none, chs := [] } := by rw [hτ]; rfl
  have hts : τ.safe = (σ.settled i).safe := by rw [hτ]
  have htf : τ.files = σ.files := by rw [hτ]; rfl
  have e : ∀ j, ((σ.crashed i ks ts).settled j).safe = (σ.settled i).safe := fun j => by
    rw [flat_settled _ (by rw [e0])]
    rw [e0]
    show (τ.cr ks ts ks.length).safe = _
    rw [hs.1, hts]
  have ef : (σ.crashed i ks ts).files = σ.files := by rw [e0]; show (τ.cr ks ts ks.length).files = _; rw [hs.2.1, htf]
  refine ⟨fun j s hs => ?_, fun j s x hs => ?_, fun j s t x hs ht => ?_, ?_, ?_, ?_, ?_⟩
  · rw [e] at hs; exact h.setK i s hs
  · rw [e] at hs; rw [ef]; exact h.setIn i s x hs
  · rw [e] at hs ht; exact h.setInj i s t x hs ht
  · rw [e, e0]
    show _ = (τ.cr ks ts ks.length).safe
    rw [hs.1, hts]
  · rw [e0]; exact Nat.zero_le _
  · rw [e0]
    have h1 : Sizes τ L := by rw [hτ]; exact h.sizes
    exact h1.cr (fun s x hx => by rw [htf]; rw [hts] at hx; exact h.setIn i s x hx) ks ts ks.length
  · rw [e0]; intro l hl; cases hl

/-! the calls -/

theorem Fits.creates (h : Fits K C L σ) {s : Text} (hs : s ∈ K) {e : Int} {σ' : Dk} (hc : σ.creates s e σ') : Fits K (C + 1) L σ' := by
  rcases hc with ⟨_, _, rfl⟩ | ⟨_, _, _, rfl⟩ | ⟨_, hn, x, hx, _, rfl⟩
  · exact h.tick.mono (by omega) (Nat.le_refl _)
  · exact h.tick.mono (by omega) (Nat.le_refl _)
  · refine (h.tick.add x).did _ ?_ ?_ ?_
    · exact put_in h.nowK hs x
    · intro t y hy
      simp only [Chg.app, putN] at hy
      split at hy
      · rw [← Option.some.inj hy]; exact List.mem_cons_self
      · exact List.mem_cons_of_mem _ (h.nowIn t y hy)
    · intro t u y ht hu
      simp only [Chg.app, putN] at ht hu
      split at ht
      · rename_i e1
        split at hu
        · rename_i e2; rw [e1, e2]
        · exact absurd (h.nowIn u y hu) (by rw [← Option.some.inj ht]; exact hx)
      · split at hu
        · exact absurd (h.nowIn t y ht) (by rw [← Option.some.inj hu]; exact hx)
        · exact h.nowInj t u y ht hu

theorem Fits.appends (h : Fits K C L σ) {s t : Text} {e : Int} {σ' : Dk} (hc : σ.appends s t e σ') : Fits K C (L + t.length) σ' := by
  rcases hc with ⟨_, _, rfl⟩ | ⟨_, _, _, rfl⟩ | ⟨_, x, hx, _, rfl⟩
  · exact h.tick.mono (Nat.le_refl _) (by omega)
  · exact h.tick.mono (Nat.le_refl _) (by omega)
  · have := h.sizes x (h.nowIn s x hx)
    exact (h.tick.mono (Nat.le_refl _) (by omega)).wrote x (by simp; omega) (by simp; omega)

theorem Fits.syncs (h : Fits K C L σ) {s : Text} {e : Int} {σ' : Dk} (hc : σ.syncs s e σ') : Fits K C L σ' := by
  rcases hc with ⟨_, _, rfl⟩ | ⟨_, _, _, rfl⟩ | ⟨_, x, hx, _, rfl⟩
  · exact h.tick
  · exact h.tick
  · have := h.sizes x (h.nowIn s x hx)
    exact h.tick.wrote x (Nat.le_refl _) this.2

theorem Fits.removes (h : Fits K C L σ) {s : Text} {e : Int} {σ' : Dk} (hc : σ.removes s e σ') : Fits K (C + 1) L σ' := by
  rcases hc with ⟨_, _, rfl⟩ | ⟨_, _, _, rfl⟩ | ⟨_, x, hx, _, rfl⟩
  · exact h.tick.mono (by omega) (Nat.le_refl _)
  · exact h.tick.mono (by omega) (Nat.le_refl _)
  · refine h.tick.did _ (del_in h.nowK _) ?_ ?_
    · intro t y hy
      simp only [Chg.app, delN] at hy
      split at hy
      · cases hy
      · exact h.nowIn t y hy
    · intro t u y ht hu
      simp only [Chg.app, delN] at ht hu
      split at ht
      · cases ht
      · split at hu
        · cases hu
        · exact h.nowInj t u y ht hu

theorem Fits.renames (h : Fits K C L σ) {s t : Text} (ht : t ∈ K) {e : Int} {σ' : Dk} (hc : σ.renames s t e σ') : Fits K (C + 1) L σ' := by
  rcases hc with ⟨_, _, rfl⟩ | ⟨_, _, _, rfl⟩ | ⟨_, x, hx, _, rfl⟩
  · exact h.tick.mono (by omega) (Nat.le_refl _)
  · exact h.tick.mono (by omega) (Nat.le_refl _)
  · have hne : ∀ u, delN σ.now s u = some x → False := fun u hu => by
      unfold delN at hu
      split at hu
      · cases hu
      · rename_i e; exact e (h.nowInj u s x hu hx)
    refine h.tick.did _ (put_in (del_in h.nowK _) ht x) ?_ ?_
    · intro u y hy
      simp only [Chg.app, putN] at hy
      split at hy
      · rw [← Option.some.inj hy]; exact h.nowIn s x hx
      · unfold delN at hy
        split at hy
        · cases hy
        · exact h.nowIn u y hy
    · intro u v y hu hv
      simp only [Chg.app, putN] at hu hv
      split at hu
      · rename_i e1
        split at hv
        · rename_i e2; rw [e1, e2]
        · rw [← Option.some.inj hu] at hv
          exact (hne v hv).elim
      · split at hv
        · rw [← Option.some.inj hv] at hu
          exact (hne u hu).elim
        · unfold delN at hu hv
          split at hu
          · cases hu
          · split at hv
            · cases hv
            · exact h.nowInj u v y hu hv

theorem Fits.syncsDir (h : Fits K C L σ) {e : Int} {σ' : Dk} (hc : σ.syncsDir e σ') : Fits K C L σ' := by
  rcases hc with ⟨_, _, rfl⟩ | ⟨_, _, rfl⟩
  · exact h.tick
  · exact h.tick.synced _ h.setNow.symm

end
end Go.Proofs.YtegbkpjcjlihmabGreatDoor

namespace Go.Proofs.YtegbkpjcjlihmabGreatDoor
open Go.RowKit Go.Maps

/-- a disk that was made behind w, and what has been done to it -/
def Live (w wr : World) (A : Nat → Prop) (d : Nat) (K : List Text) (C L : Nat) (σ : Dk) : Prop :=
  (∀ k, A k → w.heap.size ≤ k ∧ k < wr.heap.size) ∧ DiskAt wr A d K.length σ ∧ Fits K C L σ ∧ Fresh w wr

theorem Live.next {w wr w1 : World} {A : Nat → Prop} {d : Nat} {K : List Text} {C L C' L' : Nat} {σ σ' : Dk} (h : Live w wr A d K C L σ) (hd : DiskAt w1 (ext A wr w1) d K.length σ') (k : Keeps A wr w1) (hf : Fits K C' L' σ') : Live w w1 (ext A wr w1) d K C' L' σ' := by
  obtain ⟨h1, _, _, h4⟩ := h
  have := h4.size
  have := k.size
  refine ⟨fun i hi => ?_, hd, hf, h4.then k (fun i hi e => ?_)⟩
  · rcases hi with hi | hi
    · have := h1 i hi; exact ⟨this.1, by omega⟩
    · exact ⟨by omega, hi.2⟩
  · have := (h1 i e).1; omega

theorem Live.fresh {w wr w1 : World} {A : Nat → Prop} {d : Nat} {K : List Text} {C L : Nat} {σ : Dk} (h : Live w wr A d K C L σ) (k : Fresh wr w1) : Live w w1 A d K C L σ := by
  obtain ⟨h1, h2, h3, h4⟩ := h
  have := k.size
  exact ⟨fun i hi => ⟨(h1 i hi).1, by have := (h1 i hi).2; omega⟩, h2.fresh k, h3, h4.trans k⟩

/-- something else is written -/
theorem Live.side {w wr w1 : World} {A S : Nat → Prop} {d : Nat} {K : List Text} {C L : Nat} {σ : Dk} (h : Live w wr A d K C L σ) (k : Keeps S wr w1) (hS : ∀ i, A i → ¬ S i) (hw : ∀ i, S i → w.heap.size ≤ i) : Live w w1 A d K C L σ := by
  obtain ⟨h1, h2, h3, h4⟩ := h
  have := k.size
  exact ⟨fun i hi => ⟨(h1 i hi).1, by have := (h1 i hi).2; omega⟩, h2.kept k hS (fun _ h => h), h3, h4.then k (fun i hi e => by have := hw i e; omega)⟩

/-- more blocks are the disk's -/
theorem Live.grow {w wr : World} {A A' : Nat → Prop} {d : Nat} {K : List Text} {C L : Nat} {σ : Dk} (h : Live w wr A d K C L σ) (hA : ∀ i, A i → A' i) (hb : ∀ i, A' i → w.heap.size ≤ i ∧ i < wr.heap.size) : Live w wr A' d K C L σ := by
  obtain ⟨_, ⟨mn, ms, cv, vals, bv, h2⟩, h3, h4⟩ := h
  exact ⟨hb, ⟨mn, ms, cv, vals, bv, h2.grow hA⟩, h3, h4⟩

theorem Live.mono {w wr : World} {A : Nat → Prop} {d : Nat} {K : List Text} {C L C' L' : Nat} {σ : Dk} (h : Live w wr A d K C L σ) (hC : C ≤ C') (hL : L ≤ L') : Live w wr A d K C' L' σ :=
  ⟨h.1, h.2.1, h.2.2.1.mono hC hL, h.2.2.2⟩

/-- two calls in a row -/
theorem Keeps.exts {A : Nat → Prop} {a b c : World} (h : Keeps A a b) (k : Keeps (ext A a b) b c) : Keeps A a c :=
  h.then k (fun i hi e => e.elim (fun e => e) (fun e => by omega))

theorem ext_ext {A : Nat → Prop} {a b c : World} (h : a.heap.size ≤ b.heap.size) (k : b.heap.size ≤ c.heap.size) : ext (ext A a b) b c = ext A a c := by
  funext i
  refine propext ⟨fun e => ?_, fun e => ?_⟩
  · rcases e with (e | e) | e
    · exact .inl e
    · exact .inr ⟨e.1, by omega⟩
    · exact .inr ⟨by omega, e.2⟩
  · rcases e with e | e
    · exact .inl (.inl e)
    · by_cases hi : i < b.heap.size
      · exact .inl (.inr ⟨e.1, hi⟩)
      · exact .inr ⟨by omega, e.2⟩

theorem ext_not {A : Nat → Prop} {a b : World} {i : Nat} (h : ¬ A i) (hi : i < a.heap.size) : ¬ ext A a b i := fun e => e.elim h (fun e => by omega)

section
variable {w wr : World} {A : Nat → Prop} {d : Nat} {σ : Dk} {K : List Text} {C L : Nat}

theorem new_live (K : List Text) (w wr : World) (hF : Fresh w wr) : Calls Tryz.prog 13 #[] wr fun e w' => ∃ d, e = .returned (ptr d) ∧ Live w w' (ext (fun _ => False) wr w') d K 0 0 Dk.empty ∧ Fresh wr w' := by
  refine (new_any K.length wr).mono ?_
  rintro e w' ⟨d, rfl, hd, k⟩
  have := hF.size
  refine ⟨d, rfl, ⟨fun i hi => ?_, hd, Fits.empty _ _ _, hF.trans k⟩, k⟩
  rcases hi with hi | hi
  · exact hi.elim
  · exact ⟨by omega, hi.2⟩

theorem Live.create (h : Live w wr A d K C L σ) (hKl : K.length ≤ 1099511627776) (hC : C ≤ 1099511627776) (s : ByteArray) (hs : s.size ≤ maxLen) (hsK : s.data.toList ∈ K) :
    Calls Tryz.prog 16 #[ptr d, .string s] wr fun e w' => ∃ k σ', e = .returned (.int .i64 k) ∧ σ.creates s.data.toList k σ' ∧ Live w w' (ext A wr w') d K (C + 1) L σ' ∧ Keeps A wr w' := by
  obtain ⟨_, _, _, _, _, hi⟩ := h.2.1
  have hf := h.2.2.1
  refine (create_any hi hf.left hf.nowK hKl (Nat.le_trans hf.chgs hC) s hs hsK).mono ?_
  rintro e w' ⟨k, σ', rfl, h1, h2, h3⟩
  exact ⟨k, σ', rfl, h1, h.next h2 h3 (hf.creates hsK h1), h3⟩

theorem Live.append (h : Live w wr A d K C L σ) (hL : L ≤ 1099511627776) (s t : ByteArray) (hs : s.size ≤ maxLen) (ht : t.size ≤ 1099511627776) :
    Calls Tryz.prog 17 #[ptr d, .string s, .string t] wr fun e w' => ∃ k σ', e = .returned (.int .i64 k) ∧ σ.appends s.data.toList t.data.toList k σ' ∧ Live w w' (ext A wr w') d K C (L + t.size) σ' ∧ Keeps A wr w' := by
  obtain ⟨_, _, _, _, _, hi⟩ := h.2.1
  have hf := h.2.2.1
  refine (append_any hi hf.left hf.nowIn s t hs (fun x hx => by have := (hf.sizes x hx).2; omega)).mono ?_
  rintro e w' ⟨k, σ', rfl, h1, h2, h3⟩
  have := hf.appends h1
  rw [Array.length_toList] at this
  exact ⟨k, σ', rfl, h1, h.next h2 h3 this, h3⟩

theorem Live.sync (h : Live w wr A d K C L σ) (s : ByteArray) (hs : s.size ≤ maxLen) :
    Calls Tryz.prog 59 #[ptr d, .string s] wr fun e w' => ∃ k σ', e = .returned (.int .i64 k) ∧ σ.syncs s.data.toList k σ' ∧ Live w w' (ext A wr w') d K C L σ' ∧ Keeps A wr w' := by
  obtain ⟨_, _, _, _, _, hi⟩ := h.2.1
  have hf := h.2.2.1
  refine (sync_any hi hf.left hf.nowIn s hs).mono ?_
  rintro e w' ⟨k, σ', rfl, h1, h2, h3⟩
  exact ⟨k, σ', rfl, h1, h.next h2 h3 (hf.syncs h1), h3⟩

theorem Live.remove (h : Live w wr A d K C L σ) (hKl : K.length ≤ 1099511627776) (hC : C ≤ 1099511627776) (s : ByteArray) (hs : s.size ≤ maxLen) :
    Calls Tryz.prog 91 #[ptr d, .string s] wr fun e w' => ∃ k σ', e = .returned (.int .i64 k) ∧ σ.removes s.data.toList k σ' ∧ Live w w' (ext A wr w') d K (C + 1) L σ' ∧ Keeps A wr w' := by
  obtain ⟨_, _, _, _, _, hi⟩ := h.2.1
  have hf := h.2.2.1
  refine (remove_any hi hf.left hf.nowK hKl (Nat.le_trans hf.chgs hC) s hs).mono ?_
  rintro e w' ⟨k, σ', rfl, h1, h2, h3⟩
  exact ⟨k, σ', rfl, h1, h.next h2 h3 (hf.removes h1), h3⟩

theorem Live.rename (h : Live w wr A d K C L σ) (hKl : K.length ≤ 1099511627776) (hC : C ≤ 1099511627776) (s t : ByteArray) (hs : s.size ≤ maxLen) (ht : t.size ≤ maxLen) (htK : t.data.toList ∈ K) :
    Calls Tryz.prog 60 #[ptr d, .string s, .string t] wr fun e w' => ∃ k σ', e = .returned (.int .i64 k) ∧ σ.renames s.data.toList t.data.toList k σ' ∧ Live w w' (ext A wr w') d K (C + 1) L σ' ∧ Keeps A wr w' := by
  obtain ⟨_, _, _, _, _, hi⟩ := h.2.1
  have hf := h.2.2.1
  refine (rename_any hi hf.left hf.nowK hKl (Nat.le_trans hf.chgs hC) s t hs ht htK).mono ?_
  rintro e w' ⟨k, σ', rfl, h1, h2, h3⟩
  exact ⟨k, σ', rfl, h1, h.next h2 h3 (hf.renames htK h1), h3⟩

theorem Live.syncDir (h : Live w wr A d K C L σ) (hKl : K.length ≤ 1099511627776) :
    Calls Tryz.prog 36 #[ptr d] wr fun e w' => ∃ k σ', e = .returned (.int .i64 k) ∧ σ.syncsDir k σ' ∧ Live w w' (ext A wr w') d K C L σ' ∧ Keeps A wr w' := by
  obtain ⟨_, _, _, _, _, hi⟩ := h.2.1
  have hf := h.2.2.1
  refine (syncDir_any hi hf.left hf.setK hKl).mono ?_
  rintro e w' ⟨k, σ', rfl, h1, h2, h3⟩
  exact ⟨k, σ', rfl, h1, h.next h2 h3 (hf.syncsDir h1), h3⟩

theorem Live.stop (h : Live w wr A d K C L σ) (n : Int) (hn : n < 9223372036854775808) :
    Calls Tryz.prog 28 #[ptr d, .int .i64 n] wr fun e w' => e = .returned (.tuple #[]) ∧ Live w w' (ext A wr w') d K C L { σ with left := some n.toNat } ∧ Keeps A wr w' := by
  obtain ⟨mn, ms, cv, vals, bv, hi⟩ := h.2.1
  refine (stop_any hi n).mono ?_
  rintro e w' ⟨rfl, h1, h2, _⟩
  have k : Keeps A wr w' := h2.mono (fun i _ e => by subst e; exact hi.ownD)
  exact ⟨rfl, h.next ⟨mn, ms, cv, vals, bv, h1.grow (fun _ h => .inl h)⟩ k (h.2.2.1.setLeft _ (fun j hj => by rw [← Option.some.inj hj]; omega)), k⟩

theorem Live.names (h : Live w wr A d K C L σ) (hKl : K.length ≤ 1099511627776) :
    Calls Tryz.prog 14 #[ptr d] wr fun e w' => ∃ v ks, e = .returned v ∧ Sorted σ.now ks ∧ ks.length ≤ K.length ∧ (∀ s ∈ ks, s.length ≤ maxLen) ∧ Row9 w' wr.heap.size v ks ∧ Live w w' A d K C L σ ∧ Fresh wr w' := by
  obtain ⟨_, _, _, _, _, hi⟩ := h.2.1
  refine (names_any hi hKl).mono ?_
  rintro e w' ⟨v, ks, rfl, h1, h2, h3, h4, h5⟩
  exact ⟨v, ks, rfl, h1, h2, h3, h4, h.fresh h5, h5⟩

theorem Live.read (h : Live w wr A d K C L σ) (s : ByteArray) (hs : s.size ≤ maxLen) :
    Calls Tryz.prog 15 #[ptr d, .string s] wr fun e w' => e = .returned (.tuple #[.string ⟨((σ.read s.data.toList).getD []).toArray⟩, .bool (σ.read s.data.toList).isSome]) ∧ Live w w' A d K C L σ ∧ Keeps A wr w' ∧ w'.heap.size = wr.heap.size := by
  obtain ⟨mn, ms, cv, vals, bv, hi⟩ := h.2.1
  refine (read_any hi h.2.2.1.nowIn s hs).mono ?_
  rintro e w' ⟨rfl, h1, h2, h3⟩
  have hn := h.next ⟨mn, ms, cv, vals, bv, h1.grow (A' := ext A wr w') (fun _ h => .inl h)⟩ h2 h.2.2.1
  rw [ext_same h3] at hn
  exact ⟨rfl, hn, h2, h3⟩

theorem Live.crash (h : Live w wr A d K C L σ) (hKl : K.length ≤ 1099511627776) (hC : C ≤ 1099511627776) (hL : L ≤ 1099511627776) (n : Int) (tv : Value) (ts : List Int) (ht : Ints wr A tv ts) :
    Calls Tryz.prog 10 #[ptr d, .int .i64 n, tv] wr fun e w' => ∃ ks, e = .returned (.tuple #[]) ∧ Sorted (σ.settled (min n.toNat σ.chs.length)).safe ks ∧ Live w w' (ext A wr w') d K C L (σ.crashed (min n.toNat σ.chs.length) ks ts) ∧ Keeps A wr w' := by
  obtain ⟨_, _, _, _, _, hi⟩ := h.2.1
  have hf := h.2.2.1
  refine (crash_any hi hf.setK hKl (Nat.le_trans hf.chgs hC) hf.setIn L hf.sizes hL n tv ts ht).mono ?_
  rintro e w' ⟨rfl, ks, h1, h2, h3⟩
  exact ⟨ks, rfl, h1, h.next h2 h3 (hf.crashed _ ks ts), h3⟩

end
end Go.Proofs.YtegbkpjcjlihmabGreatDoor
