/-
  The calls, of a disk that was made behind w.
-/
import Derived.Test.YtegbkpjcjlihmabGreatDoorFits
namespace Go.Proofs.YtegbkpjcjlihmabGreatDoor
open Go.RowKit Go.Maps

/-- a disk that was made behind w, and what has been done to it -/
def Live (w wr : World) (A : Nat → Prop) (d : Nat) (K : List Text) (C L : Nat) (σ : Dk) : Prop :=
  (∀ k, A k → w.heap.size ≤ k ∧ k < wr.heap.size) ∧ DiskAt wr A d K.length σ ∧ Fits K C L σ ∧ Fresh w wr

theorem Live.next {w wr w1 : World} {A : Nat → Prop} {d : Nat} {K : List Text} {C L C' L' : Nat} {σ σ' : Dk} (h : Live w wr A d K C L σ) (hd : DiskAt w1 (ext A wr w1) d K.length σ') (k : Keeps A wr w1) (hf : Fits K C' L' σ') : Live w w1 (ext A wr w1) d K C' L' σ' := by
  obtain ⟨h1, _, _, h4⟩ := h
  have := h4.size
  have := k.size
  refine ⟨fun i hi => ?_, hd, hf, h4.then k (fun i hi e => ?_)⟩
  · rcases hi with hi | hi
    · have := h1 i hi; exact ⟨this.1, by omega⟩
    · exact ⟨by omega, hi.2⟩
  · have := (h1 i e).1; omega

theorem Live.fresh {w wr w1 : World} {A : Nat → Prop} {d : Nat} {K : List Text} {C L : Nat} {σ : Dk} (h : Live w wr A d K C L σ) (k : Fresh wr w1) : Live w w1 A d K C L σ := by
  obtain ⟨h1, h2, h3, h4⟩ := h
  have := k.size
  exact ⟨fun i hi => ⟨(h1 i hi).1, by have := (h1 i hi).2; omega⟩, h2.fresh k, h3, h4.trans k⟩

/-- something else is written -/
theorem Live.side {w wr w1 : World} {A S : Nat → Prop} {d : Nat} {K : List Text} {C L : Nat} {σ : Dk} (h : Live w wr A d K C L σ) (k : Keeps S wr w1) (hS : ∀ i, A i → ¬ S i) (hw : ∀ i, S i → w.heap.size ≤ i) : Live w w1 A d K C L σ := by
  obtain ⟨h1, h2, h3, h4⟩ := h
  have := k.size
  exact ⟨fun i hi => ⟨(h1 i hi).1, by have := (h1 i hi).2; omega⟩, h2.kept k hS (fun _ h => h), h3, h4.then k (fun i hi e => by have := hw i e; omega)⟩

/-- more blocks are the disk's -/
theorem Live.grow {w wr : World} {A A' : Nat → Prop} {d : Nat} {K : List Text} {C L : Nat} {σ : Dk} (h : Live w wr A d K C L σ) (hA : ∀ i, A i → A' i) (hb : ∀ i, A' i → w.heap.size ≤ i ∧ i < wr.heap.size) : Live w wr A' d K C L σ := by
  obtain ⟨_, ⟨mn, ms, cv, vals, bv, h2⟩, h3, h4⟩ := h
  exact ⟨hb, ⟨mn, ms, cv, vals, bv, h2.grow hA⟩, h3, h4⟩

theorem Live.mono {w wr : World} {A : Nat → Prop} {d : Nat} {K : List Text} {C L C' L' : Nat} {σ : Dk} (h : Live w wr A d K C L σ) (hC : C ≤ C') (hL : L ≤ L') : Live w wr A d K C' L' σ :=
  ⟨h.1, h.2.1, h.2.2.1.mono hC hL, h.2.2.2⟩

/-- two calls in a row -/
theorem Keeps.exts {A : Nat → Prop} {a b c : World} (h : Keeps A a b) (k : Keeps (ext A a b) b c) : Keeps A a c :=
  h.then k (fun i hi e => e.elim (fun e => e) (fun e => by omega))

theorem ext_ext {A : Nat → Prop} {a b c : World} (h : a.heap.size ≤ b.heap.size) (k : b.heap.size ≤ c.heap.size) : ext (ext A a b) b c = ext A a c := by
  funext i
  refine propext ⟨fun e => ?_, fun e => ?_⟩
  · rcases e with (e | e) | e
    · exact .inl e
    · exact .inr ⟨e.1, by omega⟩
    · exact .inr ⟨by omega, e.2⟩
  · rcases e with e | e
    · exact .inl (.inl e)
    · by_cases hi : i < b.heap.size
      · exact .inl (.inr ⟨e.1, hi⟩)
      · exact .inr ⟨by omega, e.2⟩

theorem ext_not {A : Nat → Prop} {a b : World} {i : Nat} (h : ¬ A i) (hi : i < a.heap.size) : ¬ ext A a b i := fun e => e.elim h (fun e => by omega)

section
variable {w wr : World} {A : Nat → Prop} {d : Nat} {σ : Dk} {K : List Text} {C L : Nat}

theorem new_live (K : List Text) (w wr : World) (hF : Fresh w wr) : Calls Tryz.prog 13 #[] wr fun e w' => ∃ d, e = .returned (ptr d) ∧ Live w w' (ext (fun _ => False) wr w') d K 0 0 Dk.empty ∧ Fresh wr w' := by
  refine (new_any K.length wr).mono ?_
  rintro e w' ⟨d, rfl, hd, k⟩
  have := hF.size
  refine ⟨d, rfl, ⟨fun i hi => ?_, hd, Fits.empty _ _ _, hF.trans k⟩, k⟩
  rcases hi with hi | hi
  · exact hi.elim
  · exact ⟨by omega, hi.2⟩

theorem Live.create (h : Live w wr A d K C L σ) (hKl : K.length ≤ 1099511627776) (hC : C ≤ 1099511627776) (s : ByteArray) (hs : s.size ≤ maxLen) (hsK : s.data.toList ∈ K) :
    Calls Tryz.prog 16 #[ptr d, .string s] wr fun e w' => ∃ k σ', e = .returned (.int .i64 k) ∧ σ.creates s.data.toList k σ' ∧ Live w w' (ext A wr w') d K (C + 1) L σ' ∧ Keeps A wr w' := by
  obtain ⟨_, _, _, _, _, hi⟩ := h.2.1
  have hf := h.2.2.1
  refine (create_any hi hf.left hf.nowK hKl (Nat.le_trans hf.chgs hC) s hs hsK).mono ?_
  rintro e w' ⟨k, σ', rfl, h1, h2, h3⟩
  exact ⟨k, σ', rfl, h1, h.next h2 h3 (hf.creates hsK h1), h3⟩

theorem Live.append (h : Live w wr A d K C L σ) (hL : L ≤ 1099511627776) (s t : ByteArray) (hs : s.size ≤ maxLen) (ht : t.size ≤ 1099511627776) :
    Calls Tryz.prog 17 #[ptr d, .string s, .string t] wr fun e w' => ∃ k σ', e = .returned (.int .i64 k) ∧ σ.appends s.data.toList t.data.toList k σ' ∧ Live w w' (ext A wr w') d K C (L + t.size) σ' ∧ Keeps A wr w' := by
  obtain ⟨_, _, _, _, _, hi⟩ := h.2.1
  have hf := h.2.2.1
  refine (append_any hi hf.left hf.nowIn s t hs (fun x hx => by have := (hf.sizes x hx).2; omega)).mono ?_
  rintro e w' ⟨k, σ', rfl, h1, h2, h3⟩
  have := hf.appends h1
  rw [Array.length_toList] at this
  exact ⟨k, σ', rfl, h1, h.next h2 h3 this, h3⟩

theorem Live.sync (h : Live w wr A d K C L σ) (s : ByteArray) (hs : s.size ≤ maxLen) :
    Calls Tryz.prog 59 #[ptr d, .string s] wr fun e w' => ∃ k σ', e = .returned (.int .i64 k) ∧ σ.syncs s.data.toList k σ' ∧ Live w w' (ext A wr w') d K C L σ' ∧ Keeps A wr w' := by
  obtain ⟨_, _, _, _, _, hi⟩ := h.2.1
  have hf := h.2.2.1
  refine (sync_any hi hf.left hf.nowIn s hs).mono ?_
  rintro e w' ⟨k, σ', rfl, h1, h2, h3⟩
  exact ⟨k, σ', rfl, h1, h.next h2 h3 (hf.syncs h1), h3⟩

theorem Live.remove (h : Live w wr A d K C L σ) (hKl : K.length ≤ 1099511627776) (hC : C ≤ 1099511627776) (s : ByteArray) (hs : s.size ≤ maxLen) :
    Calls Tryz.prog 91 #[ptr d, .string s] wr fun e w' => ∃ k σ', e = .returned (.int .i64 k) ∧ σ.removes s.data.toList k σ' ∧ Live w w' (ext A wr w') d K (C + 1) L σ' ∧ Keeps A wr w' := by
  obtain ⟨_, _, _, _, _, hi⟩ := h.2.1
  have hf := h.2.2.1
  refine (remove_any hi hf.left hf.nowK hKl (Nat.le_trans hf.chgs hC) s hs).mono ?_
  rintro e w' ⟨k, σ', rfl, h1, h2, h3⟩
  exact ⟨k, σ', rfl, h1, h.next h2 h3 (hf.removes h1), h3⟩

theorem Live.rename (h : Live w wr A d K C L σ) (hKl : K.length ≤ 1099511627776) (hC : C ≤ 1099511627776) (s t : ByteArray) (hs : s.size ≤ maxLen) (ht : t.size ≤ maxLen) (htK : t.data.toList ∈ K) :
    Calls Tryz.prog 60 #[ptr d, .string s, .string t] wr fun e w' => ∃ k σ', e = .returned (.int .i64 k) ∧ σ.renames s.data.toList t.data.toList k σ' ∧ Live w w' (ext A wr w') d K (C + 1) L σ' ∧ Keeps A wr w' := by
  obtain ⟨_, _, _, _, _, hi⟩ := h.2.1
  have hf := h.2.2.1
  refine (rename_any hi hf.left hf.nowK hKl (Nat.le_trans hf.chgs hC) s t hs ht htK).mono ?_
  rintro e w' ⟨k, σ', rfl, h1, h2, h3⟩
  exact ⟨k, σ', rfl, h1, h.next h2 h3 (hf.renames htK h1), h3⟩

theorem Live.syncDir (h : Live w wr A d K C L σ) (hKl : K.length ≤ 1099511627776) :
    Calls Tryz.prog 36 #[ptr d] wr fun e w' => ∃ k σ', e = .returned (.int .i64 k) ∧ σ.syncsDir k σ' ∧ Live w w' (ext A wr w') d K C L σ' ∧ Keeps A wr w' := by
  obtain ⟨_, _, _, _, _, hi⟩ := h.2.1
  have hf := h.2.2.1
  refine (syncDir_any hi hf.left hf.setK hKl).mono ?_
  rintro e w' ⟨k, σ', rfl, h1, h2, h3⟩
  exact ⟨k, σ', rfl, h1, h.next h2 h3 (hf.syncsDir h1), h3⟩

theorem Live.stop (h : Live w wr A d K C L σ) (n : Int) (hn : n < 9223372036854775808) :
    Calls Tryz.prog 28 #[ptr d, .int .i64 n] wr fun e w' => e = .returned (.tuple #[]) ∧ Live w w' (ext A wr w') d K C L { σ with left := some n.toNat } ∧ Keeps A wr w' := by
  obtain ⟨mn, ms, cv, vals, bv, hi⟩ := h.2.1
  refine (stop_any hi n).mono ?_
  rintro e w' ⟨rfl, h1, h2, _⟩
  have k : Keeps A wr w' := h2.mono (fun i _ e => by subst e; exact hi.ownD)
  exact ⟨rfl, h.next ⟨mn, ms, cv, vals, bv, h1.grow (fun _ h => .inl h)⟩ k (h.2.2.1.setLeft _ (fun j hj => by rw [← Option.some.inj hj]; omega)), k⟩

theorem Live.names (h : Live w wr A d K C L σ) (hKl : K.length ≤ 1099511627776) :
    Calls Tryz.prog 14 #[ptr d] wr fun e w' => ∃ v ks, e = .returned v ∧ Sorted σ.now ks ∧ ks.length ≤ K.length ∧ (∀ s ∈ ks, s.length ≤ maxLen) ∧ Row9 w' wr.heap.size v ks ∧ Live w w' A d K C L σ ∧ Fresh wr w' := by
  obtain ⟨_, _, _, _, _, hi⟩ := h.2.1
  refine (names_any hi hKl).mono ?_
  rintro e w' ⟨v, ks, rfl, h1, h2, h3, h4, h5⟩
  exact ⟨v, ks, rfl, h1, h2, h3, h4, h.fresh h5, h5⟩

theorem Live.read (h : Live w wr A d K C L σ) (s : ByteArray) (hs : s.size ≤ maxLen) :
    Calls Tryz.prog 15 #[ptr d, .string s] wr fun e w' => e = .returned (.tuple #[.string ⟨((σ.read s.data.toList).getD []).toArray⟩, .bool (σ.read s.data.toList).isSome]) ∧ Live w w' A d K C L σ ∧ Keeps A wr w' ∧ w'.heap.size = wr.heap.size := by
  obtain ⟨mn, ms, cv, vals, bv, hi⟩ := h.2.1
  refine (read_any hi h.2.2.1.nowIn s hs).mono ?_
  rintro e w' ⟨rfl, h1, h2, h3⟩
  have hn := h.next ⟨mn, ms, cv, vals, bv, h1.grow (A' := ext A wr w') (fun _ h => .inl h)⟩ h2 h.2.2.1
  rw [ext_same h3] at hn
  exact ⟨rfl, hn, h2, h3⟩

theorem Live.crash (h : Live w wr A d K C L σ) (hKl : K.length ≤ 1099511627776) (hC : C ≤ 1099511627776) (hL : L ≤ 1099511627776) (n : Int) (tv : Value) (ts : List Int) (ht : Ints wr A tv ts) :
    Calls Tryz.prog 10 #[ptr d, .int .i64 n, tv] wr fun e w' => ∃ ks, e = .returned (.tuple #[]) ∧ Sorted (σ.settled (min n.toNat σ.chs.length)).safe ks ∧ Live w w' (ext A wr w') d K C L (σ.crashed (min n.toNat σ.chs.length) ks ts) ∧ Keeps A wr w' := by
  obtain ⟨_, _, _, _, _, hi⟩ := h.2.1
  have hf := h.2.2.1
  refine (crash_any hi hf.setK hKl (Nat.le_trans hf.chgs hC) hf.setIn L hf.sizes hL n tv ts ht).mono ?_
  rintro e w' ⟨rfl, ks, h1, h2, h3⟩
  exact ⟨ks, rfl, h1, h.next h2 h3 (hf.crashed _ ks ts), h3⟩

end
end Go.Proofs.YtegbkpjcjlihmabGreatDoor
