/-
  Two disks and the reference, side by side.
-/
import Derived.Test.YtegbkpjcjlihmaaRs
import Derived.Test.YtegbkpjcjlihmaaLiv
namespace Go.Proofs.Ytegbkpjcjlihmaa
open Go.RowKit Go.Maps

/-- something else is written -/
theorem Live.side {w wr w1 : World} {A S : Nat → Prop} {d : Nat} {K : List Text} {C L : Nat} {σ : Dk} (h : Live w wr A d K C L σ) (k : Keeps S wr w1) (hS : ∀ i, A i → ¬ S i) (hw : ∀ i, S i → w.heap.size ≤ i) : Live w w1 A d K C L σ := by
  obtain ⟨h1, h2, h3, h4⟩ := h
  have := k.size
  exact ⟨fun i hi => ⟨(h1 i hi).1, by have := (h1 i hi).2; omega⟩, h2.kept k hS (fun _ h => h), h3, h4.then k (fun i hi e => by have := hw i e; omega)⟩

theorem RefAt.kept {w w' : World} {A S : Nat → Prop} {r : Nat} {ρ : Rf} (h : RefAt w A r ρ) (k : Keeps S w w') (hS : ∀ i, A i → ¬ S i) : RefAt w' A r ρ := by
  obtain ⟨fv, lv, vals, h⟩ := h
  exact ⟨fv, lv, vals, h.kept k hS (fun _ h => h)⟩

structure Tri (w wr : World) (A O B : Nat → Prop) (d o r : Nat) (K : List Text) (C L C2 L2 F : Nat) (σ σ2 : Dk) (ρ : Rf) : Prop where
  a : Live w wr A d K C L σ
  o : Live w wr O o K C2 L2 σ2
  b : ∀ k, B k → w.heap.size ≤ k ∧ k < wr.heap.size
  ref : RefAt wr B r ρ
  ao : ∀ k, A k → ¬ O k
  ab : ∀ k, A k → ¬ B k
  ob : ∀ k, O k → ¬ B k
  files : ρ.files.length ≤ F
  sizes : ∀ f ∈ ρ.files, f.2 ≤ f.1.length ∧ f.1.length ≤ L

section
variable {w wr w1 : World} {A O B : Nat → Prop} {d o r : Nat} {K : List Text} {C L C2 L2 F : Nat} {σ σ2 : Dk} {ρ : Rf}

theorem Tri.mono (h : Tri w wr A O B d o r K C L C2 L2 F σ σ2 ρ) {C2' L2' : Nat} (hC : C2 ≤ C2') (hL : L2 ≤ L2') : Tri w wr A O B d o r K C L C2' L2' F σ σ2 ρ := by
  obtain ⟨h1, h2, h3, h4⟩ := h.o
  exact { h with o := ⟨h1, h2, h3.mono hC hL, h4⟩ }

theorem Tri.stepO (h : Tri w wr A O B d o r K C L C2 L2 F σ σ2 ρ) {C2' L2' : Nat} {σ2' : Dk} (l : Live w w1 (ext O wr w1) o K C2' L2' σ2') (k : Keeps O wr w1) : Tri w w1 A (ext O wr w1) B d o r K C L C2' L2' F σ σ2' ρ := by
  have hs := k.size
  refine ⟨h.a.side k h.ao (fun i hi => (h.o.1 i hi).1), l, fun i hi => ⟨(h.b i hi).1, by have := (h.b i hi).2; omega⟩, h.ref.kept k (fun i hi e => h.ob i e hi), fun i hi e => ?_, h.ab, fun i hi e => ?_, h.files, h.sizes⟩
  · rcases e with e | e
    · exact h.ao i hi e
    · have := (h.a.1 i hi).2; omega
  · rcases hi with hi | hi
    · exact h.ob i hi e
    · have := (h.b i e).2; omega

theorem Tri.stepA (h : Tri w wr A O B d o r K C L C2 L2 F σ σ2 ρ) {C' L' : Nat} {σ' : Dk} (l : Live w w1 (ext A wr w1) d K C' L' σ') (k : Keeps A wr w1) (hL : L ≤ L') : Tri w w1 (ext A wr w1) O B d o r K C' L' C2 L2 F σ' σ2 ρ := by
  have hs := k.size
  refine ⟨l, h.o.side k (fun i hi e => h.ao i e hi) (fun i hi => (h.a.1 i hi).1), fun i hi => ⟨(h.b i hi).1, by have := (h.b i hi).2; omega⟩, h.ref.kept k (fun i hi e => h.ab i e hi), fun i hi e => ?_, fun i hi e => ?_, h.ob, h.files, fun f hf => ⟨(h.sizes f hf).1, Nat.le_trans (h.sizes f hf).2 hL⟩⟩
  · rcases hi with hi | hi
    · exact h.ao i hi e
    · have := (h.o.1 i e).2; omega
  · rcases hi with hi | hi
    · exact h.ab i hi e
    · have := (h.b i e).2; omega

theorem Tri.sameA (h : Tri w wr A O B d o r K C L C2 L2 F σ σ2 ρ) (hd : DiskAt w1 A d K.length σ) (k : Keeps A wr w1) : Tri w w1 A O B d o r K C L C2 L2 F σ σ2 ρ := by
  have hs := k.size
  have f := h.a.2.2.2
  exact ⟨⟨fun i hi => ⟨(h.a.1 i hi).1, by have := (h.a.1 i hi).2; omega⟩, hd, h.a.2.2.1, f.then k (fun i hi e => by have := (h.a.1 i e).1; omega)⟩,
    h.o.side k (fun i hi e => h.ao i e hi) (fun i hi => (h.a.1 i hi).1), fun i hi => ⟨(h.b i hi).1, by have := (h.b i hi).2; omega⟩, h.ref.kept k (fun i hi e => h.ab i e hi), h.ao, h.ab, h.ob, h.files, h.sizes⟩

theorem Tri.stepB (h : Tri w wr A O B d o r K C L C2 L2 F σ σ2 ρ) {ρ' : Rf} {F' : Nat} (hr : RefAt w1 (ext B wr w1) r ρ') (k : Keeps B wr w1) (hF : ρ'.files.length ≤ F') (hs' : ∀ f ∈ ρ'.files, f.2 ≤ f.1.length ∧ f.1.length ≤ L) : Tri w w1 A O (ext B wr w1) d o r K C L C2 L2 F' σ σ2 ρ' := by
  have hs := k.size
  have f := h.a.2.2.2
  have := f.size
  refine ⟨h.a.side k h.ab (fun i hi => (h.b i hi).1), h.o.side k h.ob (fun i hi => (h.b i hi).1), fun i hi => ?_, hr, h.ao, fun i hi e => ?_, fun i hi e => ?_, hF, hs'⟩
  · rcases hi with hi | hi
    · have := h.b i hi; exact ⟨this.1, by omega⟩
    · exact ⟨by omega, hi.2⟩
  · rcases e with e | e
    · exact h.ab i hi e
    · have := (h.a.1 i hi).2; omega
  · rcases e with e | e
    · exact h.ob i hi e
    · have := (h.o.1 i hi).2; omega

/-- what is asked of the reference holds -/
theorem rg_of {φ : Nat → Nat} {R : Nat → Prop} (hS : Sim φ R σ ρ) (hf : Fits K C L σ) (hC : C ≤ 2097152) (hK : K.length ≤ 8388608) (hF : ρ.files.length ≤ 1099511627) (hs : ∀ f ∈ ρ.files, f.2 ≤ f.1.length ∧ f.1.length ≤ L) :
    ∃ l, Rg ρ σ.chs.length l L ∧ EntsOf φ σ.now l ∧ ∀ (i : Nat) l', ρ.log[i]? = some l' → l'.length ≤ K.length := by
  obtain ⟨l, hl, he⟩ := hS.now hf
  have hch := hf.chgs
  have hnl : ∀ (i : Nat) l', ρ.log[i]? = some l' → l'.length ≤ K.length := fun i l' h => (hS.ents i l' h).length (hf.setK i)
  refine ⟨l, ⟨?_, hS.len, hl, by rw [hS.len]; omega, fun i l' h => ⟨by have := hnl i l' h; omega, fun s n hm => ?_⟩, hF, hs⟩, he, hnl⟩
  · have hl := hS.left
    cases e : σ.left with
    | none => rw [e] at hl; simp only at hl; omega
    | some n => rw [e] at hl; simp only at hl; have := hf.left n e; omega
  · obtain ⟨x, hx, rfl⟩ := ((hS.ents i l' h).2 s n).1 hm
    exact (List.getElem?_eq_some_iff.1 (hS.file x (hS.ref i s x hx))).1

/-- the files behind a call -/
theorem rstep_files {l : List Ent} {p : Op} {k : Int} {ρ' : Rf} (hr : RStep ρ l p k ρ') (hs : ∀ f ∈ ρ.files, f.2 ≤ f.1.length ∧ f.1.length ≤ L) (hn : ∀ (i : Nat) l', ρ.log[i]? = some l' → l'.length ≤ K.length) (hF : ρ.files.length ≤ F) (hKF : K.length ≤ F) :
    ρ'.files.length ≤ F + 1 ∧ ∀ f ∈ ρ'.files, f.2 ≤ f.1.length ∧ f.1.length ≤ L + p.s.size := by
  have same : ρ.files.length ≤ F + 1 ∧ ∀ f ∈ ρ.files, f.2 ≤ f.1.length ∧ f.1.length ≤ L + p.s.size := ⟨by omega, fun f hf => by have := hs f hf; exact ⟨this.1, by omega⟩⟩
  have es : p.s.data.toList.length = p.s.size := by rw [Array.length_toList]; rfl
  rcases hr with ⟨_, hr⟩ | ⟨_, hr⟩ | ⟨_, hr⟩ | ⟨_, hr⟩ | ⟨_, hr⟩ | ⟨_, hr⟩ | ⟨_, _, rfl⟩ | ⟨_, _, lk, hlk, rfl⟩ | ⟨_, _, rfl⟩
  · rcases hr with ⟨_, _, rfl⟩ | ⟨_, _, _, rfl⟩ | ⟨_, _, _, rfl⟩
    · exact same
    · exact same
    · refine ⟨by simp; omega, fun f hf => ?_⟩
      rcases List.mem_append.1 hf with hf | hf
      · exact same.2 f hf
      · simp at hf; subst hf; exact ⟨Nat.le_refl _, Nat.zero_le _⟩
  · rcases hr with ⟨_, _, rfl⟩ | ⟨_, _, _, rfl⟩ | ⟨_, n, c, q, _, hfl, _, rfl⟩
    · exact same
    · exact same
    · refine ⟨by simp; omega, fun f hf => ?_⟩
      rcases List.mem_or_eq_of_mem_set hf with hf | rfl
      · exact same.2 f hf
      · have := hs _ (List.mem_of_getElem? hfl)
        simp only at this
        simp only [List.length_append, es]
        omega
  · rcases hr with ⟨_, _, rfl⟩ | ⟨_, _, _, rfl⟩ | ⟨_, n, c, q, _, hfl, _, rfl⟩
    · exact same
    · exact same
    · refine ⟨by simp; omega, fun f hf => ?_⟩
      rcases List.mem_or_eq_of_mem_set hf with hf | rfl
      · exact same.2 f hf
      · have := hs _ (List.mem_of_getElem? hfl)
        simp only at this
        simp only
        omega
  · rcases hr with ⟨_, _, rfl⟩ | ⟨_, _, _, rfl⟩ | ⟨_, n, _, _, rfl⟩ <;> exact same
  · rcases hr with ⟨_, _, rfl⟩ | ⟨_, _, _, rfl⟩ | ⟨_, _, _, rfl⟩ <;> exact same
  · rcases hr with ⟨_, _, rfl⟩ | ⟨_, _, rfl⟩ <;> exact same
  · exact same
  · have := hn _ _ hlk
    refine ⟨by simp [Rf.crashed]; omega, fun f hf => ?_⟩
    obtain ⟨i, hi⟩ := List.mem_iff_getElem?.1 hf
    simp only [Rf.crashed] at hi
    rw [List.getElem?_mapIdx] at hi
    obtain ⟨e, _, rfl⟩ := Option.map_eq_some_iff.1 hi
    refine ⟨Nat.le_refl _, ?_⟩
    simp only [crFile]
    refine Nat.le_trans (survive_len _ _ _) ?_
    rw [List.getD_eq_getElem?_getD]
    cases e2 : ρ.files[e.2]? with
    | none => exact Nat.zero_le _
    | some g => have := hs g (List.mem_of_getElem? e2); simp only [Option.getD_some]; omega
  · exact same

theorem loadTo_ge {os : List Op} {i : Nat} (h : os.length ≤ i) : loadTo os (i + 1) = loadTo os i := by
  unfold loadTo
  rw [List.take_of_length_le h, List.take_of_length_le (by omega)]

end
end Go.Proofs.Ytegbkpjcjlihmaa
