/-
  The law's own Do: one call.
-/
import Derived.Test.YtegbkpjcjlihmabFits
namespace Go.Proofs.Ytegbkpjcjlihmab
open Go.RowKit Go.Maps

set_option maxHeartbeats 400000 in
theorem num_any (k : Int) (w : World) : Calls Try.prog 14 #[.int .i64 k] w fun e w' => e = .returned (.int .i64 k) ∧ w' = w := by
  go_enter Try.func14, Try.ntmps14
  go_wp2
  go_ret
  exact ⟨rfl, rfl⟩

/-- a call: its kind, texts, number, list -/
structure Op where
  kind : Int
  name : ByteArray
  s : ByteArray
  n : Int
  tails : List Int

/-- what a call does, and answers -/
def Step (σ : Dk) (o : Op) (r : Int) (σ' : Dk) : Prop :=
  (o.kind = 0 ∧ σ.creates o.name.data.toList r σ') ∨ (o.kind = 1 ∧ σ.appends o.name.data.toList o.s.data.toList r σ') ∨ (o.kind = 2 ∧ σ.syncs o.name.data.toList r σ') ∨
  (o.kind = 3 ∧ σ.renames o.name.data.toList o.s.data.toList r σ') ∨ (o.kind = 4 ∧ σ.removes o.name.data.toList r σ') ∨ (o.kind = 5 ∧ σ.syncsDir r σ') ∨
  (o.kind = 6 ∧ r = 0 ∧ σ' = { σ with left := some o.n.toNat }) ∨
  (o.kind = 7 ∧ r = 0 ∧ ∃ ks, Sorted (σ.settled (min o.n.toNat σ.chs.length)).safe ks ∧ σ' = σ.crashed (min o.n.toNat σ.chs.length) ks o.tails) ∨
  ((o.kind < 0 ∨ 7 < o.kind) ∧ r = 0 ∧ σ' = σ)

/-- what is asked of a call -/
structure OpOk (K : List Text) (o : Op) : Prop where
  nameK : o.name.data.toList ∈ K
  sK : o.s.data.toList ∈ K
  name : o.name.size ≤ maxLen
  s : o.s.size ≤ maxLen
  n : -9223372036854775808 ≤ o.n ∧ o.n < 9223372036854775808

theorem Fits.step {K : List Text} {C L : Nat} {σ : Dk} (h : Fits K C L σ) {o : Op} (ho : OpOk K o) {r : Int} {σ' : Dk} (hs : Step σ o r σ') : Fits K (C + 1) (L + o.s.size) σ' := by
  have es : o.s.data.toList.length = o.s.size := by rw [Array.length_toList]; rfl
  rcases hs with ⟨_, hs⟩ | ⟨_, hs⟩ | ⟨_, hs⟩ | ⟨_, hs⟩ | ⟨_, hs⟩ | ⟨_, hs⟩ | ⟨_, _, rfl⟩ | ⟨_, _, ks, _, rfl⟩ | ⟨_, _, rfl⟩
  · exact (h.creates ho.nameK hs).mono (Nat.le_refl _) (by omega)
  · exact (h.appends hs).mono (by omega) (by omega)
  · exact (h.syncs hs).mono (by omega) (by omega)
  · exact (h.renames ho.sK hs).mono (Nat.le_refl _) (by omega)
  · exact (h.removes hs).mono (Nat.le_refl _) (by omega)
  · exact (h.syncsDir hs).mono (by omega) (by omega)
  · exact (h.setLeft _ (fun k hk => by rw [← Option.some.inj hk]; have := ho.n; omega)).mono (by omega) (by omega)
  · exact (h.crashed _ ks o.tails).mono (by omega) (by omega)
  · exact h.mono (by omega) (by omega)

def opVal (o : Op) (tv : Value) : Value := .agg #[.int .i64 o.kind, .string o.name, .string o.s, .int .i64 o.n, tv]

/-- behind the box -/
theorem boxed {w w0 w' : World} {A : Nat → Prop} {d n : Nat} {σ : Dk} (k0 : Fresh w w0) (h : DiskAt w' (ext A w0 w') d n σ ∧ Keeps A w0 w') : DiskAt w' (ext A w w') d n σ ∧ Keeps A w w' := by
  obtain ⟨⟨mn, ms, cv, vals, bv, h⟩, k⟩ := h
  have := k0.size
  exact ⟨⟨mn, ms, cv, vals, bv, h.grow (fun i hi => hi.imp id (fun h => ⟨by omega, h.2⟩))⟩, (Keeps.ofFresh k0).then k (fun _ _ e => e)⟩

section
variable {w : World} {A : Nat → Prop} {d : Nat} {σ : Dk} {K : List Text} {C L : Nat}

set_option maxHeartbeats 2000000 in
set_option maxRecDepth 100000 in
theorem do0 (h : DiskAt w A d K.length σ) (hf : Fits K C L σ) (hKl : K.length ≤ 1099511627776) (hC : C ≤ 1099511627776) (o : Op) (tv : Value) (ho : OpOk K o) (hk : o.kind = 0) :
    Calls Try.prog 6 #[ptr d, opVal o tv] w fun e w' => ∃ r σ', e = .returned (.int .i64 r) ∧ Step σ o r σ' ∧ DiskAt w' (ext A w w') d K.length σ' ∧ Keeps A w w' := by
  obtain ⟨mn, ms, cv, vals, bv, h⟩ := h
  obtain ⟨w0, hw0⟩ : ∃ w0, w0 = w.alloc (.cells #[.int .i64 o.kind, .string o.name, .string o.s, .int .i64 o.n, tv] 28) := ⟨_, rfl⟩
  have k0 : Fresh w w0 := by rw [hw0]; exact (Keeps.refl _ w).alloc _
  have h0 := h.kept (A' := A) k0 (fun _ _ e => e) (fun _ h => h)
  have hc := create_any h0 hf.left hf.nowK hKl (Nat.le_trans hf.chgs hC) o.name ho.name ho.nameK
  rw [hw0] at hc k0
  clear hw0 h0 h
  unfold ptr opVal at *
  rw [hk] at hc k0 ⊢
  go_enter Try.func6, Try.ntmps6
  go_wp2_with fail
  refine hc.mono ?_
  rintro e w1 ⟨k, σ', rfl, hs, hd, kA⟩
  have HB : Hid _ := boxed k0 ⟨hd, kA⟩
  clear hc hd kA
  go_wp2_with fail
  refine (num_any k w1).mono ?_
  rintro e w2 ⟨rfl, rfl⟩
  go_wp2
  go_ret
  exact ⟨k, σ', rfl, .inl ⟨hk, hs⟩, HB.out.1, HB.out.2⟩
end
end Go.Proofs.Ytegbkpjcjlihmab
