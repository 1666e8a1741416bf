/-
  Remove, Rename, Create.
-/
import Derived.Test.YtegbkpjcjlihmabOpd
namespace Go.Proofs.Ytegbkpjcjlihmab
open Go.RowKit Go.Maps

/-- a list of names may only shrink -/
theorem del_in {M : Names} {K : List Text} (h : ∀ s, (M s).isSome = true → s ∈ K) (t : Text) : ∀ s, (delN M t s).isSome = true → s ∈ K := by
  intro s hs
  unfold delN at hs
  split at hs
  · cases hs
  · exact h s hs

theorem put_in {M : Names} {K : List Text} (h : ∀ s, (M s).isSome = true → s ∈ K) {t : Text} (ht : t ∈ K) (x : Nat) : ∀ s, (putN M t x s).isSome = true → s ∈ K := by
  intro s hs
  unfold putN at hs
  split at hs
  · rename_i e; rw [e]; exact ht
  · exact h s hs

section
variable {w : World} {A : Nat → Prop} {d : Nat} {σ : Dk} {mn ms : Nat} {cv : Value} {vals : List Value} {bv : Nat → Value} {K : List Text}

/-- what 'Remove' does -/
def Dk.removes (σ : Dk) (s : Text) (e : Int) (σ' : Dk) : Prop :=
  (σ.dead = true ∧ e = 6 ∧ σ' = σ.tick) ∨ (σ.dead = false ∧ σ.now s = none ∧ e = 4 ∧ σ' = σ.tick) ∨ (σ.dead = false ∧ ∃ x, σ.now s = some x ∧ e = 0 ∧ σ' = σ.tick.did (.remove s))

set_option maxHeartbeats 1000000 in
theorem remove_any (h : Inner w A d K.length σ mn ms cv vals bv) (hl : ∀ l, σ.left = some l → l < 9223372036854775808) (hK : ∀ s, (σ.now s).isSome = true → s ∈ K) (hKl : K.length ≤ 1099511627776) (hC : σ.chs.length ≤ 1099511627776) (s : ByteArray) (hs : s.size ≤ maxLen) :
    Calls Try.prog 18 #[ptr d, .string s] w fun e w' => ∃ k σ', e = .returned (.int .i64 k) ∧ σ.removes s.data.toList k σ' ∧ DiskAt w' (ext A w w') d K.length σ' ∧ Keeps A w w' := by
  have kq : Fresh w (w.alloc (.cells #[.string s] 9)) := (Keeps.refl _ w).alloc _
  have hq : (w.alloc (.cells #[.string s] 9)).heap[w.heap.size]? = some (.cells #[.string s] 9 (0, 0)) := heap_alloc_new w _
  have h0 := h.kept (A' := ext A w (w.alloc (.cells #[.string s] 9))) kq (fun _ _ e => e) (fun _ h => .inl h)
  have hr := toWrite_any h0 hl s hs
  have H : Hid (Inner w A d K.length σ mn ms cv vals bv) := h
  have HQ : Hid ((w.alloc (.cells #[.string s] 9)).heap[w.heap.size]? = some (.cells #[.string s] 9 (0, 0))) := hq
  clear h h0 hq
  unfold ptr at *
  go_enter Try.func18, Try.ntmps18
  go_wp2_with (go_at_call 27; refine hr.mono ?_)
  rintro e w1 ⟨v, k, rfl, hf, h1, k1, hs1⟩
  have hs1' : w1.heap.size = w.heap.size + 1 := by rw [hs1]; simp
  have Hs1 : Hid (w1.heap.size = w.heap.size + 1) := hs1'
  have kA : Keeps A w w1 := (Keeps.ofFresh kq).then k1 (fun i _ e => by subst e; exact H.out.ownD)
  have HA : Hid (ext A w (w.alloc (.cells #[.string s] 9)) = ext A w w1) := by unfold ext; rw [hs1]; rfl
  have h1' : Inner w1 (ext A w w1) d K.length σ.tick mn ms cv vals bv := HA.out ▸ h1
  have D1 : Hid (DiskAt w1 (ext A w w1) d K.length σ.tick) := ⟨mn, ms, cv, vals, bv, h1'⟩
  clear hs1 hs1' hr h1
  rcases hf with ⟨hd, rfl, rfl⟩ | ⟨hd, hx, rfl, rfl⟩ | ⟨hd, x, hx, rfl, rfl⟩
  · have HF : Hid (σ.dead = true) := hd
    clear hd h1'
    go_wp2
    go_ret
    exact ⟨6, σ.tick, rfl, .inl ⟨HF.out, rfl, rfl⟩, D1.out, kA⟩
  · have HF : Hid (σ.dead = false ∧ σ.now s.data.toList = none) := ⟨hd, hx⟩
    clear hd hx h1'
    go_wp2
    go_ret
    exact ⟨4, σ.tick, rfl, .inr (.inl ⟨HF.out.1, HF.out.2, rfl, rfl⟩), D1.out, kA⟩
  · have HF : Hid (σ.dead = false ∧ σ.now s.data.toList = some x) := ⟨hd, hx⟩
    have hq1 : w1.heap[w.heap.size]? = some (.cells #[.string s] 9 (0, 0)) := k1.heap HQ.out (fun e => by have := heap_lt H.out.head; omega)
    have hchg : ChgAt w1 (ext A w w1) (.func (.func 31) #[] #[ptr w.heap.size]) (.remove s.data.toList) := ⟨w.heap.size, rfl, .inr ⟨Nat.le_refl _, by have := Hs1.out; omega⟩, s, hq1, rfl, hs⟩
    have hdo := do_any h1' hchg (del_in hK _) hKl hC
    clear hd hx hchg h1' hq1
    unfold ptr at *
    go_wp2_with (go_at_call 25; refine hdo.mono ?_)
    rintro e w2 ⟨rfl, ⟨cv', vals', h2⟩, k2⟩
    have k2s := k2.size
    go_wp2
    go_ret
    refine ⟨0, σ.tick.did (.remove s.data.toList), rfl, .inr (.inr ⟨HF.out.1, x, HF.out.2, rfl, rfl⟩), ⟨mn, ms, cv', vals', bv, h2.grow (ext_then (by have := Hs1.out; omega) k2s)⟩, kA.then k2 (fun i hi e => ?_)⟩
    rcases e with e | e
    · exact e
    · omega
end
end Go.Proofs.Ytegbkpjcjlihmab
