/-
  Clean.
-/
import Derived.Test.YtegbkpjcjlihmabGreatDoorBxe
namespace Go.Proofs.YtegbkpjcjlihmabGreatDoor
open Go.RowKit Go.Maps

section
variable {w wr : World} {A : Nat → Prop} {d : Nat} {σ : Dk} {K : List Text} {C L : Nat}

/-- what Clean does -/
def Dk.cleans (σ : Dk) (e : Int) (σ' : Dk) : Prop := runs (σ.sweeps ++ [syncDirR]) σ e σ'

set_option maxHeartbeats 4000000 in
theorem clean_any (h : Live w wr A d K C L σ) (hK : K.length ≤ 1099511627776) (hC : C + 6 ≤ 1099511627776) (hL : L ≤ 1099511627776) :
    Calls Tryz.prog 31 #[ptr d] wr fun e w' => ∃ k' σ', e = .returned (.int .i64 k') ∧ σ.cleans k' σ' ∧ Live w w' (ext A wr w') d K (C + 6) L σ' ∧ Keeps A wr w' := by
  have Hw : Hid (∀ i, A i → i < wr.heap.size) := fun i hi => (h.1 i hi).2
  have Hw0 : Hid (w.heap.size ≤ wr.heap.size) := h.2.2.2.size
  have hsw := sweep_any h
  obtain ⟨i0, z0, hi, hz0, hz1, hz2, hz3⟩ := info92'
  clear h
  unfold ptr at *
  go_enter Tryz.func31, Tryz.ntmps31
  go_wp2_with fail
  refine hsw.mono ?_
  rintro e w5 ⟨l, vals, rfl, ⟨ho5, hv5⟩, h5, K5⟩
  have hvl : vals.length ≤ 1 := by
    rcases hv5 with ⟨rfl, _⟩ | ⟨p, _, _, rfl, _⟩ <;> simp
  have H5 : Hid (Live w w5 A d K C L σ) := h5
  have HV : Hid ((vals = [] ∧ σ.now freshT = none) ∨ ∃ p, wr.heap.size ≤ p ∧ w5.heap[p]? = some (.cells #[ptr d] 34 (0, 0)) ∧ vals = [.func (.func 102) #[] #[ptr p]] ∧ (σ.now freshT).isSome = true) := hv5
  have HK5 : Hid (Keeps A wr w5) := K5
  have z5 : wr.heap.size ≤ w5.heap.size := K5.size
  clear hsw h5 hv5 K5
  go_wp2_with (at_builtin; refine wpList_append_placed _ rfl _ _ 140 rfl wr.heap.size 92 i0 z0 1 8 Tryz.underlying140 hi hz0 hz2 hz3 hz1 (by decide) _ _ _ rfl (ho5.alloc _) ⟨w5.heap.size, 0, none⟩ 1 1 [.func (.func 36) #[.pointer (some ⟨d, 0, none⟩)] #[]] rfl rfl ?d1 ?d2 ?d3 ?d4 ?d5 ?_)
  case d1 =>
    intro j u hj
    match j, hj with
    | 0, hj => simp at hj; subst hj; simp [Addr.add]
  case d2 => intro u hu; simp at hu; subst hu; rfl
  case d3 => unfold maxLen; omega
  case d4 => omega
  case d5 => simp; omega
  intro v7 w7 ho7 hg7 hpl7
  clear hpl7
  have ka6 : Fresh w5 (w5.alloc (.cells #[.func (.func 36) #[.pointer (some ⟨d, 0, none⟩)] #[]] 92)) := (Keeps.refl _ w5).alloc _
  obtain ⟨h7, k7⟩ := (H5.out.fresh ka6).grown (ho5.alloc _) hg7 Hw.out Hw0.out
  have K7 : Keeps A wr w7 := (HK5.out.trans ka6.ofFresh).then k7 (fun i hi e => by omega)
  have e7 : vals.length + 1 = (vals ++ [Value.func (.func 36) #[.pointer (some ⟨d, 0, none⟩)] #[]]).length := by simp
  rw [e7] at ho7
  have hend : Calls Tryz.prog 73 #[v7] w7 fun e w' => ∃ k' σ', e = .returned (.int .i64 k') ∧ σ.cleans k' σ' ∧ Live w w' (ext A wr w') d K (C + 6) L σ' ∧ Keeps A wr w' := by
    have t5 : Does w d K (fun k => wr.heap.size ≤ k ∧ k < w7.heap.size) w7 (.func (.func 36) #[ptr d] #[]) syncDirR 0 := does_syncDir hK
    rcases HV.out with ⟨hv, hnow⟩ | ⟨p, hp0, hpb, hv, hnow⟩
    · have hds : σ.cleans = runs [syncDirR] σ := by
        funext e σ'
        unfold Dk.cleans Dk.sweeps
        rw [hnow]
        rfl
      rw [hds]
      rw [hv] at ho7
      exact deliver_end (D := 0) h7 Hw.out Hw0.out K7 v7 _ _ [0] ho7 rfl rfl (AllDo.at (D := Does w d K (fun k => wr.heap.size ≤ k ∧ k < w7.heap.size) w7) ⟨t5, trivial⟩) (by simp) hC (by simp) hL
    · have hds : σ.cleans = runs [removeR, syncDirR] σ := by
        funext e σ'
        unfold Dk.cleans Dk.sweeps
        rw [if_pos hnow]
        rfl
      have hpb7 := grown_box hg7 (ho5.alloc _) (ka6.heap hpb (fun e => e)) (by decide)
      have bpb : wr.heap.size ≤ p ∧ p < w7.heap.size := ⟨by omega, heap_lt hpb7⟩
      have t0 : Does w d K (fun k => wr.heap.size ≤ k ∧ k < w7.heap.size) w7 (.func (.func 102) #[] #[ptr p]) removeR 0 := does_remove hpb7 bpb hK
      rw [hds]
      rw [hv] at ho7
      exact deliver_end (D := 0) h7 Hw.out Hw0.out K7 v7 _ _ [0, 0] ho7 rfl rfl (AllDo.at (D := Does w d K (fun k => wr.heap.size ≤ k ∧ k < w7.heap.size) w7) ⟨t0, t5, trivial⟩) (by simp) hC (by simp) hL
  clear ka6 h7 k7 K7 ho7 hg7 e7 HV
  try unfold ptr at *
  go_wp2_with fail
  refine hend.mono ?_
  rintro e w8 ⟨k', σ', rfl, r1, r2, r3⟩
  go_wp2_with fail
  go_ret
  exact ⟨k', σ', rfl, r1, r2, r3⟩

end
end Go.Proofs.YtegbkpjcjlihmabGreatDoor
