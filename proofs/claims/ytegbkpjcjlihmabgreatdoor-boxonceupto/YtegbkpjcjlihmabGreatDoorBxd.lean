/-
  Deliver's and sweep's own functions.
-/
import Derived.Test.YtegbkpjcjlihmabGreatDoorBxc
namespace Go.Proofs.YtegbkpjcjlihmabGreatDoor
open Go.RowKit Go.Maps

def freshB : ByteArray := ⟨#[98, 111, 120, 47, 110, 101, 119]⟩

section
variable {w w0 : World} {d : Nat} {K : List Text} {B : Nat → Prop}

theorem cell1 {w : World} {b : Nat} {x : Value} {T : TypeId} (h : w.heap[b]? = some (.cells #[x] T (0, 0))) : w.cell? ⟨b, 0, none⟩ = some x := by rw [Lib.cell_of_heap h]; rfl

set_option maxHeartbeats 1000000 in
theorem does_create {p : Nat} (hp : w0.heap[p]? = some (.cells #[ptr d] 34 (0, 0))) (hb : B p) (hK : K.length ≤ 1099511627776) (hf : freshT ∈ K) :
    Does w d K B w0 (.func (.func 69) #[] #[ptr p]) (fun σ k σ' => σ.creates freshT k σ') 0 := by
  refine .inl ⟨69, p, rfl, enters_of Tryz.func69 (by kernel_rfl) rfl, fun wr A C L σ h hC hL hB => ?_⟩
  have c := cell1 ((hB p hb).trans hp)
  have hc := h.create hK hC freshB (by unfold maxLen; decide) hf
  unfold ptr freshB at *
  go_enter Tryz.func69, Tryz.ntmps69
  go_wp2_with fail
  refine hc.mono ?_
  rintro e w' ⟨k, σ', rfl, h1, h2, h3⟩
  go_wp2_with fail
  go_ret
  exact ⟨k, σ', rfl, h1, h2, h3⟩

set_option maxHeartbeats 1000000 in
theorem does_append {p q : Nat} {data : ByteArray} (hp : w0.heap[p]? = some (.cells #[ptr d] 34 (0, 0))) (hb : B p) (hq : w0.heap[q]? = some (.cells #[.string data] 9 (0, 0))) (hb' : B q) (hd : data.size ≤ 1099511627776) :
    Does w d K B w0 (.func (.func 70) #[] #[ptr p, ptr q]) (fun σ k σ' => σ.appends freshT data.data.toList k σ') data.size := by
  refine .inr (.inl ⟨70, p, q, rfl, enters_of Tryz.func70 (by kernel_rfl) rfl, fun wr A C L σ h hC hL hB => ?_⟩)
  have c := cell1 ((hB p hb).trans hp)
  have c' := cell1 ((hB q hb').trans hq)
  have hc := (h.append hL freshB data (by unfold maxLen; decide) hd)
  unfold ptr freshB at *
  go_enter Tryz.func70, Tryz.ntmps70
  go_wp2_with fail
  refine hc.mono ?_
  rintro e w' ⟨k, σ', rfl, h1, h2, h3⟩
  go_wp2_with fail
  go_ret
  exact ⟨k, σ', rfl, h1, h2.mono (by omega) (by omega), h3⟩

set_option maxHeartbeats 1000000 in
theorem does_sync {p : Nat} (hp : w0.heap[p]? = some (.cells #[ptr d] 34 (0, 0))) (hb : B p) :
    Does w d K B w0 (.func (.func 71) #[] #[ptr p]) (fun σ k σ' => σ.syncs freshT k σ') 0 := by
  refine .inl ⟨71, p, rfl, enters_of Tryz.func71 (by kernel_rfl) rfl, fun wr A C L σ h hC hL hB => ?_⟩
  have c := cell1 ((hB p hb).trans hp)
  have hc := h.sync freshB (by unfold maxLen; decide)
  unfold ptr freshB at *
  go_enter Tryz.func71, Tryz.ntmps71
  go_wp2_with fail
  refine hc.mono ?_
  rintro e w' ⟨k, σ', rfl, h1, h2, h3⟩
  go_wp2_with fail
  go_ret
  exact ⟨k, σ', rfl, h1, h2.mono (by omega) (by omega), h3⟩

set_option maxHeartbeats 1000000 in
theorem does_rename {p q : Nat} {nm : ByteArray} (hp : w0.heap[p]? = some (.cells #[ptr d] 34 (0, 0))) (hb : B p) (hq : w0.heap[q]? = some (.cells #[.string nm] 9 (0, 0))) (hb' : B q) (hs : nm.size ≤ maxLen) (hK : K.length ≤ 1099511627776) (hn : nm.data.toList ∈ K) :
    Does w d K B w0 (.func (.func 72) #[] #[ptr p, ptr q]) (fun σ k σ' => σ.renames freshT nm.data.toList k σ') 0 := by
  refine .inr (.inl ⟨72, p, q, rfl, enters_of Tryz.func72 (by kernel_rfl) rfl, fun wr A C L σ h hC hL hB => ?_⟩)
  have c := cell1 ((hB p hb).trans hp)
  have c' := cell1 ((hB q hb').trans hq)
  have hc := (h.rename hK hC freshB nm (by unfold maxLen; decide) hs hn)
  unfold ptr freshB at *
  go_enter Tryz.func72, Tryz.ntmps72
  go_wp2_with fail
  refine hc.mono ?_
  rintro e w' ⟨k, σ', rfl, h1, h2, h3⟩
  go_wp2_with fail
  go_ret
  exact ⟨k, σ', rfl, h1, h2, h3⟩

set_option maxHeartbeats 1000000 in
theorem does_remove {p : Nat} (hp : w0.heap[p]? = some (.cells #[ptr d] 34 (0, 0))) (hb : B p) (hK : K.length ≤ 1099511627776) :
    Does w d K B w0 (.func (.func 102) #[] #[ptr p]) (fun σ k σ' => σ.removes freshT k σ') 0 := by
  refine .inl ⟨102, p, rfl, enters_of Tryz.func102 (by kernel_rfl) rfl, fun wr A C L σ h hC hL hB => ?_⟩
  have c := cell1 ((hB p hb).trans hp)
  have hc := h.remove hK hC freshB (by unfold maxLen; decide)
  unfold ptr freshB at *
  go_enter Tryz.func102, Tryz.ntmps102
  go_wp2_with fail
  refine hc.mono ?_
  rintro e w' ⟨k, σ', rfl, h1, h2, h3⟩
  go_wp2_with fail
  go_ret
  exact ⟨k, σ', rfl, h1, h2, h3⟩

theorem does_syncDir (hK : K.length ≤ 1099511627776) : Does w d K B w0 (.func (.func 36) #[ptr d] #[]) (fun σ k σ' => σ.syncsDir k σ') 0 := by
  refine .inr (.inr ⟨36, rfl, enters_of Tryz.func36 (by kernel_rfl) rfl, fun wr A C L σ h hC hL hB => ?_⟩)
  refine (h.syncDir hK).mono ?_
  rintro e w' ⟨k, σ', rfl, h1, h2, h3⟩
  exact ⟨k, σ', rfl, h1, h2.mono (by omega) (by omega), h3⟩

theorem Does.kept {v : Value} {R : Rel} {m : Nat} {w1 : World} {B' : Nat → Prop} (h : Does w d K B w0 v R m) (hB : ∀ k, B k → B' k ∧ w1.heap[k]? = w0.heap[k]?) : Does w d K B' w1 v R m := by
  have r : ∀ f xs, Runs w d K B w0 R m f xs → Runs w d K B' w1 R m f xs := fun f xs hr => ⟨hr.1, fun wr A C L σ hl hC hL hb => hr.2 wr A C L σ hl hC hL (fun k hk => (hb k (hB k hk).1).trans (hB k hk).2)⟩
  rcases h with ⟨f, p, e, hr⟩ | ⟨f, p, q, e, hr⟩ | ⟨f, e, hr⟩
  · exact .inl ⟨f, p, e, r _ _ hr⟩
  · exact .inr (.inl ⟨f, p, q, e, r _ _ hr⟩)
  · exact .inr (.inr ⟨f, e, r _ _ hr⟩)

end
end Go.Proofs.YtegbkpjcjlihmabGreatDoor
