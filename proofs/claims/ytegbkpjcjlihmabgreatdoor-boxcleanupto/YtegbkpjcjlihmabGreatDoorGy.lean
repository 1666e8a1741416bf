/-
  The player of boxes: step. | The player of boxes: step.
-/
import Derived.Test.YtegbkpjcjlihmabGreatDoorGx
namespace Go.Proofs.YtegbkpjcjlihmabGreatDoor
open Go.RowKit Go.Maps Go.Sort Go.Lib

theorem PSt.both {w wr w1 w2 : World} {K : List Text} {p d C L n C' L' : Nat} {A A' : Nat → Prop} {σ σ' : Dk} {D D' : Text → Text} {l : List Lt3} {stop maybe stop' : Bool} {x1 x2 x3 : ByteArray} {v : Value} (h : PSt w K p d C L n A σ D l stop maybe x1 x2 x3 v wr) (h2 : Live w w1 A' d K C' L' σ') (k : Keeps A wr w1) (hA : ∀ i, A' i → A i ∨ wr.heap.size ≤ i) (k2 : Keeps (fun i => i = p) w1 w2) (hc : w2.heap[p]? = some (pCells d v stop' maybe x1 x2 x3)) (B : Bst K D' σ' l stop' maybe (x3Of x1 x2 x3)) : PSt w K p d C' L' n A' σ' D' l stop' maybe x1 x2 x3 v w2 := by
  have hlt := h.lt
  have hpA : ¬ A' p := fun e => (hA p e).elim h.pA (fun e => by omega)
  refine ⟨h2.side k2 (fun i hi e => hpA (e ▸ hi)) (fun i e => by have := h.pw; omega), hc, hpA, h.pw, ?_, B, h.ln, h.sz, h.sx⟩
  exact (h.ls.keep k (fun g _ n e => n (.inl e)) (fun g e => e.elim (fun e => (hA g e).elim (fun e => .inl (.inl e)) .inr) (fun e => .inl (.inr e)))).keep k2 (fun g _ n e => n (.inr e)) (fun _ e => .inl e)

theorem Bst.crashed2 {K : List Text} {D : Text → Text} {σ : Dk} {l : List Lt3} {stop maybe : Bool} {x : Lt3} {C L : Nat} (h : Bst K D σ l stop maybe x) (hf : Fits K C L σ) (j : Nat) (ks : List Text) (ts : List Int) : Bst K D (σ.crashed j ks ts) l false maybe x := by
  have r := h.crashed hf j ks ts
  have hsub : ∀ y ∈ l, y ∈ seen (σ.crashed j ks ts) l maybe x := fun y hy => by
    unfold seen
    split
    · exact withL_sub hy
    · exact hy
  refine ⟨h.up, r.boxed, fun y hy => r.stay y (hsub y hy), fun p hp h1 h2 => r.gone p hp (fun e => ?_) (fun e => by cases e), h.may, fun _ => rfl⟩
  unfold seen at e
  split at e
  · rename_i hm
    exact ((withL_keys p).1 e).elim (h2 hm.1) h1
  · exact h1 e

section
variable {w wr : World} {B : List Text} {p d C L n t : Nat} {A : Nat → Prop} {σ : Dk} {D : Text → Text} {l : List Lt3} {stop maybe : Bool} {x1 x2 x3 : ByteArray} {v : Value}

set_option maxHeartbeats 8000000 in
set_option maxRecDepth 100000 in
theorem step_stop (h0 : PSt w (KK B t) p d C L n A σ D l stop maybe x1 x2 x3 v wr) (hG : Gl w) (_h8 : 8 ≤ w.heap.size) (hB : BOk B) (ht : t < 1000000) (hn : n < 1000000) (us ke da : ByteArray) (nn : Int) (tv : Value) (ts : List Int) (o : OpOk w (KK B (t + 1)) 2 us ke da nn tv ts) (_hC : C + 8 ≤ 1000000000) (_hL : L + 4000000 ≤ 1000000000) :
    Calls Tryz.prog 25 #[ptr p, opV 2 us ke da nn tv] wr (Stepped w (KK B (t + 1)) p d (C + 8) (L + (us.size + ke.size + da.size + 132)) (n + 1)) := by
  have HF0 : Hid (Fits (KK B t) C L σ) := h0.live.2.2.1
  have h := h0.moreK (K' := KK B (t + 1)) (fun s hs => KK_sub hs) (by rw [KK_len, KK_len]; omega)
  have hK := hB.names (t + 1) (by omega)
  obtain ⟨hus, hke, hda, hnm, hother, hnn, hints, hkd⟩ := o
  clear h0
  have fa : Fresh wr (wr.alloc (.cells #[.int .i64 2, .string us, .string ke, .string da, .int .i64 nn, tv] 71)) := (Keeps.refl _ _).alloc _
  have ho := heap_new wr (.cells #[.int .i64 2, .string us, .string ke, .string da, .int .i64 nn, tv] 71)
  have HA : Hid (PSt w (KK B (t + 1)) p d C L n A σ D l stop maybe x1 x2 x3 v (wr.alloc (.cells #[.int .i64 2, .string us, .string ke, .string da, .int .i64 nn, tv] 71))) := h.freshen fa
  have hpl := h.lt
  have hAw : ∀ i, A i → i < wr.heap.size := fun i hi => (h.live.1 i hi).2
  have Hsz1 : Hid ((wr.alloc (.cells #[.int .i64 2, .string us, .string ke, .string da, .int .i64 nn, tv] 71)).heap.size = wr.heap.size + 1) := by
    show _ = _
    simp
  have HO : Hid ((wr.alloc (.cells #[.int .i64 2, .string us, .string ke, .string da, .int .i64 nn, tv] 71)).heap[wr.heap.size]? = some (.cells #[.int .i64 2, .string us, .string ke, .string da, .int .i64 nn, tv] 71)) := ho
  have c0 := HA.out.at 0 _ rfl
  have c1 := HA.out.at 1 _ rfl
  have c2 := HA.out.at 2 _ rfl
  have c3 := HA.out.at 3 _ rfl
  have c4 := HA.out.at 4 _ rfl
  have c5 := HA.out.at 5 _ rfl
  have c6 := HA.out.at 6 _ rfl
  have f1 := HA.out.fz 1
  have f2 := HA.out.fz 2
  have f3 := HA.out.fz 3
  clear h fa ho
  unfold opV ptr at *
  go_enter Tryz.func25, Tryz.ntmps25
  go_wp2_with fail
  generalize (wr.alloc (.cells #[.int .i64 2, .string us, .string ke, .string da, .int .i64 nn, tv] 71)) = W at *
  have o4 : W.cell? ⟨wr.heap.size, 4, none⟩ = some (.int .i64 nn) := by rw [Lib.cell_of_heap HO.out]; rfl
  have hst := (HA.out.live.fresh ((Keeps.refl _ W).drew)).stop nn hnn
  unfold ptr at hst
  have hnW : ¬ A wr.heap.size := fun e => by have := hAw _ e; omega
  go_region_held3 (fun w' => w'.cell? ⟨p, 0, none⟩ = some (.pointer (some ⟨d, 0, none⟩)) ∧ w'.cell? ⟨wr.heap.size, 4, none⟩ = some (.int .i64 nn)) (first | exact ⟨c0, o4⟩ | exact ⟨cell_keeps k3 c0 HA.out.pA, cell_keeps k3 o4 hnW⟩) (first | (go_at_call 28; refine hst.mono ?_; rintro e w3 ⟨rfl, h3, k3'⟩; have k3 : Keeps A W w3 := ((Keeps.refl _ W).drew).trans k3'))
  have hc3 := k3.heap HA.out.cell HA.out.pA
  have g2 := cell_keeps k3 c2 HA.out.pA
  have gf2 := frozen_of_row w3 p 2 _ _ hc3
  have HP4 : Hid (PSt w (KK B (t + 1)) p d C L n (ext A W w3) { σ with left := some nn.toNat } D l true maybe x1 x2 x3 v (w3.setCell ⟨p, 2, none⟩ (.bool true))) := by
    unfold pCells at hc3
    exact HA.out.both (w2 := w3.setCell ⟨p, 2, none⟩ (.bool true)) h3 k3 (fun i hi => hi.elim .inl (fun e => .inr e.1)) ((Keeps.refl (fun i => i = p) w3).setCell (p := ⟨p, 2, none⟩) (fun _ => rfl) _) (heap_setCell_at hc3 2 _) (HA.out.st.stopped _)
  clear hst h3 k3' k3 hc3 c0 c1 c2 c3 c4 c5 c6 f1 f2 f3
  go_wp2_with fail
  generalize w3.setCell ⟨p, 2, none⟩ (.bool true) = w4 at *
  have hlook := (HP4.out.freshen ((Keeps.refl _ w4).drew)).look hG hK (by omega)
  have q0 := HP4.out.at 0 _ rfl
  unfold ptr at hlook
  go_region_held3 (fun w' => w'.cell? ⟨p, 0, none⟩ = some (.pointer (some ⟨d, 0, none⟩))) (first | exact q0 | exact hs7.at 0 _ rfl | exact hs6.at 0 _ rfl) (first | (go_at_call 32; refine hlook.mono ?_; rintro e w6 ⟨v6, rfl, hv6, hs6, k6⟩) | (go_at_call 33; refine (hs6.shows hG hK (by omega) hv6).mono ?_; rintro e w7 ⟨rfl, hs7, k7⟩))
  have HS7 : Hid (PAny w (KK B (t + 1)) p d (C + 8) (L + (us.size + ke.size + da.size + 132)) (n + 1) w7) := hs7.any (by omega) (by omega) (by omega)
  clear hs7 hs6 hv6 hlook k6 k7
  go_wp2_with fail
  go_ret
  exact ⟨rfl, HS7.out⟩


set_option maxHeartbeats 8000000 in
set_option maxRecDepth 100000 in
theorem step_crash (h0 : PSt w (KK B t) p d C L n A σ D l stop maybe x1 x2 x3 v wr) (hG : Gl w) (_h8 : 8 ≤ w.heap.size) (hB : BOk B) (ht : t < 1000000) (hn : n < 1000000) (us ke da : ByteArray) (nn : Int) (tv : Value) (ts : List Int) (o : OpOk w (KK B (t + 1)) 3 us ke da nn tv ts) (hC : C + 8 ≤ 1000000000) (hL : L + 4000000 ≤ 1000000000) :
    Calls Tryz.prog 25 #[ptr p, opV 3 us ke da nn tv] wr (Stepped w (KK B (t + 1)) p d (C + 8) (L + (us.size + ke.size + da.size + 132)) (n + 1)) := by
  have HF0 : Hid (Fits (KK B t) C L σ) := h0.live.2.2.1
  have h := h0.moreK (K' := KK B (t + 1)) (fun s hs => KK_sub hs) (by rw [KK_len, KK_len]; omega)
  have hK := hB.names (t + 1) (by omega)
  obtain ⟨hus, hke, hda, hnm, hother, hnn, hints, hkd⟩ := o
  clear h0
  have fa : Fresh wr (wr.alloc (.cells #[.int .i64 3, .string us, .string ke, .string da, .int .i64 nn, tv] 71)) := (Keeps.refl _ _).alloc _
  have ho := heap_new wr (.cells #[.int .i64 3, .string us, .string ke, .string da, .int .i64 nn, tv] 71)
  have HA : Hid (PSt w (KK B (t + 1)) p d C L n A σ D l stop maybe x1 x2 x3 v (wr.alloc (.cells #[.int .i64 3, .string us, .string ke, .string da, .int .i64 nn, tv] 71))) := h.freshen fa
  have hpl := h.lt
  have hAw : ∀ i, A i → i < wr.heap.size := fun i hi => (h.live.1 i hi).2
  have Hsz1 : Hid ((wr.alloc (.cells #[.int .i64 3, .string us, .string ke, .string da, .int .i64 nn, tv] 71)).heap.size = wr.heap.size + 1) := by
    show _ = _
    simp
  have HO : Hid ((wr.alloc (.cells #[.int .i64 3, .string us, .string ke, .string da, .int .i64 nn, tv] 71)).heap[wr.heap.size]? = some (.cells #[.int .i64 3, .string us, .string ke, .string da, .int .i64 nn, tv] 71)) := ho
  have c0 := HA.out.at 0 _ rfl
  have c1 := HA.out.at 1 _ rfl
  have c2 := HA.out.at 2 _ rfl
  have c3 := HA.out.at 3 _ rfl
  have c4 := HA.out.at 4 _ rfl
  have c5 := HA.out.at 5 _ rfl
  have c6 := HA.out.at 6 _ rfl
  have f1 := HA.out.fz 1
  have f2 := HA.out.fz 2
  have f3 := HA.out.fz 3
  clear h fa ho
  unfold opV ptr at *
  go_enter Tryz.func25, Tryz.ntmps25
  go_wp2_with fail
  generalize (wr.alloc (.cells #[.int .i64 3, .string us, .string ke, .string da, .int .i64 nn, tv] 71)) = W at *
  have o4 : W.cell? ⟨wr.heap.size, 4, none⟩ = some (.int .i64 nn) := by rw [Lib.cell_of_heap HO.out]; rfl
  have o5 : W.cell? ⟨wr.heap.size, 5, none⟩ = some tv := by rw [Lib.cell_of_heap HO.out]; rfl
  have hnW : ¬ A wr.heap.size := fun e => by have := hAw _ e; omega
  have hcr := (HA.out.live.fresh ((Keeps.refl _ W).drew)).crash (by have := hK.len; omega) (by omega) (by omega) nn tv ts ((hints A (fun i hi => (HA.out.live.1 i hi).1)).fresh (HA.out.live.2.2.2.drew))
  obtain ⟨tao, tcap, rfl, _, _, _⟩ := hints A (fun i hi => (HA.out.live.1 i hi).1)
  unfold ptr at hcr
  go_region_held3 (fun w' => w'.cell? ⟨p, 0, none⟩ = some (.pointer (some ⟨d, 0, none⟩)) ∧ w'.cell? ⟨wr.heap.size, 4, none⟩ = some (.int .i64 nn) ∧ w'.cell? ⟨wr.heap.size, 5, none⟩ = some (.slice tao ts.length tcap)) (first | exact ⟨c0, o4, o5⟩ | exact ⟨cell_keeps k3 c0 HA.out.pA, cell_keeps k3 o4 hnW, cell_keeps k3 o5 hnW⟩) (first | (go_at_call 10; refine hcr.mono ?_; rintro e w3 ⟨ks, rfl, hso, h3, k3'⟩; have k3 : Keeps A W w3 := ((Keeps.refl _ W).drew).trans k3'))
  have hc3 := k3.heap HA.out.cell HA.out.pA
  have g2 := cell_keeps k3 c2 HA.out.pA
  have gf2 := frozen_of_row w3 p 2 _ _ hc3
  obtain ⟨σ1, hσ1⟩ : ∃ σ1, σ1 = σ.crashed (min nn.toNat σ.chs.length) ks ts := ⟨_, rfl⟩
  have HBc : Hid (Bst (KK B (t + 1)) D σ1 l false maybe (x3Of x1 x2 x3)) := by rw [hσ1]; exact HA.out.st.crashed2 HA.out.live.2.2.1 _ _ _
  have HBd : Hid (Bst (KK B (t + 1)) D σ1 (seen σ1 l maybe (x3Of x1 x2 x3)) false false (x3Of x1 x2 x3)) := by rw [hσ1]; exact HA.out.st.crashed HA.out.live.2.2.1 _ _ _
  rw [← hσ1] at h3
  have HP4 : Hid (PSt w (KK B (t + 1)) p d C L n (ext A W w3) σ1 D l false maybe x1 x2 x3 v (w3.setCell ⟨p, 2, none⟩ (.bool false))) := by
    unfold pCells at hc3
    exact HA.out.both (w2 := w3.setCell ⟨p, 2, none⟩ (.bool false)) h3 k3 (fun i hi => hi.elim .inl (fun e => .inr e.1)) ((Keeps.refl (fun i => i = p) w3).setCell (p := ⟨p, 2, none⟩) (fun _ => rfl) _) (heap_setCell_at hc3 2 _) HBc.out
  clear hcr h3 k3' k3 hc3 c0 c1 c2 c3 c4 c5 c6 f1 f2 f3 hso hσ1 o4 o5
  go_wp2_with fail
  generalize w3.setCell ⟨p, 2, none⟩ (.bool false) = w4 at *
  clear g2 gf2
  have hlk := HP4.out.look hG hK (by omega)
  unfold ptr at hlk
  refine hlk.mono ?_
  rintro e w5 ⟨v5, rfl, hv5, hp5, k5⟩
  obtain ⟨a5, m5, e5⟩ := hv5.len
  subst e5
  have g1 := hp5.at 1 _ rfl
  have g3 := hp5.at 3 _ rfl
  have gf1 := hp5.fz 1
  have gf3 := hp5.fz 3
  have hsl : (seen σ1 l maybe (x3Of x1 x2 x3)).length ≤ n + 1 := by
    have := HA.out.ln
    unfold seen
    split
    · exact Nat.le_trans withL_len (by omega)
    · omega
  have hsz : ∀ y ∈ seen σ1 l maybe (x3Of x1 x2 x3), y.1.length ≤ 1048576 ∧ y.2.1.length ≤ 1048576 := fun y hy => by
    unfold seen at hy
    split at hy
    · rcases withL_mem hy with ⟨rfl, _⟩ | hy
      · exact HA.out.sx
      · exact HA.out.sz y hy
    · exact HA.out.sz y hy
  obtain ⟨sl, hsl2⟩ : ∃ sl, sl = seen σ1 l maybe (x3Of x1 x2 x3) := ⟨_, rfl⟩
  rw [← hsl2] at hsl hsz hv5 HBd
  have HP6 : Hid (PSt w (KK B (t + 1)) p d C L (n + 1) (ext A W w3) σ1 D sl false false x1 x2 x3 (.slice a5 sl.length m5) ((w5.setCell ⟨p, 1, none⟩ (.slice a5 sl.length m5)).setCell ⟨p, 3, none⟩ (.bool false))) := by
    have hc5 := hp5.cell
    unfold pCells at hc5
    exact hp5.set (((Keeps.refl (fun i => i = p) w5).setCell (p := ⟨p, 1, none⟩) (fun _ => rfl) _).setCell (p := ⟨p, 3, none⟩) (fun _ => rfl) _) (heap_setCell_at (heap_setCell_at hc5 1 _) 3 _) hv5 HBd.out hsl hsz HA.out.sx
  rw [← hsl2]
  clear hlk hv5 hp5 k5 hsl hsz HBd hsl2
  go_wp2_with fail
  generalize (w5.setCell ⟨p, 1, none⟩ (.slice a5 sl.length m5)).setCell ⟨p, 3, none⟩ (.bool false) = w6' at *
  have hlook := (HP6.out.freshen ((Keeps.refl _ w6').drew)).look hG hK (by omega)
  have q0 := HP6.out.at 0 _ rfl
  unfold ptr at hlook
  go_region_held3 (fun w' => w'.cell? ⟨p, 0, none⟩ = some (.pointer (some ⟨d, 0, none⟩))) (first | exact q0 | exact hs7.at 0 _ rfl | exact hs6.at 0 _ rfl) (first | (go_at_call 32; refine hlook.mono ?_; rintro e w6 ⟨v6, rfl, hv6, hs6, k6⟩) | (go_at_call 33; refine (hs6.shows hG hK (by omega) hv6).mono ?_; rintro e w7 ⟨rfl, hs7, k7⟩))
  have HS7 : Hid (PAny w (KK B (t + 1)) p d (C + 8) (L + (us.size + ke.size + da.size + 132)) (n + 1) w7) := hs7.any (by omega) (by omega) (by omega)
  clear hs7 hs6 hv6 hlook k6 k7
  go_wp2_with fail
  go_ret
  exact ⟨rfl, HS7.out⟩


end
end Go.Proofs.YtegbkpjcjlihmabGreatDoor

namespace Go.Proofs.YtegbkpjcjlihmabGreatDoor
open Go.RowKit Go.Maps Go.Sort Go.Lib

section
variable {w wr : World} {B : List Text} {p d C L n t : Nat} {A : Nat → Prop} {σ : Dk} {D : Text → Text} {l : List Lt3} {stop maybe : Bool} {x1 x2 x3 : ByteArray} {v : Value}

set_option maxHeartbeats 8000000 in
set_option maxRecDepth 100000 in
theorem step_deliver (h0 : PSt w (KK B t) p d C L n A σ D l stop maybe x1 x2 x3 v wr) (hG : Gl w) (_h8 : 8 ≤ w.heap.size) (hB : BOk B) (ht : t < 1000000) (hn : n < 1000000) (us ke da : ByteArray) (nn : Int) (tv : Value) (ts : List Int) (o : OpOk w (KK B (t + 1)) 0 us ke da nn tv ts) (hC : C + 8 ≤ 1000000000) (hL : L + 4000000 ≤ 1000000000) :
    Calls Tryz.prog 25 #[ptr p, opV 0 us ke da nn tv] wr (Stepped w (KK B (t + 1)) p d (C + 8) (L + (us.size + ke.size + da.size + 132)) (n + 1)) := by
  have HF0 : Hid (Fits (KK B t) C L σ) := h0.live.2.2.1
  have h := h0.moreK (K' := KK B (t + 1)) (fun s hs => KK_sub hs) (by rw [KK_len, KK_len]; omega)
  have hK := hB.names (t + 1) (by omega)
  obtain ⟨hus, hke, hda, hnm, hother, hnn, hints, hkd⟩ := o
  clear h0
  have fa : Fresh wr (wr.alloc (.cells #[.int .i64 0, .string us, .string ke, .string da, .int .i64 nn, tv] 71)) := (Keeps.refl _ _).alloc _
  have ho := heap_new wr (.cells #[.int .i64 0, .string us, .string ke, .string da, .int .i64 nn, tv] 71)
  have HA : Hid (PSt w (KK B (t + 1)) p d C L n A σ D l stop maybe x1 x2 x3 v (wr.alloc (.cells #[.int .i64 0, .string us, .string ke, .string da, .int .i64 nn, tv] 71))) := h.freshen fa
  have hpl := h.lt
  have hAw : ∀ i, A i → i < wr.heap.size := fun i hi => (h.live.1 i hi).2
  have Hsz1 : Hid ((wr.alloc (.cells #[.int .i64 0, .string us, .string ke, .string da, .int .i64 nn, tv] 71)).heap.size = wr.heap.size + 1) := by
    show _ = _
    simp
  have HO : Hid ((wr.alloc (.cells #[.int .i64 0, .string us, .string ke, .string da, .int .i64 nn, tv] 71)).heap[wr.heap.size]? = some (.cells #[.int .i64 0, .string us, .string ke, .string da, .int .i64 nn, tv] 71)) := ho
  have c0 := HA.out.at 0 _ rfl
  have c1 := HA.out.at 1 _ rfl
  have c2 := HA.out.at 2 _ rfl
  have c3 := HA.out.at 3 _ rfl
  have c4 := HA.out.at 4 _ rfl
  have c5 := HA.out.at 5 _ rfl
  have c6 := HA.out.at 6 _ rfl
  have f1 := HA.out.fz 1
  have f2 := HA.out.fz 2
  have f3 := HA.out.fz 3
  clear h fa ho
  unfold opV ptr at *
  go_enter Tryz.func25, Tryz.ntmps25
  obtain ⟨tao, tcap, rfl, _, _, _⟩ := hints A (fun i hi => (HA.out.live.1 i hi).1)
  go_wp2_with fail
  generalize (wr.alloc (.cells #[.int .i64 0, .string us, .string ke, .string da, .int .i64 nn, (.slice tao ts.length tcap)] 71)) = W at *
  have o1 : W.cell? ⟨wr.heap.size, 1, none⟩ = some (.string us) := by rw [Lib.cell_of_heap HO.out]; rfl
  have o2 : W.cell? ⟨wr.heap.size, 2, none⟩ = some (.string ke) := by rw [Lib.cell_of_heap HO.out]; rfl
  have o3 : W.cell? ⟨wr.heap.size, 3, none⟩ = some (.string da) := by rw [Lib.cell_of_heap HO.out]; rfl
  cases maybe with
  | false =>
    have HMM : Hid (false = true → us = x1 ∧ ke = x2 ∧ da = x3) := fun e => by cases e
    go_quiet (fail)
    have fq : Fresh W (W.drewN nq) := (Keeps.refl _ _).drewN _
    have HQ : Hid (PSt w (KK B (t + 1)) p d C L n A σ D l stop false x1 x2 x3 v (W.drewN nq)) := HA.out.freshen fq
    have HOq : Hid ((W.drewN nq).heap[wr.heap.size]? = some (.cells #[.int .i64 0, .string us, .string ke, .string da, .int .i64 nn, .slice tao ts.length tcap] 71)) := fq.heap HO.out (fun e => e)
    generalize W.drewN nq = wq at *
    clear c0 c1 c2 c3 c4 c5 c6 f1 f2 f3 fq o1 o2 o3
    have hdv := deliverP_any HQ.out hG hK (by omega) 0 us ke da nn (.slice tao ts.length tcap) hus hke hda hnm (by omega) (by omega) HMM.out
    unfold opV ptr at hdv
    have p0 : wq.cell? ⟨wr.heap.size, 0, none⟩ = some (.int .i64 0) := by rw [Lib.cell_of_heap HOq.out]; rfl
    have p1 : wq.cell? ⟨wr.heap.size, 1, none⟩ = some (.string us) := by rw [Lib.cell_of_heap HOq.out]; rfl
    have p2 : wq.cell? ⟨wr.heap.size, 2, none⟩ = some (.string ke) := by rw [Lib.cell_of_heap HOq.out]; rfl
    have p3 : wq.cell? ⟨wr.heap.size, 3, none⟩ = some (.string da) := by rw [Lib.cell_of_heap HOq.out]; rfl
    have p4 : wq.cell? ⟨wr.heap.size, 4, none⟩ = some (.int .i64 nn) := by rw [Lib.cell_of_heap HOq.out]; rfl
    have p5 : wq.cell? ⟨wr.heap.size, 5, none⟩ = some (.slice tao ts.length tcap) := by rw [Lib.cell_of_heap HOq.out]; rfl
    go_wp2_with fail
    refine hdv.mono ?_
    rintro e w3 ⟨rfl, hpn⟩
    have HPN : Hid (PNext w (KK B (t + 1)) p d (C + 6) (L + da.size) (n + 1) stop w3) := hpn
    clear hpn hdv p0 p1 p2 p3 p4 p5
    obtain ⟨A3, σ3, D3, l3, maybe3, z1, z2, z3, v3, hp3⟩ := HPN.out
    have HP3 : Hid (PSt w (KK B (t + 1)) p d (C + 6) (L + da.size) (n + 1) A3 σ3 D3 l3 stop maybe3 z1 z2 z3 v3 w3) := hp3
    clear hp3
    go_wp2_with fail
    have hlook := (HP3.out.freshen ((Keeps.refl _ w3).drew)).look hG hK (by omega)
    have q0 := HP3.out.at 0 _ rfl
    unfold ptr at hlook
    go_region_held3 (fun w' => w'.cell? ⟨p, 0, none⟩ = some (.pointer (some ⟨d, 0, none⟩))) (first | exact q0 | exact hs7.at 0 _ rfl | exact hs6.at 0 _ rfl) (first | (go_at_call 32; refine hlook.mono ?_; rintro e w6 ⟨v6, rfl, hv6, hs6, k6⟩) | (go_at_call 33; refine (hs6.shows hG hK (by omega) hv6).mono ?_; rintro e w7 ⟨rfl, hs7, k7⟩))
    have HS7 : Hid (PAny w (KK B (t + 1)) p d (C + 8) (L + (us.size + ke.size + da.size + 132)) (n + 1) w7) := hs7.any (by omega) (by omega) (by omega)
    clear hs7 hs6 hv6 hlook k6 k7
    go_wp2_with fail
    go_ret
    exact ⟨rfl, HS7.out⟩
  | true =>
    by_cases e1 : us = x1
    · have b1 : (us.toList == us.toList) = true := by rw [beq_bytes]; simp
      subst e1
      by_cases e2 : ke = x2
      · have b2 : (ke.toList == ke.toList) = true := by rw [beq_bytes]; simp
        subst e2
        by_cases e3 : da = x3
        · have b3 : (da.toList == da.toList) = true := by rw [beq_bytes]; simp
          subst e3
          have HMM : Hid (true = true → us = us ∧ ke = ke ∧ da = da) := fun _ => ⟨rfl, rfl, rfl⟩
          go_quiet (fail)
          have fq : Fresh W (W.drewN nq) := (Keeps.refl _ _).drewN _
          have HQ : Hid (PSt w (KK B (t + 1)) p d C L n A σ D l stop true us ke da v (W.drewN nq)) := HA.out.freshen fq
          have HOq : Hid ((W.drewN nq).heap[wr.heap.size]? = some (.cells #[.int .i64 0, .string us, .string ke, .string da, .int .i64 nn, .slice tao ts.length tcap] 71)) := fq.heap HO.out (fun e => e)
          generalize W.drewN nq = wq at *
          clear c0 c1 c2 c3 c4 c5 c6 f1 f2 f3 fq o1 o2 o3
          have hdv := deliverP_any HQ.out hG hK (by omega) 0 us ke da nn (.slice tao ts.length tcap) hus hke hda hnm (by omega) (by omega) HMM.out
          unfold opV ptr at hdv
          have p0 : wq.cell? ⟨wr.heap.size, 0, none⟩ = some (.int .i64 0) := by rw [Lib.cell_of_heap HOq.out]; rfl
          have p1 : wq.cell? ⟨wr.heap.size, 1, none⟩ = some (.string us) := by rw [Lib.cell_of_heap HOq.out]; rfl
          have p2 : wq.cell? ⟨wr.heap.size, 2, none⟩ = some (.string ke) := by rw [Lib.cell_of_heap HOq.out]; rfl
          have p3 : wq.cell? ⟨wr.heap.size, 3, none⟩ = some (.string da) := by rw [Lib.cell_of_heap HOq.out]; rfl
          have p4 : wq.cell? ⟨wr.heap.size, 4, none⟩ = some (.int .i64 nn) := by rw [Lib.cell_of_heap HOq.out]; rfl
          have p5 : wq.cell? ⟨wr.heap.size, 5, none⟩ = some (.slice tao ts.length tcap) := by rw [Lib.cell_of_heap HOq.out]; rfl
          go_wp2_with fail
          refine hdv.mono ?_
          rintro e w3 ⟨rfl, hpn⟩
          have HPN : Hid (PNext w (KK B (t + 1)) p d (C + 6) (L + da.size) (n + 1) stop w3) := hpn
          clear hpn hdv p0 p1 p2 p3 p4 p5
          obtain ⟨A3, σ3, D3, l3, maybe3, z1, z2, z3, v3, hp3⟩ := HPN.out
          have HP3 : Hid (PSt w (KK B (t + 1)) p d (C + 6) (L + da.size) (n + 1) A3 σ3 D3 l3 stop maybe3 z1 z2 z3 v3 w3) := hp3
          clear hp3
          go_wp2_with fail
          have hlook := (HP3.out.freshen ((Keeps.refl _ w3).drew)).look hG hK (by omega)
          have q0 := HP3.out.at 0 _ rfl
          unfold ptr at hlook
          go_region_held3 (fun w' => w'.cell? ⟨p, 0, none⟩ = some (.pointer (some ⟨d, 0, none⟩))) (first | exact q0 | exact hs7.at 0 _ rfl | exact hs6.at 0 _ rfl) (first | (go_at_call 32; refine hlook.mono ?_; rintro e w6 ⟨v6, rfl, hv6, hs6, k6⟩) | (go_at_call 33; refine (hs6.shows hG hK (by omega) hv6).mono ?_; rintro e w7 ⟨rfl, hs7, k7⟩))
          have HS7 : Hid (PAny w (KK B (t + 1)) p d (C + 8) (L + (us.size + ke.size + da.size + 132)) (n + 1) w7) := hs7.any (by omega) (by omega) (by omega)
          clear hs7 hs6 hv6 hlook k6 k7
          go_wp2_with fail
          go_ret
          exact ⟨rfl, HS7.out⟩
        · have b3 := beq_false (a := da) (b := x3) (fun e => e3 (ba_ext e))
          clear e3
          go_quiet (fail)
          have fq : Fresh W (W.drewN nq) := (Keeps.refl _ _).drewN _
          have HQ : Hid (PSt w (KK B (t + 1)) p d C L n A σ D l stop true us ke x3 v (W.drewN nq)) := HA.out.freshen fq
          have HOq : Hid ((W.drewN nq).heap[wr.heap.size]? = some (.cells #[.int .i64 0, .string us, .string ke, .string da, .int .i64 nn, .slice tao ts.length tcap] 71)) := fq.heap HO.out (fun e => e)
          generalize W.drewN nq = wq at *
          clear c0 c1 c2 c3 c4 c5 c6 f1 f2 f3 fq o1 o2 o3
          go_wp2_with fail
          go_ret
          exact ⟨rfl, HQ.out.any (by omega) (by omega) (by omega)⟩
      · have b2 := beq_false (a := ke) (b := x2) (fun e => e2 (ba_ext e))
        clear e2
        go_quiet (fail)
        have fq : Fresh W (W.drewN nq) := (Keeps.refl _ _).drewN _
        have HQ : Hid (PSt w (KK B (t + 1)) p d C L n A σ D l stop true us x2 x3 v (W.drewN nq)) := HA.out.freshen fq
        have HOq : Hid ((W.drewN nq).heap[wr.heap.size]? = some (.cells #[.int .i64 0, .string us, .string ke, .string da, .int .i64 nn, .slice tao ts.length tcap] 71)) := fq.heap HO.out (fun e => e)
        generalize W.drewN nq = wq at *
        clear c0 c1 c2 c3 c4 c5 c6 f1 f2 f3 fq o1 o2 o3
        go_wp2_with fail
        go_ret
        exact ⟨rfl, HQ.out.any (by omega) (by omega) (by omega)⟩
    · have b1 := beq_false (a := us) (b := x1) (fun e => e1 (ba_ext e))
      clear e1
      go_quiet (fail)
      have fq : Fresh W (W.drewN nq) := (Keeps.refl _ _).drewN _
      have HQ : Hid (PSt w (KK B (t + 1)) p d C L n A σ D l stop true x1 x2 x3 v (W.drewN nq)) := HA.out.freshen fq
      have HOq : Hid ((W.drewN nq).heap[wr.heap.size]? = some (.cells #[.int .i64 0, .string us, .string ke, .string da, .int .i64 nn, .slice tao ts.length tcap] 71)) := fq.heap HO.out (fun e => e)
      generalize W.drewN nq = wq at *
      clear c0 c1 c2 c3 c4 c5 c6 f1 f2 f3 fq o1 o2 o3
      go_wp2_with fail
      go_ret
      exact ⟨rfl, HQ.out.any (by omega) (by omega) (by omega)⟩


end
end Go.Proofs.YtegbkpjcjlihmabGreatDoor
