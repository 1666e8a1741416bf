/-
  The player of mails: step. | The player of mails: step (Stop, Crash). | The player of mails: step (a file beside).
-/
import Derived.Test.YtegbkpjcjlihmabGreatDoorIi
namespace Go.Proofs.YtegbkpjcjlihmabGreatDoor
open Go.RowKit Go.Maps Go.Sort Go.Lib

/-- what stands behind a step -/
def Step5 (w : World) (t p d C L : Nat) (e : Ending) (w' : World) : Prop := e = .returned (.bool true) ∧ ∃ stop', PNext5 w t p d C L stop' w'

section
variable {w we wr w' : World} {t p d C L : Nat} {A T : Nat → Prop} {σ σ' : Dk} {stop : Bool} {s mw N : Nat} {W : Waits} {lv lv' : Int} {b : Bool} {r : Nat} {ρ : Rs} {l l' : List Wg} {may : May} {k : Int} {K : List Text}

set_option maxHeartbeats 16000000 in
set_option maxRecDepth 100000 in
theorem step5_0 (h0 : PS w t p d C L A σ stop s mw N W lv b r ρ we) (hG : Gl w) (h8 : 8 ≤ w.heap.size) (ht : t < 1000000) (_hC : C ≤ 800000000) (hL : L ≤ 400000000) (fa fb : ByteArray) (tv : Value) (dd : ByteArray) (nn mm : Int) (sv : Value) (tl : List Ltr) (ts : List Int) (o : Op5 w 0 fa fb tv dd nn mm sv tl ts) :
    Calls Tryz.prog 9 #[ptr p, opV5 0 fa fb tv dd nn mm sv] we (Step5 w (t + 1) p d (C + 10) (L + (44 * mlW (fa.data.toList, fb.data.toList, tl, dd.data.toList) + 100))) := by
  have h := h0.more
  have hlt : lv + 1 ≤ ((t + 1 : Nat) : Int) := by have := h0.lvt; omega
  have hln : ρ.l.length + 1 ≤ t + 1 := by have := h0.num; omega
  have hN1 : N + 1 ≤ 2 * (t + 1) + 5 := by have := h0.num; omega
  have f0 : Fresh we (we.alloc (opC5 0 fa fb tv dd nn mm sv)) := (Keeps.refl _ _).alloc _
  have hx0 := heap_new we (opC5 0 fa fb tv dd nn mm sv)
  have HP0 : Hid (PS w (t + 1) p d C L A σ stop s mw N W lv b r ρ (we.alloc (opC5 0 fa fb tv dd nn mm sv))) := h.fresh f0
  have hpl := h.lt
  have hA : ∀ i, A i → i < we.heap.size := fun i hi => (h.live.1 i hi).2
  have hwz := h.live.2.2.2.size
  have hwt := o.wt
  have HO : Hid (Op5 w 0 fa fb tv dd nn mm sv tl ts) := o
  have hK5 := K5_len (t + 1)
  obtain ⟨ao, cap, htv, _, _⟩ := o.to_
  obtain ⟨tao, tcap, hsv, _, _, _⟩ := o.ints (fun _ => False) (fun _ e => e.elim)
  subst htv hsv
  clear h0 h o
  unfold opC5 opV5 ptr at *
  go_enter Tryz.func9, Tryz.ntmps9
  go_upto_region 2 with fail
  generalize we.alloc (.cells #[.int .i64 0, .string fa, .string fb, .slice ao tl.length cap, .string dd, .int .i64 nn, .int .i64 mm, .slice tao ts.length tcap] 33) = w0 at *
  have hw0 := f0.size
  have hlt0 := heap_lt hx0
  have HX0 : Hid (w0.heap[we.heap.size]? = some (.cells #[.int .i64 0, .string fa, .string fb, .slice ao tl.length cap, .string dd, .int .i64 nn, .int .i64 mm, .slice tao ts.length tcap] 33)) := hx0
  have x0 : w0.cell? ⟨we.heap.size, 0, none⟩ = some (.int .i64 0) := by rw [Lib.cell_of_heap hx0]; rfl
  clear f0 hx0
  have x1 : w0.cell? ⟨we.heap.size, 1, none⟩ = some (.string fa) := by rw [Lib.cell_of_heap HX0.out]; rfl
  have x2 : w0.cell? ⟨we.heap.size, 2, none⟩ = some (.string fb) := by rw [Lib.cell_of_heap HX0.out]; rfl
  have x3 : w0.cell? ⟨we.heap.size, 3, none⟩ = some (.slice ao tl.length cap) := by rw [Lib.cell_of_heap HX0.out]; rfl
  have x4 : w0.cell? ⟨we.heap.size, 4, none⟩ = some (.string dd) := by rw [Lib.cell_of_heap HX0.out]; rfl
  have hput := putP HP0.out hG hlt hln hN1 (by omega) (by omega) (by omega) fa fb dd ao cap tl hwt HO.out.to_
  have hmt := mlT_len hwt
  unfold ptr mailV at hput
  go_wp2_with fail
  refine hput.mono ?_
  rintro e w1 ⟨rfl, B1, σ1, s1, mw1, N1, W1, lv1, b1, r1, ρ1, hn⟩
  have HN : Hid (∃ stop', PNext5 w (t + 1) p d (C + 10) (L + (44 * mlW (fa.data.toList, fb.data.toList, tl, dd.data.toList) + 100)) stop' w1) := ⟨stop, B1, σ1, s1, mw1, N1, W1, lv1, b1, r1, ρ1, hn.mono (by omega) (by omega)⟩
  clear hput hn hmt x0 x1 x2 x3 x4
  obtain ⟨st7, A7, σ7, s7, mw7, N7, W7, lv7, b7, r7, ρ7, hps7⟩ := HN.out
  obtain ⟨L7, hL7⟩ : ∃ x, x = L + (44 * mlW (fa.data.toList, fb.data.toList, tl, dd.data.toList) + 100) := ⟨_, rfl⟩
  rw [← hL7] at hps7
  have HL7 : Hid (L7 = L + (44 * mlW (fa.data.toList, fb.data.toList, tl, dd.data.toList) + 100)) := hL7
  have HP7 : Hid (PS w (t + 1) p d (C + 10) L7 A7 σ7 st7 s7 mw7 N7 W7 lv7 b7 r7 ρ7 w1) := hps7
  obtain ⟨z0, z1, z2, z3, _⟩ := mcells hps7.cell
  unfold ptr at z0 z1 z2
  have zr : w1.cell? ⟨r7, 2, none⟩ = some (.bool ρ7.dead) := hps7.ref.at 2 _ rfl
  have hL7' : L7 ≤ 500000000 := by omega
  clear hps7 HN hL7
  cases hdd : ρ7.dead with
  | false =>
    rw [hdd] at zr
    have hsh := (HP7.out.fresh ((Keeps.refl (fun _ => False) w1).drew)).shows hG h8 (by omega) hL7' hdd
    unfold ptr at hsh
    have HZ : Hid (∀ W1, Keeps A7 w1 W1 → W1.cell? ⟨p, 1, none⟩ = some (.pointer (some ⟨s7, 0, none⟩)) ∧ W1.cell? ⟨p, 2, none⟩ = some (.pointer (some ⟨r7, 0, none⟩))) := fun W1 k => ⟨cell_keeps k z1 HP7.out.pA, cell_keeps k z2 HP7.out.pA⟩
    clear hdd z0 z3
    go_wp2_with fail
    go_region_held3 (fun W1 => W1.cell? ⟨p, 1, none⟩ = some (.pointer (some ⟨s7, 0, none⟩)) ∧ W1.cell? ⟨p, 2, none⟩ = some (.pointer (some ⟨r7, 0, none⟩))) (first | exact HZ.out _ ((Keeps.refl _ w1).drew) | exact HZ.out _ k8) (first | (go_at_call 20; refine hsh.mono ?_; rintro e w8 ⟨rfl, hp8, k8'⟩; have k8 : Keeps A7 w1 w8 := ((Keeps.refl _ w1).drew).trans k8'))
    have HF : Hid (∃ stop', PNext5 w (t + 1) p d (C + 10) L7 stop' w8) := ⟨st7, A7, σ7, s7, mw7, N7, W7, lv7, b7, r7, ρ7, hp8⟩
    clear hsh hp8 k8 k8' z1 z2
    go_wp2_with fail
    go_ret
    exact ⟨rfl, by rw [← HL7.out]; exact HF.out⟩
  | true =>
    rw [hdd] at zr
    have HF : Hid (∃ stop', PNext5 w (t + 1) p d (C + 10) L7 stop' w1) := ⟨st7, A7, σ7, s7, mw7, N7, W7, lv7, b7, r7, ρ7, HP7.out⟩
    clear hdd z0 z3
    go_wp2_with fail
    go_ret
    exact ⟨rfl, by rw [← HL7.out]; exact HF.out⟩

set_option maxHeartbeats 16000000 in
set_option maxRecDepth 100000 in
theorem step5_2 (h0 : PS w t p d C L A σ stop s mw N W lv b r ρ we) (hG : Gl w) (h8 : 8 ≤ w.heap.size) (ht : t < 1000000) (_hC : C ≤ 800000000) (hL : L ≤ 400000000) (fa fb : ByteArray) (tv : Value) (dd : ByteArray) (nn mm : Int) (sv : Value) (tl : List Ltr) (ts : List Int) (o : Op5 w 2 fa fb tv dd nn mm sv tl ts) :
    Calls Tryz.prog 9 #[ptr p, opV5 2 fa fb tv dd nn mm sv] we (Step5 w (t + 1) p d (C + 10) (L + (44 * mlW (fa.data.toList, fb.data.toList, tl, dd.data.toList) + 100))) := by
  have h := h0.more
  have hlt : lv + 1 ≤ ((t + 1 : Nat) : Int) := by have := h0.lvt; omega
  have hln : ρ.l.length + 1 ≤ t + 1 := by have := h0.num; omega
  have hN1 : N + 1 ≤ 2 * (t + 1) + 5 := by have := h0.num; omega
  have f0 : Fresh we (we.alloc (opC5 2 fa fb tv dd nn mm sv)) := (Keeps.refl _ _).alloc _
  have hx0 := heap_new we (opC5 2 fa fb tv dd nn mm sv)
  have HP0 : Hid (PS w (t + 1) p d C L A σ stop s mw N W lv b r ρ (we.alloc (opC5 2 fa fb tv dd nn mm sv))) := h.fresh f0
  have hpl := h.lt
  have hA : ∀ i, A i → i < we.heap.size := fun i hi => (h.live.1 i hi).2
  have hwz := h.live.2.2.2.size
  have hwt := o.wt
  have HO : Hid (Op5 w 2 fa fb tv dd nn mm sv tl ts) := o
  have hK5 := K5_len (t + 1)
  obtain ⟨ao, cap, htv, _, _⟩ := o.to_
  obtain ⟨tao, tcap, hsv, _, _, _⟩ := o.ints (fun _ => False) (fun _ e => e.elim)
  subst htv hsv
  clear h0 h o
  unfold opC5 opV5 ptr at *
  go_enter Tryz.func9, Tryz.ntmps9
  go_upto_region 2 with fail
  generalize we.alloc (.cells #[.int .i64 2, .string fa, .string fb, .slice ao tl.length cap, .string dd, .int .i64 nn, .int .i64 mm, .slice tao ts.length tcap] 33) = w0 at *
  have hw0 := f0.size
  have hlt0 := heap_lt hx0
  have HX0 : Hid (w0.heap[we.heap.size]? = some (.cells #[.int .i64 2, .string fa, .string fb, .slice ao tl.length cap, .string dd, .int .i64 nn, .int .i64 mm, .slice tao ts.length tcap] 33)) := hx0
  have x0 : w0.cell? ⟨we.heap.size, 0, none⟩ = some (.int .i64 2) := by rw [Lib.cell_of_heap hx0]; rfl
  clear f0 hx0
  have x1 : w0.cell? ⟨we.heap.size, 1, none⟩ = some (.string fa) := by rw [Lib.cell_of_heap HX0.out]; rfl
  have x2 : w0.cell? ⟨we.heap.size, 2, none⟩ = some (.string fb) := by rw [Lib.cell_of_heap HX0.out]; rfl
  have x5 : w0.cell? ⟨we.heap.size, 5, none⟩ = some (.int .i64 nn) := by rw [Lib.cell_of_heap HX0.out]; rfl
  have hsz : fa.data.toList.length + fb.data.toList.length ≤ 1048576 := by
    unfold mlW at hwt
    simp only at hwt
    omega
  have hdone := doneP HP0.out hG (by omega) (by omega) (by omega) nn HO.out.nn_ fa fb ⟨by show fa.data.toList.length ≤ 9223372036854775807; omega, by show fb.data.toList.length ≤ 9223372036854775807; omega⟩
  unfold ptr at hdone
  clear hsz
  go_wp2_with fail
  refine hdone.mono ?_
  rintro e w1 ⟨rfl, ⟨B1, σ1, s1, mw1, N1, W1, lv1, b1, r1, ρ1, hn⟩, _⟩
  have HN : Hid (∃ stop', PNext5 w (t + 1) p d (C + 10) (L + (44 * mlW (fa.data.toList, fb.data.toList, tl, dd.data.toList) + 100)) stop' w1) := ⟨stop, B1, σ1, s1, mw1, N1, W1, lv1, b1, r1, ρ1, hn.mono (by omega) (by omega)⟩
  clear hdone hn x0 x1 x2 x5
  obtain ⟨st7, A7, σ7, s7, mw7, N7, W7, lv7, b7, r7, ρ7, hps7⟩ := HN.out
  obtain ⟨L7, hL7⟩ : ∃ x, x = L + (44 * mlW (fa.data.toList, fb.data.toList, tl, dd.data.toList) + 100) := ⟨_, rfl⟩
  rw [← hL7] at hps7
  have HL7 : Hid (L7 = L + (44 * mlW (fa.data.toList, fb.data.toList, tl, dd.data.toList) + 100)) := hL7
  have HP7 : Hid (PS w (t + 1) p d (C + 10) L7 A7 σ7 st7 s7 mw7 N7 W7 lv7 b7 r7 ρ7 w1) := hps7
  obtain ⟨z0, z1, z2, z3, _⟩ := mcells hps7.cell
  unfold ptr at z0 z1 z2
  have zr : w1.cell? ⟨r7, 2, none⟩ = some (.bool ρ7.dead) := hps7.ref.at 2 _ rfl
  have hL7' : L7 ≤ 500000000 := by omega
  clear hps7 HN hL7
  cases hdd : ρ7.dead with
  | false =>
    rw [hdd] at zr
    have hsh := (HP7.out.fresh ((Keeps.refl (fun _ => False) w1).drew)).shows hG h8 (by omega) hL7' hdd
    unfold ptr at hsh
    have HZ : Hid (∀ W1, Keeps A7 w1 W1 → W1.cell? ⟨p, 1, none⟩ = some (.pointer (some ⟨s7, 0, none⟩)) ∧ W1.cell? ⟨p, 2, none⟩ = some (.pointer (some ⟨r7, 0, none⟩))) := fun W1 k => ⟨cell_keeps k z1 HP7.out.pA, cell_keeps k z2 HP7.out.pA⟩
    clear hdd z0 z3
    go_wp2_with fail
    go_region_held3 (fun W1 => W1.cell? ⟨p, 1, none⟩ = some (.pointer (some ⟨s7, 0, none⟩)) ∧ W1.cell? ⟨p, 2, none⟩ = some (.pointer (some ⟨r7, 0, none⟩))) (first | exact HZ.out _ ((Keeps.refl _ w1).drew) | exact HZ.out _ k8) (first | (go_at_call 20; refine hsh.mono ?_; rintro e w8 ⟨rfl, hp8, k8'⟩; have k8 : Keeps A7 w1 w8 := ((Keeps.refl _ w1).drew).trans k8'))
    have HF : Hid (∃ stop', PNext5 w (t + 1) p d (C + 10) L7 stop' w8) := ⟨st7, A7, σ7, s7, mw7, N7, W7, lv7, b7, r7, ρ7, hp8⟩
    clear hsh hp8 k8 k8' z1 z2
    go_wp2_with fail
    go_ret
    exact ⟨rfl, by rw [← HL7.out]; exact HF.out⟩
  | true =>
    rw [hdd] at zr
    have HF : Hid (∃ stop', PNext5 w (t + 1) p d (C + 10) L7 stop' w1) := ⟨st7, A7, σ7, s7, mw7, N7, W7, lv7, b7, r7, ρ7, HP7.out⟩
    clear hdd z0 z3
    go_wp2_with fail
    go_ret
    exact ⟨rfl, by rw [← HL7.out]; exact HF.out⟩

set_option maxHeartbeats 16000000 in
set_option maxRecDepth 100000 in
theorem step5_5 (h0 : PS w t p d C L A σ stop s mw N W lv b r ρ we) (hG : Gl w) (h8 : 8 ≤ w.heap.size) (ht : t < 1000000) (_hC : C ≤ 800000000) (hL : L ≤ 400000000) (fa fb : ByteArray) (tv : Value) (dd : ByteArray) (nn mm : Int) (sv : Value) (tl : List Ltr) (ts : List Int) (o : Op5 w 5 fa fb tv dd nn mm sv tl ts) :
    Calls Tryz.prog 9 #[ptr p, opV5 5 fa fb tv dd nn mm sv] we (Step5 w (t + 1) p d (C + 10) (L + (44 * mlW (fa.data.toList, fb.data.toList, tl, dd.data.toList) + 100))) := by
  have h := h0.more
  have hlt : lv + 1 ≤ ((t + 1 : Nat) : Int) := by have := h0.lvt; omega
  have hln : ρ.l.length + 1 ≤ t + 1 := by have := h0.num; omega
  have hN1 : N + 1 ≤ 2 * (t + 1) + 5 := by have := h0.num; omega
  have f0 : Fresh we (we.alloc (opC5 5 fa fb tv dd nn mm sv)) := (Keeps.refl _ _).alloc _
  have hx0 := heap_new we (opC5 5 fa fb tv dd nn mm sv)
  have HP0 : Hid (PS w (t + 1) p d C L A σ stop s mw N W lv b r ρ (we.alloc (opC5 5 fa fb tv dd nn mm sv))) := h.fresh f0
  have hpl := h.lt
  have hA : ∀ i, A i → i < we.heap.size := fun i hi => (h.live.1 i hi).2
  have hwz := h.live.2.2.2.size
  have hwt := o.wt
  have HO : Hid (Op5 w 5 fa fb tv dd nn mm sv tl ts) := o
  have hK5 := K5_len (t + 1)
  obtain ⟨ao, cap, htv, _, _⟩ := o.to_
  obtain ⟨tao, tcap, hsv, _, _, _⟩ := o.ints (fun _ => False) (fun _ e => e.elim)
  subst htv hsv
  clear h0 h o
  unfold opC5 opV5 ptr at *
  go_enter Tryz.func9, Tryz.ntmps9
  go_upto_region 2 with fail
  generalize we.alloc (.cells #[.int .i64 5, .string fa, .string fb, .slice ao tl.length cap, .string dd, .int .i64 nn, .int .i64 mm, .slice tao ts.length tcap] 33) = w0 at *
  have hw0 := f0.size
  have hlt0 := heap_lt hx0
  have HX0 : Hid (w0.heap[we.heap.size]? = some (.cells #[.int .i64 5, .string fa, .string fb, .slice ao tl.length cap, .string dd, .int .i64 nn, .int .i64 mm, .slice tao ts.length tcap] 33)) := hx0
  have x0 : w0.cell? ⟨we.heap.size, 0, none⟩ = some (.int .i64 5) := by rw [Lib.cell_of_heap hx0]; rfl
  clear f0 hx0
  have x1 : w0.cell? ⟨we.heap.size, 1, none⟩ = some (.string fa) := by rw [Lib.cell_of_heap HX0.out]; rfl
  have x2 : w0.cell? ⟨we.heap.size, 2, none⟩ = some (.string fb) := by rw [Lib.cell_of_heap HX0.out]; rfl
  have x3 : w0.cell? ⟨we.heap.size, 3, none⟩ = some (.slice ao tl.length cap) := by rw [Lib.cell_of_heap HX0.out]; rfl
  have x4 : w0.cell? ⟨we.heap.size, 4, none⟩ = some (.string dd) := by rw [Lib.cell_of_heap HX0.out]; rfl
  have x5 : w0.cell? ⟨we.heap.size, 5, none⟩ = some (.int .i64 nn) := by rw [Lib.cell_of_heap HX0.out]; rfl
  have x6 : w0.cell? ⟨we.heap.size, 6, none⟩ = some (.int .i64 mm) := by rw [Lib.cell_of_heap HX0.out]; rfl
  have x7 : w0.cell? ⟨we.heap.size, 7, none⟩ = some (.slice tao ts.length tcap) := by rw [Lib.cell_of_heap HX0.out]; rfl
  obtain ⟨may, hos⟩ := HP0.out.os hlt hln
  have hop := openP hos hG h8 (by omega) (by omega) (by omega) 5 fa fb dd (.slice ao tl.length cap) nn mm (.slice tao ts.length tcap) ts HO.out.ints
  unfold ptr opV5 at hop
  clear hos
  go_wp2_with fail
  refine hop.mono ?_
  rintro e w1 ⟨rfl, stop', B1, σ1, s1, mw1, N1, W1, lv1, b1, r1, ρ1, hn⟩
  have HN : Hid (∃ stop', PNext5 w (t + 1) p d (C + 10) (L + (44 * mlW (fa.data.toList, fb.data.toList, tl, dd.data.toList) + 100)) stop' w1) := ⟨stop', B1, σ1, s1, mw1, N1, W1, lv1, b1, r1, ρ1, hn.mono (by omega) (by omega)⟩
  clear hop hn x0 x1 x2 x3 x4 x5 x6 x7
  obtain ⟨st7, A7, σ7, s7, mw7, N7, W7, lv7, b7, r7, ρ7, hps7⟩ := HN.out
  obtain ⟨L7, hL7⟩ : ∃ x, x = L + (44 * mlW (fa.data.toList, fb.data.toList, tl, dd.data.toList) + 100) := ⟨_, rfl⟩
  rw [← hL7] at hps7
  have HL7 : Hid (L7 = L + (44 * mlW (fa.data.toList, fb.data.toList, tl, dd.data.toList) + 100)) := hL7
  have HP7 : Hid (PS w (t + 1) p d (C + 10) L7 A7 σ7 st7 s7 mw7 N7 W7 lv7 b7 r7 ρ7 w1) := hps7
  obtain ⟨z0, z1, z2, z3, _⟩ := mcells hps7.cell
  unfold ptr at z0 z1 z2
  have zr : w1.cell? ⟨r7, 2, none⟩ = some (.bool ρ7.dead) := hps7.ref.at 2 _ rfl
  have hL7' : L7 ≤ 500000000 := by omega
  clear hps7 HN hL7
  cases hdd : ρ7.dead with
  | false =>
    rw [hdd] at zr
    have hsh := (HP7.out.fresh ((Keeps.refl (fun _ => False) w1).drew)).shows hG h8 (by omega) hL7' hdd
    unfold ptr at hsh
    have HZ : Hid (∀ W1, Keeps A7 w1 W1 → W1.cell? ⟨p, 1, none⟩ = some (.pointer (some ⟨s7, 0, none⟩)) ∧ W1.cell? ⟨p, 2, none⟩ = some (.pointer (some ⟨r7, 0, none⟩))) := fun W1 k => ⟨cell_keeps k z1 HP7.out.pA, cell_keeps k z2 HP7.out.pA⟩
    clear hdd z0 z3
    go_wp2_with fail
    go_region_held3 (fun W1 => W1.cell? ⟨p, 1, none⟩ = some (.pointer (some ⟨s7, 0, none⟩)) ∧ W1.cell? ⟨p, 2, none⟩ = some (.pointer (some ⟨r7, 0, none⟩))) (first | exact HZ.out _ ((Keeps.refl _ w1).drew) | exact HZ.out _ k8) (first | (go_at_call 20; refine hsh.mono ?_; rintro e w8 ⟨rfl, hp8, k8'⟩; have k8 : Keeps A7 w1 w8 := ((Keeps.refl _ w1).drew).trans k8'))
    have HF : Hid (∃ stop', PNext5 w (t + 1) p d (C + 10) L7 stop' w8) := ⟨st7, A7, σ7, s7, mw7, N7, W7, lv7, b7, r7, ρ7, hp8⟩
    clear hsh hp8 k8 k8' z1 z2
    go_wp2_with fail
    go_ret
    exact ⟨rfl, by rw [← HL7.out]; exact HF.out⟩
  | true =>
    rw [hdd] at zr
    have HF : Hid (∃ stop', PNext5 w (t + 1) p d (C + 10) L7 stop' w1) := ⟨st7, A7, σ7, s7, mw7, N7, W7, lv7, b7, r7, ρ7, HP7.out⟩
    clear hdd z0 z3
    go_wp2_with fail
    go_ret
    exact ⟨rfl, by rw [← HL7.out]; exact HF.out⟩

set_option maxHeartbeats 16000000 in
set_option maxRecDepth 100000 in
theorem step5_kind (h0 : PS w t p d C L A σ stop s mw N W lv b r ρ we) (hG : Gl w) (h8 : 8 ≤ w.heap.size) (ht : t < 1000000) (_hC : C ≤ 800000000) (hL : L ≤ 400000000) (kind : Int) (fa fb : ByteArray) (tv : Value) (dd : ByteArray) (nn mm : Int) (sv : Value) (tl : List Ltr) (ts : List Int) (o : Op5 w kind fa fb tv dd nn mm sv tl ts) (k0 : kind ≠ 0) (k1 : kind ≠ 1) (k2 : kind ≠ 2) (k3 : kind ≠ 3) (k4 : kind ≠ 4) (k5 : kind ≠ 5) (k6 : kind ≠ 6) :
    Calls Tryz.prog 9 #[ptr p, opV5 kind fa fb tv dd nn mm sv] we (Step5 w (t + 1) p d (C + 10) (L + (44 * mlW (fa.data.toList, fb.data.toList, tl, dd.data.toList) + 100))) := by
  have h := h0.more
  have hlt : lv + 1 ≤ ((t + 1 : Nat) : Int) := by have := h0.lvt; omega
  have hln : ρ.l.length + 1 ≤ t + 1 := by have := h0.num; omega
  have hN1 : N + 1 ≤ 2 * (t + 1) + 5 := by have := h0.num; omega
  have f0 : Fresh we (we.alloc (opC5 kind fa fb tv dd nn mm sv)) := (Keeps.refl _ _).alloc _
  have hx0 := heap_new we (opC5 kind fa fb tv dd nn mm sv)
  have HP0 : Hid (PS w (t + 1) p d C L A σ stop s mw N W lv b r ρ (we.alloc (opC5 kind fa fb tv dd nn mm sv))) := h.fresh f0
  have hpl := h.lt
  have hA : ∀ i, A i → i < we.heap.size := fun i hi => (h.live.1 i hi).2
  have hwz := h.live.2.2.2.size
  have hwt := o.wt
  have HO : Hid (Op5 w kind fa fb tv dd nn mm sv tl ts) := o
  have hK5 := K5_len (t + 1)
  obtain ⟨ao, cap, htv, _, _⟩ := o.to_
  obtain ⟨tao, tcap, hsv, _, _, _⟩ := o.ints (fun _ => False) (fun _ e => e.elim)
  subst htv hsv
  clear h0 h o
  unfold opC5 opV5 ptr at *
  go_enter Tryz.func9, Tryz.ntmps9
  have e0 := beq_eq_false_iff_ne.2 k0
  have e1 := beq_eq_false_iff_ne.2 k1
  have e2 := beq_eq_false_iff_ne.2 k2
  have e3 := beq_eq_false_iff_ne.2 k3
  have e4 := beq_eq_false_iff_ne.2 k4
  have e5 := beq_eq_false_iff_ne.2 k5
  have e6 := beq_eq_false_iff_ne.2 k6
  go_upto_region 2 with fail
  generalize we.alloc (.cells #[.int .i64 kind, .string fa, .string fb, .slice ao tl.length cap, .string dd, .int .i64 nn, .int .i64 mm, .slice tao ts.length tcap] 33) = w0 at *
  have hw0 := f0.size
  have hlt0 := heap_lt hx0
  have HX0 : Hid (w0.heap[we.heap.size]? = some (.cells #[.int .i64 kind, .string fa, .string fb, .slice ao tl.length cap, .string dd, .int .i64 nn, .int .i64 mm, .slice tao ts.length tcap] 33)) := hx0
  have x0 : w0.cell? ⟨we.heap.size, 0, none⟩ = some (.int .i64 kind) := by rw [Lib.cell_of_heap hx0]; rfl
  clear f0 hx0
  have HN : Hid (∃ stop', PNext5 w (t + 1) p d (C + 10) (L + (44 * mlW (fa.data.toList, fb.data.toList, tl, dd.data.toList) + 100)) stop' w0) := ⟨stop, A, σ, s, mw, N, W, lv, b, r, ρ, HP0.out.mono (by omega) (by omega)⟩
  obtain ⟨st7, A7, σ7, s7, mw7, N7, W7, lv7, b7, r7, ρ7, hps7⟩ := HN.out
  obtain ⟨L7, hL7⟩ : ∃ x, x = L + (44 * mlW (fa.data.toList, fb.data.toList, tl, dd.data.toList) + 100) := ⟨_, rfl⟩
  rw [← hL7] at hps7
  have HL7 : Hid (L7 = L + (44 * mlW (fa.data.toList, fb.data.toList, tl, dd.data.toList) + 100)) := hL7
  have HP7 : Hid (PS w (t + 1) p d (C + 10) L7 A7 σ7 st7 s7 mw7 N7 W7 lv7 b7 r7 ρ7 w0) := hps7
  obtain ⟨z0, z1, z2, z3, _⟩ := mcells hps7.cell
  unfold ptr at z0 z1 z2
  have zr : w0.cell? ⟨r7, 2, none⟩ = some (.bool ρ7.dead) := hps7.ref.at 2 _ rfl
  have hL7' : L7 ≤ 500000000 := by omega
  clear hps7 HN hL7
  cases hdd : ρ7.dead with
  | false =>
    rw [hdd] at zr
    have hsh := (HP7.out.fresh ((Keeps.refl (fun _ => False) w0).drew)).shows hG h8 (by omega) hL7' hdd
    unfold ptr at hsh
    have HZ : Hid (∀ W1, Keeps A7 w0 W1 → W1.cell? ⟨p, 1, none⟩ = some (.pointer (some ⟨s7, 0, none⟩)) ∧ W1.cell? ⟨p, 2, none⟩ = some (.pointer (some ⟨r7, 0, none⟩))) := fun W1 k => ⟨cell_keeps k z1 HP7.out.pA, cell_keeps k z2 HP7.out.pA⟩
    clear hdd z0 z3
    go_wp2_with fail
    go_region_held3 (fun W1 => W1.cell? ⟨p, 1, none⟩ = some (.pointer (some ⟨s7, 0, none⟩)) ∧ W1.cell? ⟨p, 2, none⟩ = some (.pointer (some ⟨r7, 0, none⟩))) (first | exact HZ.out _ ((Keeps.refl _ w0).drew) | exact HZ.out _ k8) (first | (go_at_call 20; refine hsh.mono ?_; rintro e w8 ⟨rfl, hp8, k8'⟩; have k8 : Keeps A7 w0 w8 := ((Keeps.refl _ w0).drew).trans k8'))
    have HF : Hid (∃ stop', PNext5 w (t + 1) p d (C + 10) L7 stop' w8) := ⟨st7, A7, σ7, s7, mw7, N7, W7, lv7, b7, r7, ρ7, hp8⟩
    clear hsh hp8 k8 k8' z1 z2
    go_wp2_with fail
    go_ret
    exact ⟨rfl, by rw [← HL7.out]; exact HF.out⟩
  | true =>
    rw [hdd] at zr
    have HF : Hid (∃ stop', PNext5 w (t + 1) p d (C + 10) L7 stop' w0) := ⟨st7, A7, σ7, s7, mw7, N7, W7, lv7, b7, r7, ρ7, HP7.out⟩
    clear hdd z0 z3
    go_wp2_with fail
    go_ret
    exact ⟨rfl, by rw [← HL7.out]; exact HF.out⟩

end
end Go.Proofs.YtegbkpjcjlihmabGreatDoor

namespace Go.Proofs.YtegbkpjcjlihmabGreatDoor
open Go.RowKit Go.Maps Go.Sort Go.Lib

section
variable {w we wr w' : World} {t p d C L : Nat} {A T : Nat → Prop} {σ σ' : Dk} {stop : Bool} {s mw N : Nat} {W : Waits} {lv lv' : Int} {b : Bool} {r : Nat} {ρ : Rs} {l l' : List Wg} {may : May} {k : Int} {K : List Text}

set_option maxHeartbeats 16000000 in
set_option maxRecDepth 100000 in
theorem step5_3 (h0 : PS w t p d C L A σ stop s mw N W lv b r ρ we) (hG : Gl w) (h8 : 8 ≤ w.heap.size) (ht : t < 1000000) (_hC : C ≤ 800000000) (hL : L ≤ 400000000) (fa fb : ByteArray) (tv : Value) (dd : ByteArray) (nn mm : Int) (sv : Value) (tl : List Ltr) (ts : List Int) (o : Op5 w 3 fa fb tv dd nn mm sv tl ts) :
    Calls Tryz.prog 9 #[ptr p, opV5 3 fa fb tv dd nn mm sv] we (Step5 w (t + 1) p d (C + 10) (L + (44 * mlW (fa.data.toList, fb.data.toList, tl, dd.data.toList) + 100))) := by
  have h := h0.more
  have hlt : lv + 1 ≤ ((t + 1 : Nat) : Int) := by have := h0.lvt; omega
  have hln : ρ.l.length + 1 ≤ t + 1 := by have := h0.num; omega
  have hN1 : N + 1 ≤ 2 * (t + 1) + 5 := by have := h0.num; omega
  have f0 : Fresh we (we.alloc (opC5 3 fa fb tv dd nn mm sv)) := (Keeps.refl _ _).alloc _
  have hx0 := heap_new we (opC5 3 fa fb tv dd nn mm sv)
  have HP0 : Hid (PS w (t + 1) p d C L A σ stop s mw N W lv b r ρ (we.alloc (opC5 3 fa fb tv dd nn mm sv))) := h.fresh f0
  have hpl := h.lt
  have hA : ∀ i, A i → i < we.heap.size := fun i hi => (h.live.1 i hi).2
  have hwz := h.live.2.2.2.size
  have hwt := o.wt
  have HO : Hid (Op5 w 3 fa fb tv dd nn mm sv tl ts) := o
  have hK5 := K5_len (t + 1)
  obtain ⟨ao, cap, htv, _, _⟩ := o.to_
  obtain ⟨tao, tcap, hsv, _, _, _⟩ := o.ints (fun _ => False) (fun _ e => e.elim)
  subst htv hsv
  clear h0 h o
  unfold opC5 opV5 ptr at *
  go_enter Tryz.func9, Tryz.ntmps9
  go_upto_region 2 with fail
  generalize we.alloc (.cells #[.int .i64 3, .string fa, .string fb, .slice ao tl.length cap, .string dd, .int .i64 nn, .int .i64 mm, .slice tao ts.length tcap] 33) = w0 at *
  have hw0 := f0.size
  have hlt0 := heap_lt hx0
  have HX0 : Hid (w0.heap[we.heap.size]? = some (.cells #[.int .i64 3, .string fa, .string fb, .slice ao tl.length cap, .string dd, .int .i64 nn, .int .i64 mm, .slice tao ts.length tcap] 33)) := hx0
  have x0 : w0.cell? ⟨we.heap.size, 0, none⟩ = some (.int .i64 3) := by rw [Lib.cell_of_heap hx0]; rfl
  clear f0 hx0
  have x5 : w0.cell? ⟨we.heap.size, 5, none⟩ = some (.int .i64 nn) := by rw [Lib.cell_of_heap HX0.out]; rfl
  obtain ⟨p0, p1, p2, p3, pf0, pf1, pf2, pf3⟩ := mcells HP0.out.cell
  unfold ptr at p0 p1 p2
  have hst := (HP0.out.live.fresh ((Keeps.refl _ w0).drew)).stop nn (by have := HO.out.nn_; unfold okI at this; omega)
  unfold ptr at hst
  have hnW : ¬ A we.heap.size := fun e => by have := hA _ e; omega
  go_wp2_with fail
  go_region_held3 (fun w' => w'.cell? ⟨p, 0, none⟩ = some (.pointer (some ⟨d, 0, none⟩)) ∧ w'.cell? ⟨we.heap.size, 5, none⟩ = some (.int .i64 nn)) (first | exact ⟨p0, x5⟩ | exact ⟨cell_keeps k3 p0 HP0.out.pA, cell_keeps k3 x5 hnW⟩) (first | (go_at_call 28; refine hst.mono ?_; rintro e w3 ⟨rfl, h3, k3'⟩; have k3 : Keeps A w0 w3 := ((Keeps.refl _ w0).drew).trans k3'))
  have hc3 := k3.heap HP0.out.cell HP0.out.pA
  obtain ⟨q0, q1, q2, q3, qf0, qf1, qf2, qf3⟩ := mcells hc3
  unfold ptr at q0 q1 q2
  have HN : Hid (∃ stop', PNext5 w (t + 1) p d (C + 10) (L + (44 * mlW (fa.data.toList, fb.data.toList, tl, dd.data.toList) + 100)) stop' (w3.setCell ⟨p, 3, none⟩ (.bool true))) := ⟨true, _, _, s, mw, N, W, lv, b, r, ρ, (HP0.out.stop1 h3 k3 ext_new).mono (by omega) (by omega)⟩
  clear hst h3 k3 k3' hc3 p0 p1 p2 p3 pf0 pf1 pf2 pf3 x0 x5
  go_upto_region 25 with fail
  generalize w3.setCell ⟨p, 3, none⟩ (.bool true) = w4 at *
  clear q0 q1 q2 q3 qf0 qf1 qf2 qf3
  obtain ⟨st7, A7, σ7, s7, mw7, N7, W7, lv7, b7, r7, ρ7, hps7⟩ := HN.out
  obtain ⟨L7, hL7⟩ : ∃ x, x = L + (44 * mlW (fa.data.toList, fb.data.toList, tl, dd.data.toList) + 100) := ⟨_, rfl⟩
  rw [← hL7] at hps7
  have HL7 : Hid (L7 = L + (44 * mlW (fa.data.toList, fb.data.toList, tl, dd.data.toList) + 100)) := hL7
  have HP7 : Hid (PS w (t + 1) p d (C + 10) L7 A7 σ7 st7 s7 mw7 N7 W7 lv7 b7 r7 ρ7 w4) := hps7
  obtain ⟨z0, z1, z2, z3, _⟩ := mcells hps7.cell
  unfold ptr at z0 z1 z2
  have zr : w4.cell? ⟨r7, 2, none⟩ = some (.bool ρ7.dead) := hps7.ref.at 2 _ rfl
  have hL7' : L7 ≤ 500000000 := by omega
  clear hps7 HN hL7
  cases hdd : ρ7.dead with
  | false =>
    rw [hdd] at zr
    have hsh := (HP7.out.fresh ((Keeps.refl (fun _ => False) w4).drew)).shows hG h8 (by omega) hL7' hdd
    unfold ptr at hsh
    have HZ : Hid (∀ W1, Keeps A7 w4 W1 → W1.cell? ⟨p, 1, none⟩ = some (.pointer (some ⟨s7, 0, none⟩)) ∧ W1.cell? ⟨p, 2, none⟩ = some (.pointer (some ⟨r7, 0, none⟩))) := fun W1 k => ⟨cell_keeps k z1 HP7.out.pA, cell_keeps k z2 HP7.out.pA⟩
    clear hdd z0 z3
    go_wp2_with fail
    go_region_held3 (fun W1 => W1.cell? ⟨p, 1, none⟩ = some (.pointer (some ⟨s7, 0, none⟩)) ∧ W1.cell? ⟨p, 2, none⟩ = some (.pointer (some ⟨r7, 0, none⟩))) (first | exact HZ.out _ ((Keeps.refl _ w4).drew) | exact HZ.out _ k8) (first | (go_at_call 20; refine hsh.mono ?_; rintro e w8 ⟨rfl, hp8, k8'⟩; have k8 : Keeps A7 w4 w8 := ((Keeps.refl _ w4).drew).trans k8'))
    have HF : Hid (∃ stop', PNext5 w (t + 1) p d (C + 10) L7 stop' w8) := ⟨st7, A7, σ7, s7, mw7, N7, W7, lv7, b7, r7, ρ7, hp8⟩
    clear hsh hp8 k8 k8' z1 z2
    go_wp2_with fail
    go_ret
    exact ⟨rfl, by rw [← HL7.out]; exact HF.out⟩
  | true =>
    rw [hdd] at zr
    have HF : Hid (∃ stop', PNext5 w (t + 1) p d (C + 10) L7 stop' w4) := ⟨st7, A7, σ7, s7, mw7, N7, W7, lv7, b7, r7, ρ7, HP7.out⟩
    clear hdd z0 z3
    go_wp2_with fail
    go_ret
    exact ⟨rfl, by rw [← HL7.out]; exact HF.out⟩

set_option maxHeartbeats 16000000 in
set_option maxRecDepth 100000 in
theorem step5_4 (h0 : PS w t p d C L A σ stop s mw N W lv b r ρ we) (hG : Gl w) (h8 : 8 ≤ w.heap.size) (ht : t < 1000000) (_hC : C ≤ 800000000) (hL : L ≤ 400000000) (fa fb : ByteArray) (tv : Value) (dd : ByteArray) (nn mm : Int) (sv : Value) (tl : List Ltr) (ts : List Int) (o : Op5 w 4 fa fb tv dd nn mm sv tl ts) :
    Calls Tryz.prog 9 #[ptr p, opV5 4 fa fb tv dd nn mm sv] we (Step5 w (t + 1) p d (C + 10) (L + (44 * mlW (fa.data.toList, fb.data.toList, tl, dd.data.toList) + 100))) := by
  have h := h0.more
  have hlt : lv + 1 ≤ ((t + 1 : Nat) : Int) := by have := h0.lvt; omega
  have hln : ρ.l.length + 1 ≤ t + 1 := by have := h0.num; omega
  have hN1 : N + 1 ≤ 2 * (t + 1) + 5 := by have := h0.num; omega
  have f0 : Fresh we (we.alloc (opC5 4 fa fb tv dd nn mm sv)) := (Keeps.refl _ _).alloc _
  have hx0 := heap_new we (opC5 4 fa fb tv dd nn mm sv)
  have HP0 : Hid (PS w (t + 1) p d C L A σ stop s mw N W lv b r ρ (we.alloc (opC5 4 fa fb tv dd nn mm sv))) := h.fresh f0
  have hpl := h.lt
  have hA : ∀ i, A i → i < we.heap.size := fun i hi => (h.live.1 i hi).2
  have hwz := h.live.2.2.2.size
  have hwt := o.wt
  have HO : Hid (Op5 w 4 fa fb tv dd nn mm sv tl ts) := o
  have hK5 := K5_len (t + 1)
  obtain ⟨ao, cap, htv, _, _⟩ := o.to_
  obtain ⟨tao, tcap, hsv, _, _, _⟩ := o.ints (fun _ => False) (fun _ e => e.elim)
  subst htv hsv
  clear h0 h o
  unfold opC5 opV5 ptr at *
  go_enter Tryz.func9, Tryz.ntmps9
  go_upto_region 2 with fail
  generalize we.alloc (.cells #[.int .i64 4, .string fa, .string fb, .slice ao tl.length cap, .string dd, .int .i64 nn, .int .i64 mm, .slice tao ts.length tcap] 33) = w0 at *
  have hw0 := f0.size
  have hlt0 := heap_lt hx0
  have HX0 : Hid (w0.heap[we.heap.size]? = some (.cells #[.int .i64 4, .string fa, .string fb, .slice ao tl.length cap, .string dd, .int .i64 nn, .int .i64 mm, .slice tao ts.length tcap] 33)) := hx0
  have x0 : w0.cell? ⟨we.heap.size, 0, none⟩ = some (.int .i64 4) := by rw [Lib.cell_of_heap hx0]; rfl
  clear f0 hx0
  have x5 : w0.cell? ⟨we.heap.size, 5, none⟩ = some (.int .i64 nn) := by rw [Lib.cell_of_heap HX0.out]; rfl
  have x7 : w0.cell? ⟨we.heap.size, 7, none⟩ = some (.slice tao ts.length tcap) := by rw [Lib.cell_of_heap HX0.out]; rfl
  obtain ⟨p0, p1, p2, p3, pf0, pf1, pf2, pf3⟩ := mcells HP0.out.cell
  unfold ptr at p0 p1 p2
  obtain ⟨may, hos⟩ := HP0.out.os hlt hln
  have hcr := (HP0.out.live.fresh ((Keeps.refl _ w0).drew)).crash (by omega) (by omega) (by omega) nn (.slice tao ts.length tcap) ts ((HO.out.ints A (fun i hi => (HP0.out.live.1 i hi).1)).fresh (HP0.out.live.2.2.2.drew))
  unfold ptr at hcr
  have HOS : Hid (OS w (t + 1) p d C L A σ stop s r ρ lv may w0) := hos
  clear hos
  have hnW : ¬ A we.heap.size := fun e => by have := hA _ e; omega
  go_wp2_with fail
  go_region_held3 (fun w' => w'.cell? ⟨p, 0, none⟩ = some (.pointer (some ⟨d, 0, none⟩)) ∧ w'.cell? ⟨we.heap.size, 5, none⟩ = some (.int .i64 nn) ∧ w'.cell? ⟨we.heap.size, 7, none⟩ = some (.slice tao ts.length tcap)) (first | exact ⟨p0, x5, x7⟩ | exact ⟨cell_keeps k3 p0 HP0.out.pA, cell_keeps k3 x5 hnW, cell_keeps k3 x7 hnW⟩) (first | (go_at_call 10; refine hcr.mono ?_; rintro e w3 ⟨ks, rfl, hso, h3, k3'⟩; have k3 : Keeps A w0 w3 := ((Keeps.refl _ w0).drew).trans k3'))
  have hc3 := k3.heap HP0.out.cell HP0.out.pA
  obtain ⟨q0, q1, q2, q3, qf0, qf1, qf2, qf3⟩ := mcells hc3
  unfold ptr at q0 q1 q2
  have HOS3 : Hid (OS w (t + 1) p d C L (ext A w0.drew w3) (σ.crashed (min nn.toNat σ.chs.length) ks ts) false s r ρ lv may (w3.setCell ⟨p, 3, none⟩ (.bool false))) := (HOS.out.next h3 k3 ext_new (fun _ => rfl) (HOS.out.inv.crashed HOS.out.live.2.2.1 _ ks ts)).setStop (fun _ => rfl)
  have HX3 : Hid ((w3.setCell ⟨p, 3, none⟩ (.bool false)).heap[we.heap.size]? = some (.cells #[.int .i64 4, .string fa, .string fb, .slice ao tl.length cap, .string dd, .int .i64 nn, .int .i64 mm, .slice tao ts.length tcap] 33)) := ((Keeps.refl (fun i => i = p) w3).setCell (p := ⟨p, 3, none⟩) (fun _ => rfl) _).heap (k3.heap HX0.out hnW) (fun e => by omega)
  clear hcr h3 k3 k3' hso hc3 p0 p1 p2 p3 pf0 pf1 pf2 pf3 x0 x5 x7 HOS
  generalize σ.crashed (min nn.toNat σ.chs.length) ks ts = σ3 at *
  generalize ext A w0.drew w3 = A3 at *
  go_upto_region 17 with fail
  generalize w3.setCell ⟨p, 3, none⟩ (.bool false) = w4 at *
  clear q0 q1 q2 q3 qf0 qf1 qf2 qf3
  have x0 : w4.cell? ⟨we.heap.size, 0, none⟩ = some (.int .i64 4) := by rw [Lib.cell_of_heap HX3.out]; rfl
  have x1 : w4.cell? ⟨we.heap.size, 1, none⟩ = some (.string fa) := by rw [Lib.cell_of_heap HX3.out]; rfl
  have x2 : w4.cell? ⟨we.heap.size, 2, none⟩ = some (.string fb) := by rw [Lib.cell_of_heap HX3.out]; rfl
  have x3 : w4.cell? ⟨we.heap.size, 3, none⟩ = some (.slice ao tl.length cap) := by rw [Lib.cell_of_heap HX3.out]; rfl
  have x4 : w4.cell? ⟨we.heap.size, 4, none⟩ = some (.string dd) := by rw [Lib.cell_of_heap HX3.out]; rfl
  have x5 : w4.cell? ⟨we.heap.size, 5, none⟩ = some (.int .i64 nn) := by rw [Lib.cell_of_heap HX3.out]; rfl
  have x6 : w4.cell? ⟨we.heap.size, 6, none⟩ = some (.int .i64 mm) := by rw [Lib.cell_of_heap HX3.out]; rfl
  have x7 : w4.cell? ⟨we.heap.size, 7, none⟩ = some (.slice tao ts.length tcap) := by rw [Lib.cell_of_heap HX3.out]; rfl
  have hop := openP HOS3.out hG h8 (by omega) (by omega) (by omega) 4 fa fb dd (.slice ao tl.length cap) nn mm (.slice tao ts.length tcap) ts HO.out.ints
  unfold ptr opV5 at hop
  go_wp2_with fail
  refine hop.mono ?_
  rintro e w5 ⟨rfl, stop', B1, σ1, s1, mw1, N1, W1, lv1, b1, r1, ρ1, hn⟩
  have HN : Hid (∃ stop', PNext5 w (t + 1) p d (C + 10) (L + (44 * mlW (fa.data.toList, fb.data.toList, tl, dd.data.toList) + 100)) stop' w5) := ⟨stop', B1, σ1, s1, mw1, N1, W1, lv1, b1, r1, ρ1, hn.mono (by omega) (by omega)⟩
  clear hop hn x0 x1 x2 x3 x4 x5 x6 x7
  obtain ⟨st7, A7, σ7, s7, mw7, N7, W7, lv7, b7, r7, ρ7, hps7⟩ := HN.out
  obtain ⟨L7, hL7⟩ : ∃ x, x = L + (44 * mlW (fa.data.toList, fb.data.toList, tl, dd.data.toList) + 100) := ⟨_, rfl⟩
  rw [← hL7] at hps7
  have HL7 : Hid (L7 = L + (44 * mlW (fa.data.toList, fb.data.toList, tl, dd.data.toList) + 100)) := hL7
  have HP7 : Hid (PS w (t + 1) p d (C + 10) L7 A7 σ7 st7 s7 mw7 N7 W7 lv7 b7 r7 ρ7 w5) := hps7
  obtain ⟨z0, z1, z2, z3, _⟩ := mcells hps7.cell
  unfold ptr at z0 z1 z2
  have zr : w5.cell? ⟨r7, 2, none⟩ = some (.bool ρ7.dead) := hps7.ref.at 2 _ rfl
  have hL7' : L7 ≤ 500000000 := by omega
  clear hps7 HN hL7
  cases hdd : ρ7.dead with
  | false =>
    rw [hdd] at zr
    have hsh := (HP7.out.fresh ((Keeps.refl (fun _ => False) w5).drew)).shows hG h8 (by omega) hL7' hdd
    unfold ptr at hsh
    have HZ : Hid (∀ W1, Keeps A7 w5 W1 → W1.cell? ⟨p, 1, none⟩ = some (.pointer (some ⟨s7, 0, none⟩)) ∧ W1.cell? ⟨p, 2, none⟩ = some (.pointer (some ⟨r7, 0, none⟩))) := fun W1 k => ⟨cell_keeps k z1 HP7.out.pA, cell_keeps k z2 HP7.out.pA⟩
    clear hdd z0 z3
    go_wp2_with fail
    go_region_held3 (fun W1 => W1.cell? ⟨p, 1, none⟩ = some (.pointer (some ⟨s7, 0, none⟩)) ∧ W1.cell? ⟨p, 2, none⟩ = some (.pointer (some ⟨r7, 0, none⟩))) (first | exact HZ.out _ ((Keeps.refl _ w5).drew) | exact HZ.out _ k8) (first | (go_at_call 20; refine hsh.mono ?_; rintro e w8 ⟨rfl, hp8, k8'⟩; have k8 : Keeps A7 w5 w8 := ((Keeps.refl _ w5).drew).trans k8'))
    have HF : Hid (∃ stop', PNext5 w (t + 1) p d (C + 10) L7 stop' w8) := ⟨st7, A7, σ7, s7, mw7, N7, W7, lv7, b7, r7, ρ7, hp8⟩
    clear hsh hp8 k8 k8' z1 z2
    go_wp2_with fail
    go_ret
    exact ⟨rfl, by rw [← HL7.out]; exact HF.out⟩
  | true =>
    rw [hdd] at zr
    have HF : Hid (∃ stop', PNext5 w (t + 1) p d (C + 10) L7 stop' w5) := ⟨st7, A7, σ7, s7, mw7, N7, W7, lv7, b7, r7, ρ7, HP7.out⟩
    clear hdd z0 z3
    go_wp2_with fail
    go_ret
    exact ⟨rfl, by rw [← HL7.out]; exact HF.out⟩

end
end Go.Proofs.YtegbkpjcjlihmabGreatDoor

namespace Go.Proofs.YtegbkpjcjlihmabGreatDoor
open Go.RowKit Go.Maps Go.Sort Go.Lib

section
variable {w we wr w' : World} {t p d C L : Nat} {A T : Nat → Prop} {σ σ' : Dk} {stop : Bool} {s mw N : Nat} {W : Waits} {lv lv' : Int} {b : Bool} {r : Nat} {ρ : Rs} {l l' : List Wg} {may : May} {k : Int} {K : List Text}

set_option maxHeartbeats 16000000 in
set_option maxRecDepth 100000 in
theorem step5_6 (h0 : PS w t p d C L A σ stop s mw N W lv b r ρ we) (hG : Gl w) (h8 : 8 ≤ w.heap.size) (ht : t < 1000000) (_hC : C ≤ 800000000) (hL : L ≤ 400000000) (fa fb : ByteArray) (tv : Value) (dd : ByteArray) (nn mm : Int) (sv : Value) (tl : List Ltr) (ts : List Int) (o : Op5 w 6 fa fb tv dd nn mm sv tl ts) :
    Calls Tryz.prog 9 #[ptr p, opV5 6 fa fb tv dd nn mm sv] we (Step5 w (t + 1) p d (C + 10) (L + (44 * mlW (fa.data.toList, fb.data.toList, tl, dd.data.toList) + 100))) := by
  have h := h0.more
  have hlt : lv + 1 ≤ ((t + 1 : Nat) : Int) := by have := h0.lvt; omega
  have hln : ρ.l.length + 1 ≤ t + 1 := by have := h0.num; omega
  have hN1 : N + 1 ≤ 2 * (t + 1) + 5 := by have := h0.num; omega
  have f0 : Fresh we (we.alloc (opC5 6 fa fb tv dd nn mm sv)) := (Keeps.refl _ _).alloc _
  have hx0 := heap_new we (opC5 6 fa fb tv dd nn mm sv)
  have HP0 : Hid (PS w (t + 1) p d C L A σ stop s mw N W lv b r ρ (we.alloc (opC5 6 fa fb tv dd nn mm sv))) := h.fresh f0
  have hpl := h.lt
  have hA : ∀ i, A i → i < we.heap.size := fun i hi => (h.live.1 i hi).2
  have hwz := h.live.2.2.2.size
  have hwt := o.wt
  have HO : Hid (Op5 w 6 fa fb tv dd nn mm sv tl ts) := o
  have hK5 := K5_len (t + 1)
  obtain ⟨ao, cap, htv, _, _⟩ := o.to_
  obtain ⟨tao, tcap, hsv, _, _, _⟩ := o.ints (fun _ => False) (fun _ e => e.elim)
  subst htv hsv
  clear h0 h o
  unfold opC5 opV5 ptr at *
  go_enter Tryz.func9, Tryz.ntmps9
  go_upto_region 2 with fail
  generalize we.alloc (.cells #[.int .i64 6, .string fa, .string fb, .slice ao tl.length cap, .string dd, .int .i64 nn, .int .i64 mm, .slice tao ts.length tcap] 33) = w0 at *
  have hw0 := f0.size
  have hlt0 := heap_lt hx0
  have HX0 : Hid (w0.heap[we.heap.size]? = some (.cells #[.int .i64 6, .string fa, .string fb, .slice ao tl.length cap, .string dd, .int .i64 nn, .int .i64 mm, .slice tao ts.length tcap] 33)) := hx0
  have x0 : w0.cell? ⟨we.heap.size, 0, none⟩ = some (.int .i64 6) := by rw [Lib.cell_of_heap hx0]; rfl
  clear f0 hx0
  have HQ0 : Hid (PS w (t + 1) p d C L A σ stop s mw N W lv b r ρ w0) := HP0.out
  have hno : otherT ≠ newT := by decide
  have hns : spoolT ≠ newT := by decide
  have hc0 := HQ0.out.live.create (by omega) (by omega) ⟨otherT.toArray⟩ (by decide) (K5_other (t + 1))
  have u0 := (mcells HQ0.out.cell).1
  unfold ptr at hc0 u0
  go_upto_region 22 with (go_at_call 16; refine hc0.mono ?_; rintro e w1 ⟨k0, σ1, rfl, hr0, hl0, kk0⟩)
  have HQ1 : Hid (PS w (t + 1) p d (C + 1) (L) (ext A w0 w1) σ1 stop s mw N W lv b r ρ w1) := HQ0.out.off (x := (0, otherT, [])) ⟨fun _ e => (show _ = otherT from e) ▸ ⟨K5_other (t + 1), other_nm⟩, fun _ e => e.elim, fun e => by cases e⟩ (fun e => hno (show newT = otherT from e).symm) (fun e => e.elim) hr0 hl0 kk0 ext_new (by omega)
  clear hc0 u0 hr0 hl0 kk0
  generalize ext A w0 w1 = A1 at *
  have hc1 := HQ1.out.live.append (by omega) ⟨otherT.toArray⟩ ⟨#[115, 112, 111, 111, 108, 47]⟩ (by decide) (by decide)
  have u1 := (mcells HQ1.out.cell).1
  unfold ptr at hc1 u1
  go_upto_region 23 with (go_at_call 17; refine hc1.mono ?_; rintro e w2 ⟨k1, σ2, rfl, hr1, hl1, kk1⟩)
  have HQ2 : Hid (PS w (t + 1) p d (C + 1) (L + 6) (ext A1 w1 w2) σ2 stop s mw N W lv b r ρ w2) := HQ1.out.off (x := (1, otherT, [115, 112, 111, 111, 108, 47])) ⟨fun _ e => e.elim, fun _ e => e.elim, fun _ e => other_nm (.inr e)⟩ (fun e => e.elim) (fun e => e.elim) hr1 hl1 kk1 ext_new (by omega)
  clear hc1 u1 hr1 hl1 kk1
  generalize ext A1 w1 w2 = A2 at *
  have hc2 := HQ2.out.live.create (by omega) (by omega) ⟨spoolT.toArray⟩ (by decide) (K5_spool (t + 1))
  have u2 := (mcells HQ2.out.cell).1
  unfold ptr at hc2 u2
  go_upto_region 24 with (go_at_call 16; refine hc2.mono ?_; rintro e w3 ⟨k2, σ3, rfl, hr2, hl2, kk2⟩)
  have HQ3 : Hid (PS w (t + 1) p d (C + 2) (L + 6) (ext A2 w2 w3) σ3 stop s mw N W lv b r ρ w3) := HQ2.out.off (x := (0, spoolT, [])) ⟨fun _ e => (show _ = spoolT from e) ▸ ⟨K5_spool (t + 1), spool_nm⟩, fun _ e => e.elim, fun e => by cases e⟩ (fun e => hns (show newT = spoolT from e).symm) (fun e => e.elim) hr2 hl2 kk2 ext_new (by omega)
  clear hc2 u2 hr2 hl2 kk2
  generalize ext A2 w2 w3 = A3 at *
  have hc3 := HQ3.out.live.syncDir (by omega)
  have u3 := (mcells HQ3.out.cell).1
  unfold ptr at hc3 u3
  go_upto_region 25 with (go_at_call 36; refine hc3.mono ?_; rintro e w4 ⟨k3, σ4, rfl, hr3, hl3, kk3⟩)
  have HQ4 : Hid (PS w (t + 1) p d (C + 2) (L + 6) (ext A3 w3 w4) σ4 stop s mw N W lv b r ρ w4) := HQ3.out.off (x := (5, [], [])) ⟨fun _ e => e.elim, fun _ e => e.elim, fun e => by cases e⟩ (fun e => e.elim) (fun e => e.elim) hr3 hl3 kk3 ext_new (by omega)
  clear hc3 u3 hr3 hl3 kk3
  generalize ext A3 w3 w4 = A4 at *
  have HN : Hid (∃ stop', PNext5 w (t + 1) p d (C + 10) (L + (44 * mlW (fa.data.toList, fb.data.toList, tl, dd.data.toList) + 100)) stop' w4) := ⟨stop, A4, σ4, s, mw, N, W, lv, b, r, ρ, HQ4.out.mono (by omega) (by omega)⟩
  clear x0
  obtain ⟨st7, A7, σ7, s7, mw7, N7, W7, lv7, b7, r7, ρ7, hps7⟩ := HN.out
  obtain ⟨L7, hL7⟩ : ∃ x, x = L + (44 * mlW (fa.data.toList, fb.data.toList, tl, dd.data.toList) + 100) := ⟨_, rfl⟩
  rw [← hL7] at hps7
  have HL7 : Hid (L7 = L + (44 * mlW (fa.data.toList, fb.data.toList, tl, dd.data.toList) + 100)) := hL7
  have HP7 : Hid (PS w (t + 1) p d (C + 10) L7 A7 σ7 st7 s7 mw7 N7 W7 lv7 b7 r7 ρ7 w4) := hps7
  obtain ⟨z0, z1, z2, z3, _⟩ := mcells hps7.cell
  unfold ptr at z0 z1 z2
  have zr : w4.cell? ⟨r7, 2, none⟩ = some (.bool ρ7.dead) := hps7.ref.at 2 _ rfl
  have hL7' : L7 ≤ 500000000 := by omega
  clear hps7 HN hL7
  cases hdd : ρ7.dead with
  | false =>
    rw [hdd] at zr
    have hsh := (HP7.out.fresh ((Keeps.refl (fun _ => False) w4).drew)).shows hG h8 (by omega) hL7' hdd
    unfold ptr at hsh
    have HZ : Hid (∀ W1, Keeps A7 w4 W1 → W1.cell? ⟨p, 1, none⟩ = some (.pointer (some ⟨s7, 0, none⟩)) ∧ W1.cell? ⟨p, 2, none⟩ = some (.pointer (some ⟨r7, 0, none⟩))) := fun W1 k => ⟨cell_keeps k z1 HP7.out.pA, cell_keeps k z2 HP7.out.pA⟩
    clear hdd z0 z3
    go_wp2_with fail
    go_region_held3 (fun W1 => W1.cell? ⟨p, 1, none⟩ = some (.pointer (some ⟨s7, 0, none⟩)) ∧ W1.cell? ⟨p, 2, none⟩ = some (.pointer (some ⟨r7, 0, none⟩))) (first | exact HZ.out _ ((Keeps.refl _ w4).drew) | exact HZ.out _ k8) (first | (go_at_call 20; refine hsh.mono ?_; rintro e w8 ⟨rfl, hp8, k8'⟩; have k8 : Keeps A7 w4 w8 := ((Keeps.refl _ w4).drew).trans k8'))
    have HF : Hid (∃ stop', PNext5 w (t + 1) p d (C + 10) L7 stop' w8) := ⟨st7, A7, σ7, s7, mw7, N7, W7, lv7, b7, r7, ρ7, hp8⟩
    clear hsh hp8 k8 k8' z1 z2
    go_wp2_with fail
    go_ret
    exact ⟨rfl, by rw [← HL7.out]; exact HF.out⟩
  | true =>
    rw [hdd] at zr
    have HF : Hid (∃ stop', PNext5 w (t + 1) p d (C + 10) L7 stop' w4) := ⟨st7, A7, σ7, s7, mw7, N7, W7, lv7, b7, r7, ρ7, HP7.out⟩
    clear hdd z0 z3
    go_wp2_with fail
    go_ret
    exact ⟨rfl, by rw [← HL7.out]; exact HF.out⟩

end
end Go.Proofs.YtegbkpjcjlihmabGreatDoor
