/-
  The law BoxKeeps, walked.
-/
import Derived.Test.YtegbkpjcjlihmabGreatDoorHa
namespace Go.Proofs.YtegbkpjcjlihmabGreatDoor
open Go.RowKit Go.Maps Go.Sort Go.Lib

set_option maxHeartbeats 8000000 in
set_option maxRecDepth 100000 in
theorem keeps_law (w : World) (hG : Gl w) (h8 : 8 ≤ w.heap.size) (sv : Value) (os : List OpR) (hs : Script6 w sv os) (hf : ∀ o ∈ os, OpFits6 w o) (hl : (os.map OpR.load).sum ≤ 1048576) :
    Calls Tryz.prog 5 #[sv] w fun e w' => e = .returned (.bool true) ∧ Fresh w w' := by
  obtain ⟨ao, cap, rfl, hc1, hc2, hao⟩ := hs
  have hB := BB_ok hl
  have hlen := len_load os
  have hcost := cost_load os
  have hnew := new_live (KK (BB os) 0) w w (Keeps.refl _ _)
  have HF : Hid (∀ o ∈ os, OpFits6 w o) := hf
  clear hf
  unfold ptr at *
  go_enter Tryz.func5, Tryz.ntmps5
  go_wp2_with fail
  refine hnew.mono ?_
  rintro e w1 ⟨d, rfl, hlv, k1⟩
  have HP0 := pst_start hlv
  unfold ptr at *
  have c0 := HP0.at 0 _ rfl
  have HPA : Hid (PAny w (KK (BB os) 0) w1.heap.size d 0 0 0 (w1.alloc (.cells #[.pointer (some ⟨d, 0, none⟩), .slice none 0 0, .bool false, .bool false, .string ⟨#[]⟩, .string ⟨#[]⟩, .string ⟨#[]⟩] 69))) := HP0.any (Nat.le_refl _) (Nat.le_refl _) (Nat.le_refl _)
  clear hnew hlv HP0
  go_wp2_with fail
  generalize w1.alloc (.cells #[.pointer (some ⟨d, 0, none⟩), .slice none 0 0, .bool false, .bool false, .string ⟨#[]⟩, .string ⟨#[]⟩, .string ⟨#[]⟩] 69) = w2 at *
  have hp1 : w1.heap.size = w1.heap.size := rfl
  generalize w1.heap.size = p at *
  clear hp1 c0
  go_loopw [4] (fun t4 wr => ∃ i : Nat, i ≤ os.length ∧ t4 = .int .i64 i ∧ PAny w (KK (BB os) i) p d (8 * i) ((os.take i).map OpR.cost).sum i wr) (fun t4 _ => os.length - (intOf t4).toNat)
  case atStart => exact ⟨0, Nat.zero_le _, rfl, HPA.out⟩
  case round =>
    obtain ⟨i, hi, rfl, hpa⟩ := hrel
    have HP : Hid (PAny w (KK (BB os) i) p d (8 * i) ((os.take i).map OpR.cost).sum i wr) := hpa
    clear hpa
    by_cases hlt : i < os.length
    · obtain ⟨o, ho⟩ : ∃ o, os[i]? = some o := ⟨os[i], List.getElem?_eq_getElem hlt⟩
      obtain ⟨b, off, rfl, hcells⟩ := hao (by omega)
      have hom := List.mem_of_getElem? ho
      have HT : Hid (((os.take (i + 1)).map OpR.cost).sum = ((os.take i).map OpR.cost).sum + o.cost) := by
        show _ = _
        rw [List.take_add_one, ho]; simp
      have hct := cost_take os i
      have hof := HF.out o hom
      have hld := load_le os o hom
      obtain ⟨q0, q1, q2, q3, q4, q5⟩ := hcells i o ho
      have fw := HP.out.frame
      have q0 := cell_keeps fw q0 (fun e => e)
      have q1 := cell_keeps fw q1 (fun e => e)
      have q2 := cell_keeps fw q2 (fun e => e)
      have q3 := cell_keeps fw q3 (fun e => e)
      have q4 := cell_keeps fw q4 (fun e => e)
      have q5 := cell_keeps fw q5 (fun e => e)
      have HOK : Hid ((o.kind = 5 → o.beside = true) → OpOk w (KK (BB os) (i + 1)) o.kind o.us o.ke o.da o.nn o.tv o.ts) := fun hb => opOk hom hl hof hb _
      obtain ⟨tao, tcap, htv, _, _, _⟩ := hof.2.2
      obtain ⟨kind, us, ke, da, nn, tv, ts⟩ := o
      simp only at htv q0 q1 q2 q3 q4 q5
      subst htv
      have e3 : OpR.load ⟨kind, us, ke, da, nn, .slice tao ts.length tcap, ts⟩ = us.size + ke.size + da.size + 5 := rfl
      have e4 : OpR.cost ⟨kind, us, ke, da, nn, .slice tao ts.length tcap, ts⟩ = us.size + ke.size + da.size + 132 := rfl
      rw [e3] at hld
      rw [e4] at HT
      have z0 : (0 : Int) ≤ (i : Int) := by omega
      have z1 : (i : Int) < (os.length : Int) := by omega
      clear ho hcells hom hof e3 e4 fw hcost
      have hbx := boxed_any us (wr.alloc (.cells #[.int .i64 kind, .string us, .string ke, .string da, .int .i64 nn, .slice tao ts.length tcap] 71)) (by omega)
      have HO : Hid ((wr.alloc (.cells #[.int .i64 kind, .string us, .string ke, .string da, .int .i64 nn, .slice tao ts.length tcap] 71)).heap[wr.heap.size]? = some (.cells #[.int .i64 kind, .string us, .string ke, .string da, .int .i64 nn, .slice tao ts.length tcap] 71)) := heap_new _ _
      have HPW : Hid (PAny w (KK (BB os) i) p d (8 * i) ((os.take i).map OpR.cost).sum i (wr.alloc (.cells #[.int .i64 kind, .string us, .string ke, .string da, .int .i64 nn, .slice tao ts.length tcap] 71))) := HP.out.fresh ((Keeps.refl _ _).alloc _)
      go_wp2_with fail
      generalize wr.alloc (.cells #[.int .i64 kind, .string us, .string ke, .string da, .int .i64 nn, .slice tao ts.length tcap] 71) = W at *
      refine hbx.mono ?_
      rintro e w3 ⟨rfl, k3⟩
      have HO3 : Hid (w3.heap[wr.heap.size]? = some (.cells #[.int .i64 kind, .string us, .string ke, .string da, .int .i64 nn, .slice tao ts.length tcap] 71)) := k3.heap HO.out (fun e => e)
      have HP3 : Hid (PAny w (KK (BB os) i) p d (8 * i) ((os.take i).map OpR.cost).sum i w3) := HPW.out.fresh k3
      have o0 : w3.cell? ⟨wr.heap.size, 0, none⟩ = some (.int .i64 kind) := by rw [Lib.cell_of_heap HO3.out]; rfl
      have o1 : w3.cell? ⟨wr.heap.size, 1, none⟩ = some (.string us) := by rw [Lib.cell_of_heap HO3.out]; rfl
      have o2 : w3.cell? ⟨wr.heap.size, 2, none⟩ = some (.string ke) := by rw [Lib.cell_of_heap HO3.out]; rfl
      have o3 : w3.cell? ⟨wr.heap.size, 3, none⟩ = some (.string da) := by rw [Lib.cell_of_heap HO3.out]; rfl
      have o4 : w3.cell? ⟨wr.heap.size, 4, none⟩ = some (.int .i64 nn) := by rw [Lib.cell_of_heap HO3.out]; rfl
      have o5 : w3.cell? ⟨wr.heap.size, 5, none⟩ = some (.slice tao ts.length tcap) := by rw [Lib.cell_of_heap HO3.out]; rfl
      have HSK : Hid (PAny w (KK (BB os) (i + 1)) p d (8 * (i + 1)) ((os.take (i + 1)).map OpR.cost).sum (i + 1) w3) := HP3.out.skip (by omega) (by rw [HT.out]; omega) (by omega)
      clear hbx k3 q0 q1 q2 q3 q4 q5 HP HPW HO
      have hcs2 : ((os.take i).map OpR.cost).sum ≤ 30000000 := by have := cost_load os; omega
      by_cases h5 : kind = 5
      · subst h5
        cases hmb : boxedB us with
        | true =>
          by_cases h6 : 6 ≤ us.size
          · have z6 : (6 : Int) ≤ (us.size : Int) := by omega
            cases hsp : ((us.extract 0 6).toList == [115, 112, 111, 111, 108, 47]) with
            | true =>
              go_wp2_with fail
              go_roundw
              case rel => exact ⟨i + 1, by omega, by go_num, HSK.out⟩
              case measure => simp [intOf]; omega
            | false =>
              go_wp2_with fail
              go_roundw
              case rel => exact ⟨i + 1, by omega, by go_num, HSK.out⟩
              case measure => simp [intOf]; omega
          · have z6 : ¬ (6 : Int) ≤ (us.size : Int) := by omega
            go_wp2_with fail
            go_roundw
            case rel => exact ⟨i + 1, by omega, by go_num, HSK.out⟩
            case measure => simp [intOf]; omega
        | false =>
          by_cases h6 : 6 ≤ us.size
          · have z6 : (6 : Int) ≤ (us.size : Int) := by omega
            cases hsp : ((us.extract 0 6).toList == [115, 112, 111, 111, 108, 47]) with
            | true =>
              go_wp2_with fail
              go_roundw
              case rel => exact ⟨i + 1, by omega, by go_num, HSK.out⟩
              case measure => simp [intOf]; omega
            | false =>
              have hbes : OpR.beside ⟨5, us, ke, da, nn, .slice tao ts.length tcap, ts⟩ = true := by
                unfold OpR.beside spoolB
                simp only
                rw [hmb, hsp]
                simp
              have HST : Hid (Calls Tryz.prog 25 #[.pointer (some ⟨p, 0, none⟩), .agg #[.int .i64 5, .string us, .string ke, .string da, .int .i64 nn, .slice tao ts.length tcap]] w3 (Stepped w (KK (BB os) (i + 1)) p d (8 * i + 8) (((os.take i).map OpR.cost).sum + (us.size + ke.size + da.size + 132)) (i + 1))) := by
                obtain ⟨stop, A, σ, D, l, maybe, x1, x2, x3, v, hp⟩ := HP3.out
                exact step_all hp hG h8 hB (by omega) (by omega) 5 us ke da nn (.slice tao ts.length tcap) ts (HOK.out (fun _ => hbes)) (by omega) (by omega)
              go_wp2_with fail
              refine Calls.mono HST.out ?_
              rintro e w5 ⟨rfl, hpa5⟩
              have HP5 : Hid (PAny w (KK (BB os) (i + 1)) p d (8 * (i + 1)) ((os.take (i + 1)).map OpR.cost).sum (i + 1) w5) := by
                show PAny _ _ _ _ _ _ _ _
                rw [HT.out]
                exact hpa5
              clear hpa5 HST
              go_wp2_with fail
              go_roundw
              case rel => exact ⟨i + 1, by omega, by go_num, HP5.out⟩
              case measure => simp [intOf]; omega
          · have z6 : ¬ (6 : Int) ≤ (us.size : Int) := by omega
            have hbes : OpR.beside ⟨5, us, ke, da, nn, .slice tao ts.length tcap, ts⟩ = true := by
              unfold OpR.beside spoolB
              simp only
              rw [hmb, decide_eq_false h6]
              simp
            have HST : Hid (Calls Tryz.prog 25 #[.pointer (some ⟨p, 0, none⟩), .agg #[.int .i64 5, .string us, .string ke, .string da, .int .i64 nn, .slice tao ts.length tcap]] w3 (Stepped w (KK (BB os) (i + 1)) p d (8 * i + 8) (((os.take i).map OpR.cost).sum + (us.size + ke.size + da.size + 132)) (i + 1))) := by
              obtain ⟨stop, A, σ, D, l, maybe, x1, x2, x3, v, hp⟩ := HP3.out
              exact step_all hp hG h8 hB (by omega) (by omega) 5 us ke da nn (.slice tao ts.length tcap) ts (HOK.out (fun _ => hbes)) (by omega) (by omega)
            go_wp2_with fail
            refine Calls.mono HST.out ?_
            rintro e w5 ⟨rfl, hpa5⟩
            have HP5 : Hid (PAny w (KK (BB os) (i + 1)) p d (8 * (i + 1)) ((os.take (i + 1)).map OpR.cost).sum (i + 1) w5) := by
              show PAny _ _ _ _ _ _ _ _
              rw [HT.out]
              exact hpa5
            clear hpa5 HST
            go_wp2_with fail
            go_roundw
            case rel => exact ⟨i + 1, by omega, by go_num, HP5.out⟩
            case measure => simp [intOf]; omega
      · have z5 := beq_eq_false_iff_ne.2 h5
        generalize boxedB us = mb
        by_cases h6 : 6 ≤ us.size
        · have z6 : (6 : Int) ≤ (us.size : Int) := by omega
          generalize hsp : ((us.extract 0 6).toList == [115, 112, 111, 111, 108, 47]) = sb
          have HST : Hid (Calls Tryz.prog 25 #[.pointer (some ⟨p, 0, none⟩), .agg #[.int .i64 kind, .string us, .string ke, .string da, .int .i64 nn, .slice tao ts.length tcap]] w3 (Stepped w (KK (BB os) (i + 1)) p d (8 * i + 8) (((os.take i).map OpR.cost).sum + (us.size + ke.size + da.size + 132)) (i + 1))) := by
            obtain ⟨stop, A, σ, D, l, maybe, x1, x2, x3, v, hp⟩ := HP3.out
            exact step_all hp hG h8 hB (by omega) (by omega) kind us ke da nn (.slice tao ts.length tcap) ts (HOK.out (fun e => absurd e h5)) (by omega) (by omega)
          go_wp2_with fail
          refine Calls.mono HST.out ?_
          rintro e w5 ⟨rfl, hpa5⟩
          have HP5 : Hid (PAny w (KK (BB os) (i + 1)) p d (8 * (i + 1)) ((os.take (i + 1)).map OpR.cost).sum (i + 1) w5) := by
            show PAny _ _ _ _ _ _ _ _
            rw [HT.out]
            exact hpa5
          clear hpa5 HST
          go_wp2_with fail
          go_roundw
          case rel => exact ⟨i + 1, by omega, by go_num, HP5.out⟩
          case measure => simp [intOf]; omega
        · have z6 : ¬ (6 : Int) ≤ (us.size : Int) := by omega
          have HST : Hid (Calls Tryz.prog 25 #[.pointer (some ⟨p, 0, none⟩), .agg #[.int .i64 kind, .string us, .string ke, .string da, .int .i64 nn, .slice tao ts.length tcap]] w3 (Stepped w (KK (BB os) (i + 1)) p d (8 * i + 8) (((os.take i).map OpR.cost).sum + (us.size + ke.size + da.size + 132)) (i + 1))) := by
            obtain ⟨stop, A, σ, D, l, maybe, x1, x2, x3, v, hp⟩ := HP3.out
            exact step_all hp hG h8 hB (by omega) (by omega) kind us ke da nn (.slice tao ts.length tcap) ts (HOK.out (fun e => absurd e h5)) (by omega) (by omega)
          go_wp2_with fail
          refine Calls.mono HST.out ?_
          rintro e w5 ⟨rfl, hpa5⟩
          have HP5 : Hid (PAny w (KK (BB os) (i + 1)) p d (8 * (i + 1)) ((os.take (i + 1)).map OpR.cost).sum (i + 1) w5) := by
            show PAny _ _ _ _ _ _ _ _
            rw [HT.out]
            exact hpa5
          clear hpa5 HST
          go_wp2_with fail
          go_roundw
          case rel => exact ⟨i + 1, by omega, by go_num, HP5.out⟩
          case measure => simp [intOf]; omega
    · have ei : i = os.length := by omega
      subst ei
      have z1 : ¬ (os.length : Int) < (os.length : Int) := by omega
      have hal := boxAlive_any w wr HP.out.frame hG
      go_wp2_with fail
      refine hal.mono ?_
      rintro e w9 ⟨rfl, k9⟩
      go_wp2_with fail
      go_ret
      exact ⟨rfl, k9⟩

end Go.Proofs.YtegbkpjcjlihmabGreatDoor
