/-
  Given: a mail is handed to the program.
-/
import Derived.Test.YtegbkpjcjlihmabGreatDoorIb
import Derived.Deep.RegionWith
import Derived.Deep.RegionLaw
namespace Go.Proofs.YtegbkpjcjlihmabGreatDoor
open Go.RowKit Go.Maps Go.Sort Go.Lib

set_option maxHeartbeats 8000000 in
set_option maxRecDepth 100000 in
theorem given_any (fa fb dd : ByteArray) (ao : Option Addr) (cap : Nat) (l : List Ltr) (w : World) (hn : l.length ≤ 1099511627) (hr : AdRd w ao l) :
    Calls Tryz.prog 22 #[mailV fa fb (.slice ao l.length cap) dd] w fun e w' => ∃ tv, e = .returned (mailV fa fb tv dd) ∧ w'.ownsRow w.heap.size 56 2 tv l.length (l.flatMap encL) ∧ Fresh w w' := by
  have HR : Hid (AdRd w ao l) := hr
  have f1 : Fresh w ((w.alloc (.cells #[.string fa, .string fb, .slice ao l.length cap, .string dd] 30)).alloc (.cells #[.string ⟨#[]⟩, .string ⟨#[]⟩, .slice none 0 0, .string ⟨#[]⟩] 59)) := ((Keeps.refl _ _).alloc _).alloc _
  obtain ⟨hx0, hr0⟩ := heap2 w (.cells #[.string fa, .string fb, .slice ao l.length cap, .string dd] 30) (.cells #[.string ⟨#[]⟩, .string ⟨#[]⟩, .slice none 0 0, .string ⟨#[]⟩] 59)
  clear hr
  unfold mailV at *
  go_enter Tryz.func22, Tryz.ntmps22
  go_upto_region 1 with fail
  generalize (w.alloc (.cells #[.string fa, .string fb, .slice ao l.length cap, .string dd] 30)).alloc (.cells #[.string ⟨#[]⟩, .string ⟨#[]⟩, .slice none 0 0, .string ⟨#[]⟩] 59) = w2 at *
  have HX : Hid (∀ W, Fresh w2 W → W.heap[w.heap.size]? = some (.cells #[.string fa, .string fb, .slice ao l.length cap, .string dd] 30 (0, 0)) ∧ W.heap[w.heap.size + 1]? = some (.cells #[.string ⟨#[]⟩, .string ⟨#[]⟩, .slice none 0 0, .string ⟨#[]⟩] 59 (0, 0))) := fun W k => ⟨k.heap hx0 (fun e => e), k.heap hr0 (fun e => e)⟩
  have HC : Hid (∀ W, Fresh w2 W → W.cell? ⟨w.heap.size, 0, none⟩ = some (.string fa) ∧ W.cell? ⟨w.heap.size, 1, none⟩ = some (.string fb) ∧ W.cell? ⟨w.heap.size, 2, none⟩ = some (.slice ao l.length cap) ∧ W.cell? ⟨w.heap.size, 3, none⟩ = some (.string dd)) := fun W k => by
    obtain ⟨c0, c1, c2, c3, _⟩ := mcells (HX.out W k).1
    exact ⟨c0, c1, c2, c3⟩
  have hz2 := heap_lt hr0
  go_cut [3] from 5 to 10 (fun t3 wx => ∃ m, t3 = .pointer (some ⟨m, 0, none⟩) ∧ w2.heap.size ≤ m ∧ wx.heap[m]? = some (.cells #[.string fa, .string fb, .slice none 0 0, .string dd] 59 (0, 0)) ∧ Fresh w2 wx)
  case first =>
    have hadr := fun W => address_law fa fb W
    have cA : ∀ W, Fresh w2 W → W.cell? ⟨w.heap.size, 0, none⟩ = some (.string fa) ∧ W.cell? ⟨w.heap.size, 1, none⟩ = some (.string fb) ∧ W.cell? ⟨w.heap.size, 3, none⟩ = some (.string dd) := fun W k => ⟨(HC.out W k).1, (HC.out W k).2.1, (HC.out W k).2.2.2⟩
    have HCA : Hid (∀ W, Fresh w2 W → W.cell? ⟨w.heap.size, 0, none⟩ = some (.string fa) ∧ W.cell? ⟨w.heap.size, 1, none⟩ = some (.string fb) ∧ W.cell? ⟨w.heap.size, 3, none⟩ = some (.string dd)) := cA
    clear cA
    go_region_held3 (fun W => W.cell? ⟨w.heap.size, 0, none⟩ = some (.string fa) ∧ W.cell? ⟨w.heap.size, 1, none⟩ = some (.string fb) ∧ W.cell? ⟨w.heap.size, 3, none⟩ = some (.string dd)) (first | exact HCA.out _ ((Keeps.refl (fun _ => False) w2).drew) | exact HCA.out _ kA | exact HCA.out _ (kA.alloc _) | exact HCA.out _ (((Keeps.refl (fun _ => False) w2).alloc (.cells #[.string ⟨#[]⟩, .string ⟨#[]⟩, .slice none 0 0, .string ⟨#[]⟩] 59)).drew) | exact HCA.out _ ((Keeps.refl (fun _ => False) w2).alloc (.cells #[.string ⟨#[]⟩, .string ⟨#[]⟩, .slice none 0 0, .string ⟨#[]⟩] 59)) | exact HCA.out _ (kA.then (((((Keeps.refl (fun k => k = w2.heap.size) w3).setCell (p := ⟨w2.heap.size, 0, none⟩) (fun _ => rfl) _).setCell (p := ⟨w2.heap.size, 1, none⟩) (fun _ => rfl) _).setCell (p := ⟨w2.heap.size, 2, none⟩) (fun _ => rfl) _).setCell (p := ⟨w2.heap.size, 3, none⟩) (fun _ => rfl) _) (fun i hi e => by omega)) | go_keep) (first | (go_at_call 63; refine (hadr _).mono ?_; rintro e w3 ⟨rfl, k3⟩; have kA : Fresh w2 w3 := (by first | exact ((Keeps.refl (fun _ => False) w2).drew).trans k3 | exact (((Keeps.refl (fun _ => False) w2).alloc (.cells #[.string ⟨#[]⟩, .string ⟨#[]⟩, .slice none 0 0, .string ⟨#[]⟩] 59)).drew).trans k3); obtain ⟨n0, n1, n2, n3, m0, m1, m2, m3⟩ := mcells (heap_new w3 (.cells #[.string ⟨#[]⟩, .string ⟨#[]⟩, .slice none 0 0, .string ⟨#[]⟩] 59)); try (have hm : w3.heap[w2.heap.size]? = some (.cells #[.string ⟨#[]⟩, .string ⟨#[]⟩, .slice none 0 0, .string ⟨#[]⟩] 59) := k3.heap (heap_new w2 (.cells #[.string ⟨#[]⟩, .string ⟨#[]⟩, .slice none 0 0, .string ⟨#[]⟩] 59)) (fun e => e); obtain ⟨o0, o1, o2, o3, l0, l1, l2, l3⟩ := mcells hm)))
    all_goals (go_wp2_with fail)
    all_goals go_meet
    all_goals first
      | (refine ⟨_, rfl, ?_, heap_new _ _, kA.alloc _⟩
         exact kA.size)
      | (refine ⟨_, rfl, Nat.le_refl _, heap_setCell_at (heap_setCell_at (heap_setCell_at (heap_setCell_at hm 0 _) 1 _) 2 _) 3 _, ?_⟩
         exact kA.then (((((Keeps.refl (fun k => k = w2.heap.size) w3).setCell (p := ⟨w2.heap.size, 0, none⟩) (fun _ => rfl) _).setCell (p := ⟨w2.heap.size, 1, none⟩) (fun _ => rfl) _).setCell (p := ⟨w2.heap.size, 2, none⟩) (fun _ => rfl) _).setCell (p := ⟨w2.heap.size, 3, none⟩) (fun _ => rfl) _) (fun i hi e => by omega))
  case rest =>
    obtain ⟨m, rfl, hm2, hmW, kW⟩ := hcut
    have hw2 := f1.size
    have HW0 : Hid (Fresh w2 wc) := kW
    have HM0 : Hid (wc.heap[m]? = some (.cells #[.string fa, .string fb, .slice none 0 0, .string dd] 59 (0, 0))) := hmW
    clear kW hmW
    go_wp2_with fail
    go_loopw [4] (fun t4 wr => ∃ (i : Nat) (tv : Value), i ≤ l.length ∧ t4 = .int .i64 i ∧ wr.heap[m]? = some (.cells #[.string fa, .string fb, tv, .string dd] 59 (0, 0)) ∧ wr.ownsRow w2.heap.size 56 2 tv (l.take i).length ((l.take i).flatMap encL) ∧ Fresh w2 wr) (fun t4 _ => l.length - (intOf t4).toNat)
    case atStart => exact ⟨0, _, Nat.zero_le _, rfl, HM0.out, World.ownsRow_nil _ _ _ _, HW0.out⟩
    case round =>
      obtain ⟨i, tv, hi1, rfl, hmr, hrow, kk⟩ := hrel
      obtain ⟨ta, tc, rfl, _, _, _⟩ := own_form hrow
      obtain ⟨_, _, cm, _, _, _, _, _⟩ := mcells hmr
      obtain ⟨_, _, cb, _⟩ := HC.out wr kk
      obtain ⟨e0, e1, e2, e3, e4, e5, e6, e7⟩ := mcells (HX.out wr kk).2
      have HMR : Hid (wr.heap[m]? = some (.cells #[.string fa, .string fb, .slice ta (l.take i).length tc, .string dd] 59 (0, 0))) := hmr
      have HRO : Hid (wr.ownsRow w2.heap.size 56 2 (.slice ta (l.take i).length tc) (l.take i).length ((l.take i).flatMap encL)) := hrow
      have hwr := kk.size
      clear hmr hrow
      by_cases hlt : i < l.length
      · obtain ⟨x, hx⟩ : ∃ x, l[i]? = some x := ⟨l[i], List.getElem?_eq_getElem hlt⟩
        obtain ⟨g, off, rfl, hq⟩ := (HR.out.fresh (f1.trans kk)) (by omega)
        obtain ⟨q0, q1⟩ := hq i x hx
        have HT : Hid (l.take (i + 1) = l.take i ++ [x]) := by
          show _ = _
          rw [List.take_add_one, hx]; rfl
        have HTL : Hid ((l.take i).length = i) := by show _ = _; rw [List.length_take]; omega
        obtain ⟨X1, hX1⟩ : ∃ X1 : ByteArray, X1 = ⟨x.1.toArray⟩ := ⟨_, rfl⟩
        obtain ⟨X2, hX2⟩ : ∃ X2 : ByteArray, X2 = ⟨x.2.toArray⟩ := ⟨_, rfl⟩
        have H3 : Hid (encL x = [.string X1, .string X2]) := by rw [hX1, hX2]; rfl
        rw [← hX1] at q0
        rw [← hX2] at q1
        obtain ⟨tl, htl⟩ : ∃ tl, tl = l.take i := ⟨_, rfl⟩
        have hll : tl.length ≤ 1099511627776 := by rw [htl, List.length_take]; omega
        rw [← htl] at HMR HRO HT HTL cm
        have HST : Hid (∀ w4 : World, Fresh wr.drew w4 → w4.heap[m]? = some (.cells #[.string fa, .string fb, .slice ta tl.length tc, .string dd] 59 (0, 0)) ∧ w4.ownsRow w2.heap.size 56 2 (.slice ta tl.length tc) tl.length (tl.flatMap encL)) := fun w4 k4 => ⟨k4.heap HMR.out (fun e => e), k4.owns HRO.out (fun _ _ e => e)⟩
        have hadr := address_law X1 X2 wr.drew
        have z0 : (0 : Int) ≤ (i : Int) := by omega
        have z1 : (i : Int) < (l.length : Int) := by omega
        clear hx hX1 hX2 hq htl
        go_wp2_with fail
        go_region_law (first | (refine step_append_addr rfl (.tmp 19) (.tmp 26) rfl w2.heap.size (.slice ta tl.length tc) tl X1 X2 (by simp [Act.eval]) hrow4 (by simp [Act.eval]) hll hb4 ?_; intro v5 w5 o5 g5; obtain ⟨a5, c5a, rfl, _⟩ := own_form o5; have hm5 := grown_other g5 (hrow4.alloc _) (((Keeps.refl (fun _ => False) w4).alloc (.cells #[.string X1, .string X2] 56)).heap hm4 (fun e => e)) (by decide); have c5 : w5.cell? ⟨m, 2, none⟩ = some (.slice ta tl.length tc) := (mcells hm5).2.2.1; have z5 : w5.frozen? ⟨m, 2, none⟩ = false := (mcells hm5).2.2.2.2.2.2.1) | (go_simp; go_wp2_with (go_at_call 63; refine hadr.mono ?_; rintro e w4 ⟨rfl, k4⟩; have hm4 := (HST.out w4 k4).1; have hrow4 := (HST.out w4 k4).2; have c4 : w4.cell? ⟨m, 2, none⟩ = some (.slice ta tl.length tc) := (mcells hm4).2.2.1; have c4' : (w4.alloc (.cells #[.string X1, .string X2] 56)).cell? ⟨m, 2, none⟩ = some (.slice ta tl.length tc) := (mcells (((Keeps.refl (fun _ => False) w4).alloc (.cells #[.string X1, .string X2] 56)).heap hm4 (fun e => e))).2.2.1; have hb4 : w2.heap.size ≤ w4.heap.size := Nat.le_trans hwr k4.size)))
        all_goals
          have k6 : Keeps (fun j => j = m) w5 (w5.setCell ⟨m, 2, none⟩ (.slice a5 (tl.length + 1) c5a)) := (Keeps.refl (fun j => j = m) w5).setCell (p := ⟨m, 2, none⟩) (fun _ => rfl) _
          have hN : (w5.setCell ⟨m, 2, none⟩ (.slice a5 (tl.length + 1) c5a)).heap[m]? = some (.cells #[.string fa, .string fb, .slice a5 (tl.length + 1) c5a, .string dd] 59 (0, 0)) := heap_setCell_at hm5 2 _
          have hO : (w5.setCell ⟨m, 2, none⟩ (.slice a5 (tl.length + 1) c5a)).ownsRow w2.heap.size 56 2 (.slice a5 (tl.length + 1) c5a) (tl.length + 1) (tl.flatMap encL ++ [.string X1, .string X2]) := k6.owns o5 (fun j hj e => by
            have t1 := owns_tag o5 hj
            rw [e, tag_cells hm5] at t1
            exact absurd (Option.some.inj t1) (by decide))
          have kN : Fresh w2 (w5.setCell ⟨m, 2, none⟩ (.slice a5 (tl.length + 1) c5a)) := (((kk.drew).trans k4).alloc (.cells #[.string X1, .string X2] 56)).grown g5 (fun j hj hlt' => by have := ((hrow4.alloc (.cells #[.string X1, .string X2] 56)).lt j hj).1; omega) |>.then k6 (fun j hj e => by omega)
          have HN : Hid _ := And.intro hN (And.intro hO kN)
          clear hN hO kN k6 c4 c4' hm4 hrow4 hm5 c5 z5 o5 g5 k4 hadr
          generalize w5.setCell ⟨m, 2, none⟩ (.slice a5 (tl.length + 1) c5a) = w6 at *
          go_wp2_with fail
          go_roundw
          case rel =>
            refine ⟨i + 1, _, by omega, by go_num, HN.out.1, ?_, HN.out.2.2⟩
            have e2 : [x].flatMap encL = [.string X1, .string X2] := by rw [List.flatMap_cons, H3.out]; rfl
            rw [HT.out, List.length_append, List.flatMap_append, e2]
            exact HN.out.2.1
          case measure => simp [intOf]; omega
      · have ei : i = l.length := by omega
        subst ei
        have z1 : ¬ (l.length : Int) < (l.length : Int) := by omega
        have eL : l.take l.length = l := List.take_length
        rw [eL] at HRO HMR cm
        obtain ⟨d0, d1, d2, d3, _, _, _, _⟩ := mcells HMR.out
        have hne : m ≠ w.heap.size + 1 := by omega
        have k9 : Keeps (fun j => j = w.heap.size + 1) wr ((((wr.setCell ⟨w.heap.size + 1, 0, none⟩ (.string fa)).setCell ⟨w.heap.size + 1, 1, none⟩ (.string fb)).setCell ⟨w.heap.size + 1, 2, none⟩ (.slice ta l.length tc)).setCell ⟨w.heap.size + 1, 3, none⟩ (.string dd)) :=
          ((((Keeps.refl (fun j => j = w.heap.size + 1) _).setCell (p := ⟨w.heap.size + 1, 0, none⟩) (fun _ => rfl) _).setCell (p := ⟨w.heap.size + 1, 1, none⟩) (fun _ => rfl) _).setCell (p := ⟨w.heap.size + 1, 2, none⟩) (fun _ => rfl) _).setCell (p := ⟨w.heap.size + 1, 3, none⟩) (fun _ => rfl) _
        have HE : Hid (((((wr.setCell ⟨w.heap.size + 1, 0, none⟩ (.string fa)).setCell ⟨w.heap.size + 1, 1, none⟩ (.string fb)).setCell ⟨w.heap.size + 1, 2, none⟩ (.slice ta l.length tc)).setCell ⟨w.heap.size + 1, 3, none⟩ (.string dd)).ownsRow w.heap.size 56 2 (.slice ta l.length tc) l.length (l.flatMap encL) ∧ Fresh w ((((wr.setCell ⟨w.heap.size + 1, 0, none⟩ (.string fa)).setCell ⟨w.heap.size + 1, 1, none⟩ (.string fb)).setCell ⟨w.heap.size + 1, 2, none⟩ (.slice ta l.length tc)).setCell ⟨w.heap.size + 1, 3, none⟩ (.string dd))) :=
          ⟨owns_base (k9.owns HRO.out (fun j hj e => by have := (HRO.out.lt j hj).1; omega)) (fun k hk => by have := (HRO.out.lt k hk).1; omega), (f1.trans kk).then k9 (fun j hj e => by omega)⟩
        clear k9
        have u0 : ((((wr.setCell ⟨w.heap.size + 1, 0, none⟩ (.string fa)).setCell ⟨w.heap.size + 1, 1, none⟩ (.string fb)).setCell ⟨w.heap.size + 1, 2, none⟩ (.slice ta l.length tc)).setCell ⟨w.heap.size + 1, 3, none⟩ (.string dd)).cell? ⟨w.heap.size + 1, 0, none⟩ = some (.string fa) := by go_simp
        have u1 : ((((wr.setCell ⟨w.heap.size + 1, 0, none⟩ (.string fa)).setCell ⟨w.heap.size + 1, 1, none⟩ (.string fb)).setCell ⟨w.heap.size + 1, 2, none⟩ (.slice ta l.length tc)).setCell ⟨w.heap.size + 1, 3, none⟩ (.string dd)).cell? ⟨w.heap.size + 1, 1, none⟩ = some (.string fb) := by go_simp
        have u2 : ((((wr.setCell ⟨w.heap.size + 1, 0, none⟩ (.string fa)).setCell ⟨w.heap.size + 1, 1, none⟩ (.string fb)).setCell ⟨w.heap.size + 1, 2, none⟩ (.slice ta l.length tc)).setCell ⟨w.heap.size + 1, 3, none⟩ (.string dd)).cell? ⟨w.heap.size + 1, 2, none⟩ = some (.slice ta l.length tc) := by go_simp
        have u3 : ((((wr.setCell ⟨w.heap.size + 1, 0, none⟩ (.string fa)).setCell ⟨w.heap.size + 1, 1, none⟩ (.string fb)).setCell ⟨w.heap.size + 1, 2, none⟩ (.slice ta l.length tc)).setCell ⟨w.heap.size + 1, 3, none⟩ (.string dd)).cell? ⟨w.heap.size + 1, 3, none⟩ = some (.string dd) := by go_simp
        go_wp2_with fail
        refine bodyPost_ret (v := .agg #[.string fa, .string fb, .slice ta l.length tc, .string dd]) (by simp [results, Tryz.results22, go_sem, u0, u1, u2, u3]) rfl ?_
        exact ⟨_, rfl, HE.out.1, HE.out.2⟩

end Go.Proofs.YtegbkpjcjlihmabGreatDoor
