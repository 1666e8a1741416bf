/-
  letters: all that are there.
-/
import Derived.Test.YtegbkpjcjlihmabGreatDoorSra
import Derived.Test.YtegbkpjcjlihmabGreatDoorBxe
namespace Go.Proofs.YtegbkpjcjlihmabGreatDoor
open Go.RowKit Go.Maps

theorem info142 : (Tryz.prog.info? 142).map (fun i => (i.zero.map (fun z => z.cells.size), i.size, i.bytes)) = some (some 2, 2, 32) := by kernel_rfl
theorem info142' : ∃ i z, Tryz.prog.info? 142 = some i ∧ i.zero = some z ∧ z.cells.size = 2 ∧ i.size = 2 ∧ i.bytes = 32 := by
  obtain ⟨i, hi, h⟩ := Option.map_eq_some_iff.1 info142
  simp only [Prod.mk.injEq] at h
  obtain ⟨z, hz, h1⟩ := Option.map_eq_some_iff.1 h.1
  exact ⟨i, z, hi, hz, h1, h.2.1, h.2.2⟩

section
variable {w we : World} {A : Nat → Prop} {d : Nat} {σ : Dk} {K : List Text} {C L : Nat}

set_option maxHeartbeats 4000000 in
set_option maxRecDepth 100000 in
theorem letters_any (h : Live w we A d K C L σ) (hG : Gl w) (hK : K.length ≤ 1099511627776) (hKs : ∀ s ∈ K, s.length < 4294967281) :
    Calls Tryz.prog 74 #[ptr d] we fun e w' => ∃ v ks, e = .returned v ∧ Sorted σ.now ks ∧ RowL w' we.heap.size v (sortL (ks.filterMap letterOf)) ∧ Live w w' A d K C L σ ∧ Fresh we w' := by
  have hnames := h.names hK
  obtain ⟨i0, z0, hi, hz0, hz1, hz2, hz3⟩ := info142'
  have H : Hid (Live w we A d K C L σ) := h
  have hnK := h.2.2.1.nowK
  clear h
  unfold ptr at *
  go_enter Tryz.func74, Tryz.ntmps74
  go_wp2_with fail
  refine hnames.mono ?_
  rintro e w1 ⟨nv, ks, rfl, hs, hl1, hl2, hrow, h1, k1⟩
  obtain ⟨ao, cap, rfl, hc1, hc2, hao⟩ := own_form hrow
  unfold maxLen at hc1
  have HS : Hid (Sorted σ.now ks) := hs
  have hsz : ∀ s ∈ ks, s.length < 4294967281 := fun s hm => hKs s (hnK s ((hs.mem s).1 hm))
  have Hrow : Hid (Row9 w1 we.heap.size (.slice ao ks.length cap) ks) := hrow
  clear hrow hnames h1 hnK hs hKs
  go_wp2_with fail
  go_loopw [3, 11] (fun t3 t11 wr => ∃ (i : Nat), i ≤ ks.length ∧ t11 = .int .i64 i ∧ RowL wr we.heap.size t3 ((ks.take i).filterMap letterOf) ∧ Row9 wr we.heap.size (.slice ao ks.length cap) ks ∧ Fresh we wr) (fun _ t11 _ => ks.length - (intOf t11).toNat)
  case atStart => exact ⟨0, Nat.zero_le _, rfl, World.ownsRow_nil _ _ _ _, Hrow.out, k1⟩
  case round =>
    obtain ⟨i, hile, rfl, hL, hN, kk⟩ := hrel
    have HL : Hid (RowL wr we.heap.size u3 ((ks.take i).filterMap letterOf)) := hL
    have HN : Hid (Row9 wr we.heap.size (.slice ao ks.length cap) ks) := hN
    have hlenL : ((ks.take i).filterMap letterOf).length ≤ ks.length := Nat.le_trans (List.length_filterMap_le _ _) (by simp; omega)
    clear hL hN
    by_cases hlt : i < ks.length
    · obtain ⟨g, rfl⟩ := hao (by omega)
      obtain ⟨s, hs⟩ : ∃ s, ks[i]? = some s := ⟨ks[i], List.getElem?_eq_getElem hlt⟩
      have hcell := own_cell (u := .string ⟨s.toArray⟩) HN.out i (by rw [List.getElem?_map, hs]; rfl)
      have hlo := letterOf_any ⟨s.toArray⟩ wr (hG.fresh (H.out.2.2.2.trans kk)) (hsz s (List.mem_of_getElem? hs))
      have hss : (⟨s.toArray⟩ : ByteArray).data.toList = s := rfl
      rw [hss] at hlo
      have HT : Hid (ks.take (i + 1) = ks.take i ++ [s]) := by
        show _ = _
        rw [List.take_add_one, hs]; rfl
      clear hs hss
      generalize (⟨s.toArray⟩ : ByteArray) = sB at *
      have z1 : (0 : Int) ≤ (i : Int) := by omega
      have z2 : (i : Int) < (ks.length : Int) := by omega
      go_wp2_with fail
      refine hlo.mono ?_
      rintro e w2 ⟨a, b, r, rfl, hr, k2⟩
      clear hlo hcell
      have k3 : Fresh w2 (w2.alloc (.cells #[.string a, .string b] 142)) := (Keeps.refl _ _).alloc _
      obtain ⟨q0, q1, _, _⟩ := cells2 (heap_new w2 (.cells #[.string a, .string b] 142))
      cases r
      · have HF : Hid ((ks.take (i + 1)).filterMap letterOf = (ks.take i).filterMap letterOf) := by
          show _ = _
          rw [HT.out, List.filterMap_append]
          simp [hr]
        have HL3 := (k2.trans k3).owns HL.out (fun _ _ e => e)
        have HN3 := (k2.trans k3).owns HN.out (fun _ _ e => e)
        have K3 := kk.trans (k2.trans k3)
        clear hr
        go_wp2_with fail
        go_roundw
        case rel => exact ⟨i + 1, by omega, by go_num, by rw [HF.out]; exact HL3, HN3, K3⟩
        case measure => simp [intOf]; omega
      · have HF : Hid ((ks.take (i + 1)).filterMap letterOf = (ks.take i).filterMap letterOf ++ [(a.data.toList, b.data.toList)]) := by
          show _ = _
          rw [HT.out, List.filterMap_append]
          simp [hr]
        have HL3 : (w2.alloc (.cells #[.string a, .string b] 142)).ownsRow we.heap.size 142 2 u3 ((ks.take i).filterMap letterOf).length (((ks.take i).filterMap letterOf).flatMap encL) := (k2.trans k3).owns HL.out (fun _ _ e => e)
        have HN3 := (k2.trans k3).owns HN.out (fun _ _ e => e)
        have K3 := kk.trans (k2.trans k3)
        clear hr k2 k3
        have z3 : we.heap.size ≤ w2.heap.size + 1 := by
          have := K3.size
          simpa using this
        have HL3' : Hid ((w2.alloc (.cells #[.string a, .string b] 142)).ownsRow we.heap.size 142 2 u3 ((ks.take i).filterMap letterOf).length (((ks.take i).filterMap letterOf).flatMap encL)) := HL3
        go_wp2_with (at_builtin; refine wpList_append_placed _ rfl _ _ 144 rfl we.heap.size 142 i0 z0 2 32 Tryz.underlying144 hi hz0 hz2 hz3 hz1 (by decide) _ _ _ rfl (HL3.alloc _) ⟨w2.heap.size + 1, 0, none⟩ 1 1 [.string a, .string b] rfl rfl ?c1 ?c2 ?c3 ?c4 ?c5 ?_)
        case c1 =>
          intro j u hj
          match j, hj with
          | 0, hj => simp at hj; subst hj; simp [Addr.add]
          | 1, hj => simp at hj; subst hj; simp [Addr.add]
        case c2 => intro u hu; simp at hu; rcases hu with rfl | rfl <;> rfl
        case c3 => unfold maxLen; omega
        case c4 => omega
        case c5 => simp; omega
        intro v5 w5 ho5 hg5 hpl5
        clear hpl5
        have k4 : Fresh (w2.alloc (.cells #[.string a, .string b] 142)) ((w2.alloc (.cells #[.string a, .string b] 142)).alloc (.cells #[.string a, .string b] 142)) := (Keeps.refl _ _).alloc _
        have k5 : Keeps (fun i => we.heap.size ≤ i) ((w2.alloc (.cells #[.string a, .string b] 142)).alloc (.cells #[.string a, .string b] 142)) w5 := (Keeps.refl _ _).grown hg5 (fun i hi _ => ((HL3'.out.alloc (.cells #[.string a, .string b] 142)).lt i hi).1)
        have K5 : Fresh we w5 := (K3.trans k4).then k5 (fun i hi e => by omega)
        have hN5 : Row9 w5 we.heap.size (.slice (some ⟨g, 0, none⟩) ks.length cap) ks := by
          have hN4 := k4.owns HN3 (fun _ _ e => e)
          refine ((Keeps.refl (fun i => u3.ownBlock = some i) _).grown hg5 (fun i hi _ => hi)).owns hN4 (fun i hi e => ?_)
          have t1 := owns_tag hN4 hi
          have t2 := owns_tag (HL3'.out.alloc (.cells #[.string a, .string b] 142)) e
          rw [t1] at t2
          exact absurd (Option.some.inj t2) (by decide)
        have hL5 : RowL w5 we.heap.size v5 ((ks.take (i + 1)).filterMap letterOf) := by
          rw [HF.out]
          unfold RowL
          rw [List.length_append, List.flatMap_append]
          exact ho5
        clear ho5 hg5 k4 k5 HL3 HN3 K3
        go_wp2_with fail
        go_roundw
        case rel => exact ⟨i + 1, by omega, by go_num, hL5, hN5, K5⟩
        case measure => simp [intOf]; omega
    · have ei : i = ks.length := by omega
      subst ei
      have z2 : ¬ (ks.length : Int) < (ks.length : Int) := by omega
      have eL : ks.take ks.length = ks := List.take_length
      rw [eL] at HL hlenL
      obtain ⟨a2, cap2, rfl, hd1, hd2, ha2⟩ := own_form HL.out
      by_cases hz : (ks.filterMap letterOf).length = 0
      · have e0 : ks.filterMap letterOf = [] := List.length_eq_zero_iff.1 hz
        rw [hz]
        have hsn := fun fv => sort_none a2 cap2 fv wr
        go_wp2_with fail
        refine (hsn _).mono ?_
        rintro e w2 ⟨rfl, rfl⟩
        go_wp2_with fail
        go_ret
        have hLL := HL.out
        rw [hz] at hLL
        refine ⟨_, ks, rfl, HS.out, ?_, H.out.fresh kk, kk⟩
        have e1 : sortL (ks.filterMap letterOf) = [] := by
          rw [e0]; simp [sortL]
        rw [e1]
        rw [e0] at hLL
        exact hLL
      · obtain ⟨g2, rfl⟩ := ha2 hz
        have hg2 : g2 < wr.heap.size := (HL.out.lt g2 rfl).2
        have hb2 : we.heap.size ≤ g2 := (HL.out.lt g2 rfl).1
        have hsa := sort_any g2 cap2 (ks.filterMap letterOf) wr (holdsL HL.out) hg2 (by omega)
        go_wp2_with fail
        refine hsa.mono ?_
        rintro e w2 ⟨rfl, n, os, rfl⟩
        obtain ⟨r1, r2⟩ := sorted_row (q := n) (os := os) HL.out hg2
        generalize Go.Proofs.sortWorldK encL 2 wr g2 0 n (sortL (ks.filterMap letterOf)).toArray os = w2 at *
        have K2 : Fresh we w2 := kk.then r2 (fun i hi e => by omega)
        clear hsa
        go_wp2_with fail
        go_ret
        exact ⟨_, ks, rfl, HS.out, r1, H.out.fresh K2, K2⟩

end
end Go.Proofs.YtegbkpjcjlihmabGreatDoor
