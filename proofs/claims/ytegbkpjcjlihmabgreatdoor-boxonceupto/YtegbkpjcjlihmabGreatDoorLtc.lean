/-
  Users.
-/
import Derived.Test.YtegbkpjcjlihmabGreatDoorLtb
import Derived.Lib.OwnBridge
namespace Go.Proofs.YtegbkpjcjlihmabGreatDoor
open Go.RowKit Go.Maps

theorem info9 : (Tryz.prog.info? 9).map (fun i => (i.zero.map (fun z => z.cells.size), i.size, i.bytes)) = some (some 1, 1, 16) := by kernel_rfl
theorem info9' : ∃ i z, Tryz.prog.info? 9 = some i ∧ i.zero = some z ∧ z.cells.size = 1 ∧ i.size = 1 ∧ i.bytes = 16 := by
  obtain ⟨i, hi, h⟩ := Option.map_eq_some_iff.1 info9
  simp only [Prod.mk.injEq] at h
  obtain ⟨z, hz, h1⟩ := Option.map_eq_some_iff.1 h.1
  exact ⟨i, z, hi, hz, h1, h.2.1, h.2.2⟩

/-- whose the first i letters are -/
def usersTo (ls : List Ltr) (i : Nat) : List Text := (ls.take i).map (·.1)
theorem usersTo_len (ls : List Ltr) (i : Nat) : (usersTo ls i).length ≤ ls.length := by
  unfold usersTo
  simp
  omega
theorem usersTo_succ {ls : List Ltr} {i : Nat} {x : Ltr} (h : ls[i]? = some x) : usersTo ls (i + 1) = usersTo ls i ++ [x.1] := by
  unfold usersTo
  rw [List.take_add_one, h]
  simp
theorem usersTo_all (ls : List Ltr) : usersTo ls ls.length = ls.map (·.1) := by
  unfold usersTo
  rw [List.take_length]

theorem compact_len {α : Type} [Inhabited α] [DecidableEq α] (zs : List α) : (Lib.compact zs).length ≤ zs.length := by
  unfold Lib.compact Lib.compactUpTo
  rw [List.length_map]
  exact Nat.le_trans (List.length_filter_le _ _) (by simp)

theorem compact_any (base : Nat) (v : Value) (zs : List Text) (we wr : World) (hrow : Row9 wr base v zs) (hb : we.heap.size ≤ base) (kk : Fresh we wr) (hz : zs.length ≤ 1099511627776) :
    Calls Tryz.prog 101 #[v] wr fun e w' => ∃ v', e = .returned v' ∧ Row9 w' base v' (Lib.compact zs) ∧ Fresh we w' := by
  obtain ⟨a2, cap2, rfl, hd1, hd2, ha2⟩ := own_form hrow
  by_cases h0 : zs.length = 0
  · have e0 : zs = [] := List.length_eq_zero_iff.1 h0
    subst e0
    refine (Tryz.slices_Compact_string_empty a2 cap2 wr).mono ?_
    rintro e w' ⟨rfl, rfl⟩
    exact ⟨_, rfl, hrow, kk⟩
  · obtain ⟨g2, rfl⟩ := ha2 h0
    have HT2 : wr.ownsRow base 9 1 (.slice (some ⟨g2, 0, none⟩) zs.length cap2) zs.length (zs.map encStr) := hrow
    obtain ⟨g', cap', eg, hb', hg, hn, hm, hll, hH⟩ := Lib.holds_of_ownsRow HT2 (by simp)
    injection eg with e1 _ e3
    injection e1 with e1
    injection e1 with e1
    subst e1 e3
    have hcl := compact_len zs
    refine (Tryz.slices_Compact_string g2 0 cap2 zs wr hH (by omega) (by omega)).mono ?_
    rintro e w' ⟨rfl, q, rfl⟩
    refine ⟨_, rfl, ?_, ?_⟩
    · have h1 := Lib.ownsRow_putRow (q := q) (k := (Lib.compact zs).length) (ys := Lib.compact zs ++ List.replicate (zs.length - (Lib.compact zs).length) []) HT2 (by rw [List.length_append, List.length_replicate]; omega) (by omega)
      rw [List.take_left] at h1
      exact h1
    · exact Keeps.ofBelow (Lib.below_putRow kk.toBelow (Nat.le_trans hb hb'))

section
variable {w we : World} {A : Nat → Prop} {d : Nat} {σ : Dk} {K : List Text} {C L : Nat}

set_option maxHeartbeats 4000000 in
set_option maxRecDepth 100000 in
theorem users_any (h : Live w we A d K C L σ) (hG : Gl w) (hK : K.length ≤ 1099511627776) (hKs : ∀ s ∈ K, s.length < 4294967281) :
    Calls Tryz.prog 66 #[ptr d] we fun e w' => ∃ v ks, e = .returned v ∧ Sorted σ.now ks ∧ Row9 w' we.heap.size v (Lib.compact ((sortL (ks.filterMap letterOf)).map (·.1))) ∧ Live w w' A d K C L σ ∧ Fresh we w' := by
  have hlet := letters_any h hG hK hKs
  obtain ⟨i0, z0, hi, hz0, hz1, hz2, hz3⟩ := info9'
  have H : Hid (Live w we A d K C L σ) := h
  clear h
  unfold ptr at *
  go_enter Tryz.func66, Tryz.ntmps66
  go_wp2_with fail
  refine hlet.mono ?_
  rintro e w1 ⟨nv, ks, rfl, hs, hrow, h1, k1⟩
  have hlen : (sortL (ks.filterMap letterOf)).length ≤ 1099511627776 := by
    rw [sortL_length]
    refine Nat.le_trans (List.length_filterMap_le _ _) ?_
    have hn := hs.nodup
    have hm : ∀ s ∈ ks, s ∈ K := fun s h => H.out.2.2.1.nowK s ((hs.mem s).1 h)
    exact Nat.le_trans (nodup_len ks hn K hm) hK
  obtain ⟨ls, hls⟩ : ∃ ls, ls = sortL (ks.filterMap letterOf) := ⟨_, rfl⟩
  rw [← hls] at hrow hlen
  have HR : Hid (∀ w' v, Row9 w' we.heap.size v (Lib.compact (ls.map (·.1))) → Fresh we w' → ∃ v' ks, Ending.returned v = .returned v' ∧ Sorted σ.now ks ∧ Row9 w' we.heap.size v' (Lib.compact ((sortL (ks.filterMap letterOf)).map (·.1))) ∧ Live w w' A d K C L σ ∧ Fresh we w') :=
    fun w' v a c => ⟨v, ks, rfl, hs, by rw [← hls]; exact a, H.out.fresh c, c⟩
  unfold RowL at hrow
  obtain ⟨ao, cap, rfl, hc1, hc2, hao⟩ := own_form hrow
  unfold maxLen at hc1
  have Hrow : Hid (w1.ownsRow we.heap.size 142 2 (.slice ao ls.length cap) ls.length (ls.flatMap encL)) := hrow
  clear hrow h1 hlet hs hls
  go_wp2_with fail
  go_loopw [3, 9] (fun t3 t9 wr => ∃ (i : Nat), i ≤ ls.length ∧ t9 = .int .i64 i ∧ Row9 wr we.heap.size t3 (usersTo ls i) ∧ wr.ownsRow we.heap.size 142 2 (.slice ao ls.length cap) ls.length (ls.flatMap encL) ∧ Fresh we wr) (fun _ t9 _ => ls.length - (intOf t9).toNat)
  case atStart => exact ⟨0, Nat.zero_le _, rfl, World.ownsRow_nil _ _ _ _, Hrow.out, k1⟩
  case round =>
    obtain ⟨i, hile, rfl, hT, hN, kk⟩ := hrel
    have eT := usersTo_len ls i
    have HT : Hid (wr.ownsRow we.heap.size 9 1 u3 (usersTo ls i).length ((usersTo ls i).map encStr)) := hT
    have HN : Hid (wr.ownsRow we.heap.size 142 2 (.slice ao ls.length cap) ls.length (ls.flatMap encL)) := hN
    clear hT hN
    by_cases hlt : i < ls.length
    · obtain ⟨g, rfl⟩ := hao (by omega)
      obtain ⟨x, hx⟩ : ∃ x, ls[i]? = some x := ⟨ls[i], List.getElem?_eq_getElem hlt⟩
      have hx! : ls[i]! = x := by
        rw [getElem!_pos ls i hlt]
        rw [List.getElem?_eq_getElem hlt] at hx
        exact Option.some.inj hx
      have f0 := flat_at ls (i * 2) (by omega)
      have f1 := flat_at ls (i * 2 + 1) (by omega)
      have d0 : i * 2 / 2 = i := by omega
      have d1 : (i * 2 + 1) / 2 = i := by omega
      have d2 : i * 2 % 2 = 0 := by omega
      have d3 : (i * 2 + 1) % 2 = 1 := by omega
      rw [d0, d2, hx!] at f0
      rw [d1, d3, hx!] at f1
      have hc0 : wr.cell? ⟨g, i * 2, none⟩ = some (.string ⟨x.1.toArray⟩) := own_cell HN.out _ _ f0
      have hc1' : wr.cell? ⟨g, i * 2 + 1, none⟩ = some (.string ⟨x.2.toArray⟩) := own_cell HN.out _ _ f1
      have HX : Hid (usersTo ls (i + 1) = usersTo ls i ++ [x.1]) := usersTo_succ hx
      obtain ⟨X, hX⟩ : ∃ X : ByteArray, X = ⟨x.1.toArray⟩ := ⟨_, rfl⟩
      obtain ⟨Y, hY⟩ : ∃ Y : ByteArray, Y = ⟨x.2.toArray⟩ := ⟨_, rfl⟩
      rw [← hX] at hc0
      rw [← hY] at hc1'
      have HX1 : Hid (X = ⟨x.1.toArray⟩) := hX
      have z1 : (0 : Int) ≤ (i : Int) := by omega
      have z2 : (i : Int) < (ls.length : Int) := by omega
      have k3 : Fresh wr (wr.alloc (.cells #[.string X, .string Y] 142)) := (Keeps.refl _ _).alloc _
      have HT3 : (wr.alloc (.cells #[.string X, .string Y] 142)).ownsRow we.heap.size 9 1 u3 (usersTo ls i).length ((usersTo ls i).map encStr) := k3.owns HT.out (fun _ _ e => e)
      have HT3' : Hid ((wr.alloc (.cells #[.string X, .string Y] 142)).ownsRow we.heap.size 9 1 u3 (usersTo ls i).length ((usersTo ls i).map encStr)) := HT3
      have HN3 : Hid ((wr.alloc (.cells #[.string X, .string Y] 142)).ownsRow we.heap.size 142 2 (.slice (some ⟨g, 0, none⟩) ls.length cap) ls.length (ls.flatMap encL)) := k3.owns HN.out (fun _ _ e => e)
      have HK3 : Hid (Fresh we (wr.alloc (.cells #[.string X, .string Y] 142))) := kk.trans k3
      have hsz3 : we.heap.size ≤ wr.heap.size := kk.size
      clear hx hx! f0 f1 d0 d1 d2 d3 hX hY k3
      go_wp2_with (at_builtin; refine wpList_append_placed _ rfl _ _ 43 rfl we.heap.size 9 i0 z0 1 16 Tryz.underlying43 hi hz0 hz2 hz3 hz1 (by decide) _ _ _ rfl (HT3.alloc _) ⟨wr.heap.size + 1, 0, none⟩ 1 1 [.string X] rfl rfl (fun j u hj => by match j, hj with | 0, hj => simp at hj; subst hj; simp [Addr.add]) (fun u hu => by simp at hu; subst hu; rfl) (by unfold maxLen; omega) (by omega) (by simp; omega) ?_)
      intro v6 w6 ho6 hg6 hpl6
      clear hpl6
      have ka : Fresh (wr.alloc (.cells #[.string X, .string Y] 142)) ((wr.alloc (.cells #[.string X, .string Y] 142)).alloc (.cells #[.string X] 9)) := (Keeps.refl _ _).alloc _
      have k6 : Keeps (fun i => we.heap.size ≤ i) ((wr.alloc (.cells #[.string X, .string Y] 142)).alloc (.cells #[.string X] 9)) w6 := (Keeps.refl _ _).grown hg6 (fun i hi _ => ((HT3'.out.alloc (.cells #[.string X] 9)).lt i hi).1)
      have K6 : Fresh we w6 := (HK3.out.trans ka).then k6 (fun i hi e => by omega)
      have hN6 : w6.ownsRow we.heap.size 142 2 (.slice (some ⟨g, 0, none⟩) ls.length cap) ls.length (ls.flatMap encL) := by
        have hN' := ka.owns HN3.out (fun _ _ e => e)
        refine ((Keeps.refl (fun i => u3.ownBlock = some i) _).grown hg6 (fun i hi _ => hi)).owns hN' (fun i hi e => ?_)
        have t1 := owns_tag hN' hi
        have t2 := owns_tag (HT3'.out.alloc (.cells #[.string X] 9)) e
        rw [t1] at t2
        exact absurd (Option.some.inj t2) (by decide)
      have hT6 : Row9 w6 we.heap.size v6 (usersTo ls (i + 1)) := by
        rw [HX.out]
        unfold Row9
        rw [List.length_append, List.map_append]
        have e2 : [x.1].map encStr = [.string X] := by rw [HX1.out]; rfl
        rw [e2]
        exact ho6
      clear ho6 hg6 ka k6 HT3
      go_wp2_with fail
      go_roundw
      case rel => exact ⟨i + 1, by omega, by go_num, hT6, hN6, K6⟩
      case measure => simp [intOf]; omega
    · have ei : i = ls.length := by omega
      subst ei
      have z2 : ¬ (ls.length : Int) < (ls.length : Int) := by omega
      have HT2 : Row9 wr we.heap.size u3 (ls.map Prod.fst) := by
        have := HT.out
        rw [usersTo_all] at this
        exact this
      have hco := compact_any we.heap.size u3 (ls.map Prod.fst) we wr HT2 (Nat.le_refl _) kk (by rw [List.length_map]; exact hlen)
      clear HT eT HT2
      go_wp2_with fail
      refine hco.mono ?_
      rintro e w2 ⟨v', rfl, r1, r2⟩
      clear hco
      go_wp2_with fail
      go_ret
      exact HR.out _ _ r1 r2

end
end Go.Proofs.YtegbkpjcjlihmabGreatDoor
