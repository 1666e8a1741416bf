/-
  letters: all that are there. | Letters, Users. | Users.
-/
import Derived.Test.YtegbkpjcjlihmabGreatDoorSra
import Derived.Test.YtegbkpjcjlihmabGreatDoorGh
import Derived.Lib.OwnBridge
namespace Go.Proofs.YtegbkpjcjlihmabGreatDoor
open Go.RowKit Go.Maps

theorem info142 : (Tryz.prog.info? 142).map (fun i => (i.zero.map (fun z => z.cells.size), i.size, i.bytes)) = some (some 2, 2, 32) := by kernel_rfl
theorem info142' : ∃ i z, Tryz.prog.info? 142 = some i ∧ i.zero = some z ∧ z.cells.size = 2 ∧ i.size = 2 ∧ i.bytes = 32 := by
  obtain ⟨i, hi, h⟩ := Option.map_eq_some_iff.1 info142
  simp only [Prod.mk.injEq] at h
  obtain ⟨z, hz, h1⟩ := Option.map_eq_some_iff.1 h.1
  exact ⟨i, z, hi, hz, h1, h.2.1, h.2.2⟩

section
variable {w we : World} {A : Nat → Prop} {d : Nat} {σ : Dk} {K : List Text} {C L : Nat}

set_option maxHeartbeats 4000000 in
set_option maxRecDepth 100000 in
theorem letters_any (h : Live w we A d K C L σ) (hG : Gl w) (hK : K.length ≤ 1099511627776) (hKs : ∀ s ∈ K, s.length < 4294967281) :
    Calls Tryz.prog 74 #[ptr d] we fun e w' => ∃ v ks, e = .returned v ∧ Sorted σ.now ks ∧ RowL w' we.heap.size v (sortL (ks.filterMap letterOf)) ∧ Live w w' A d K C L σ ∧ Fresh we w' := by
  have hnames := h.names hK
  obtain ⟨i0, z0, hi, hz0, hz1, hz2, hz3⟩ := info142'
  have H : Hid (Live w we A d K C L σ) := h
  have hnK := h.2.2.1.nowK
  clear h
  unfold ptr at *
  go_enter Tryz.func74, Tryz.ntmps74
  go_wp2_with fail
  refine hnames.mono ?_
  rintro e w1 ⟨nv, ks, rfl, hs, hl1, hl2, hrow, h1, k1⟩
  obtain ⟨ao, cap, rfl, hc1, hc2, hao⟩ := own_form hrow
  unfold maxLen at hc1
  have HS : Hid (Sorted σ.now ks) := hs
  have hsz : ∀ s ∈ ks, s.length < 4294967281 := fun s hm => hKs s (hnK s ((hs.mem s).1 hm))
  have Hrow : Hid (Row9 w1 we.heap.size (.slice ao ks.length cap) ks) := hrow
  clear hrow hnames h1 hnK hs hKs
  go_wp2_with fail
  go_loopw [3, 11] (fun t3 t11 wr => ∃ (i : Nat), i ≤ ks.length ∧ t11 = .int .i64 i ∧ RowL wr we.heap.size t3 ((ks.take i).filterMap letterOf) ∧ Row9 wr we.heap.size (.slice ao ks.length cap) ks ∧ Fresh we wr) (fun _ t11 _ => ks.length - (intOf t11).toNat)
  case atStart => exact ⟨0, Nat.zero_le _, rfl, World.ownsRow_nil _ _ _ _, Hrow.out, k1⟩
  case round =>
    obtain ⟨i, hile, rfl, hL, hN, kk⟩ := hrel
    have HL : Hid (RowL wr we.heap.size u3 ((ks.take i).filterMap letterOf)) := hL
    have HN : Hid (Row9 wr we.heap.size (.slice ao ks.length cap) ks) := hN
    have hlenL : ((ks.take i).filterMap letterOf).length ≤ ks.length := Nat.le_trans (List.length_filterMap_le _ _) (by simp; omega)
    clear hL hN
    by_cases hlt : i < ks.length
    · obtain ⟨g, rfl⟩ := hao (by omega)
      obtain ⟨s, hs⟩ : ∃ s, ks[i]? = some s := ⟨ks[i], List.getElem?_eq_getElem hlt⟩
      have hcell := own_cell (u := .string ⟨s.toArray⟩) HN.out i (by rw [List.getElem?_map, hs]; rfl)
      have hlo := letterOf_any ⟨s.toArray⟩ wr (hG.fresh (H.out.2.2.2.trans kk)) (hsz s (List.mem_of_getElem? hs))
      have hss : (⟨s.toArray⟩ : ByteArray).data.toList = s := rfl
      rw [hss] at hlo
      have HT : Hid (ks.take (i + 1) = ks.take i ++ [s]) := by
        show _ = _
        rw [List.take_add_one, hs]; rfl
      clear hs hss
      generalize (⟨s.toArray⟩ : ByteArray) = sB at *
      have z1 : (0 : Int) ≤ (i : Int) := by omega
      have z2 : (i : Int) < (ks.length : Int) := by omega
      go_wp2_with fail
      refine hlo.mono ?_
      rintro e w2 ⟨a, b, r, rfl, hr, k2⟩
      clear hlo hcell
      have k3 : Fresh w2 (w2.alloc (.cells #[.string a, .string b] 142)) := (Keeps.refl _ _).alloc _
      obtain ⟨q0, q1, _, _⟩ := cells2 (heap_new w2 (.cells #[.string a, .string b] 142))
      cases r
      · have HF : Hid ((ks.take (i + 1)).filterMap letterOf = (ks.take i).filterMap letterOf) := by
          show _ = _
          rw [HT.out, List.filterMap_append]
          simp [hr]
        have HL3 := (k2.trans k3).owns HL.out (fun _ _ e => e)
        have HN3 := (k2.trans k3).owns HN.out (fun _ _ e => e)
        have K3 := kk.trans (k2.trans k3)
        clear hr
        go_wp2_with fail
        go_roundw
        case rel => exact ⟨i + 1, by omega, by go_num, by rw [HF.out]; exact HL3, HN3, K3⟩
        case measure => simp [intOf]; omega
      · have HF : Hid ((ks.take (i + 1)).filterMap letterOf = (ks.take i).filterMap letterOf ++ [(a.data.toList, b.data.toList)]) := by
          show _ = _
          rw [HT.out, List.filterMap_append]
          simp [hr]
        have HL3 : (w2.alloc (.cells #[.string a, .string b] 142)).ownsRow we.heap.size 142 2 u3 ((ks.take i).filterMap letterOf).length (((ks.take i).filterMap letterOf).flatMap encL) := (k2.trans k3).owns HL.out (fun _ _ e => e)
        have HN3 := (k2.trans k3).owns HN.out (fun _ _ e => e)
        have K3 := kk.trans (k2.trans k3)
        clear hr k2 k3
        have z3 : we.heap.size ≤ w2.heap.size + 1 := by
          have := K3.size
          simpa using this
        have HL3' : Hid ((w2.alloc (.cells #[.string a, .string b] 142)).ownsRow we.heap.size 142 2 u3 ((ks.take i).filterMap letterOf).length (((ks.take i).filterMap letterOf).flatMap encL)) := HL3
        go_wp2_with (at_builtin; refine wpList_append_placed _ rfl _ _ 144 rfl we.heap.size 142 i0 z0 2 32 Tryz.underlying144 hi hz0 hz2 hz3 hz1 (by decide) _ _ _ rfl (HL3.alloc _) ⟨w2.heap.size + 1, 0, none⟩ 1 1 [.string a, .string b] rfl rfl ?c1 ?c2 ?c3 ?c4 ?c5 ?_)
        case c1 =>
          intro j u hj
          match j, hj with
          | 0, hj => simp at hj; subst hj; simp [Addr.add]
          | 1, hj => simp at hj; subst hj; simp [Addr.add]
        case c2 => intro u hu; simp at hu; rcases hu with rfl | rfl <;> rfl
        case c3 => unfold maxLen; omega
        case c4 => omega
        case c5 => simp; omega
        intro v5 w5 ho5 hg5 hpl5
        clear hpl5
        have k4 : Fresh (w2.alloc (.cells #[.string a, .string b] 142)) ((w2.alloc (.cells #[.string a, .string b] 142)).alloc (.cells #[.string a, .string b] 142)) := (Keeps.refl _ _).alloc _
        have k5 : Keeps (fun i => we.heap.size ≤ i) ((w2.alloc (.cells #[.string a, .string b] 142)).alloc (.cells #[.string a, .string b] 142)) w5 := (Keeps.refl _ _).grown hg5 (fun i hi _ => ((HL3'.out.alloc (.cells #[.string a, .string b] 142)).lt i hi).1)
        have K5 : Fresh we w5 := (K3.trans k4).then k5 (fun i hi e => by omega)
        have hN5 : Row9 w5 we.heap.size (.slice (some ⟨g, 0, none⟩) ks.length cap) ks := by
          have hN4 := k4.owns HN3 (fun _ _ e => e)
          refine ((Keeps.refl (fun i => u3.ownBlock = some i) _).grown hg5 (fun i hi _ => hi)).owns hN4 (fun i hi e => ?_)
          have t1 := owns_tag hN4 hi
          have t2 := owns_tag (HL3'.out.alloc (.cells #[.string a, .string b] 142)) e
          rw [t1] at t2
          exact absurd (Option.some.inj t2) (by decide)
        have hL5 : RowL w5 we.heap.size v5 ((ks.take (i + 1)).filterMap letterOf) := by
          rw [HF.out]
          unfold RowL
          rw [List.length_append, List.flatMap_append]
          exact ho5
        clear ho5 hg5 k4 k5 HL3 HN3 K3
        go_wp2_with fail
        go_roundw
        case rel => exact ⟨i + 1, by omega, by go_num, hL5, hN5, K5⟩
        case measure => simp [intOf]; omega
    · have ei : i = ks.length := by omega
      subst ei
      have z2 : ¬ (ks.length : Int) < (ks.length : Int) := by omega
      have eL : ks.take ks.length = ks := List.take_length
      rw [eL] at HL hlenL
      obtain ⟨a2, cap2, rfl, hd1, hd2, ha2⟩ := own_form HL.out
      by_cases hz : (ks.filterMap letterOf).length = 0
      · have e0 : ks.filterMap letterOf = [] := List.length_eq_zero_iff.1 hz
        rw [hz]
        have hsn := fun fv => sort_none a2 cap2 fv wr
        go_wp2_with fail
        refine (hsn _).mono ?_
        rintro e w2 ⟨rfl, rfl⟩
        go_wp2_with fail
        go_ret
        have hLL := HL.out
        rw [hz] at hLL
        refine ⟨_, ks, rfl, HS.out, ?_, H.out.fresh kk, kk⟩
        have e1 : sortL (ks.filterMap letterOf) = [] := by
          rw [e0]; simp [sortL]
        rw [e1]
        rw [e0] at hLL
        exact hLL
      · obtain ⟨g2, rfl⟩ := ha2 hz
        have hg2 : g2 < wr.heap.size := (HL.out.lt g2 rfl).2
        have hb2 : we.heap.size ≤ g2 := (HL.out.lt g2 rfl).1
        have hsa := sort_any g2 cap2 (ks.filterMap letterOf) wr (holdsL HL.out) hg2 (by omega)
        go_wp2_with fail
        refine hsa.mono ?_
        rintro e w2 ⟨rfl, n, os, rfl⟩
        obtain ⟨r1, r2⟩ := sorted_row (q := n) (os := os) HL.out hg2
        generalize Go.Proofs.sortWorldK encL 2 wr g2 0 n (sortL (ks.filterMap letterOf)).toArray os = w2 at *
        have K2 : Fresh we w2 := kk.then r2 (fun i hi e => by omega)
        clear hsa
        go_wp2_with fail
        go_ret
        exact ⟨_, ks, rfl, HS.out, r1, H.out.fresh K2, K2⟩

end
end Go.Proofs.YtegbkpjcjlihmabGreatDoor

namespace Go.Proofs.YtegbkpjcjlihmabGreatDoor
open Go.RowKit Go.Maps

theorem info80 : (Tryz.prog.info? 80).map (fun i => (i.zero.map (fun z => z.cells.size), i.size, i.bytes)) = some (some 2, 2, 32) := by kernel_rfl
theorem info80' : ∃ i z, Tryz.prog.info? 80 = some i ∧ i.zero = some z ∧ z.cells.size = 2 ∧ i.size = 2 ∧ i.bytes = 32 := by
  obtain ⟨i, hi, h⟩ := Option.map_eq_some_iff.1 info80
  simp only [Prod.mk.injEq] at h
  obtain ⟨z, hz, h1⟩ := Option.map_eq_some_iff.1 h.1
  exact ⟨i, z, hi, hz, h1, h.2.1, h.2.2⟩

/-- a user's letters: their keys, and what is in them -/
def toldOf (σ : Dk) (u : Text) (l : List Ltr) : List Ltr := (l.filter (fun x => x.1 == u)).map fun x => (x.2, (σ.read (nameOf x.1 x.2)).getD [])

/-- a row of told letters -/
def RowT (w : World) (base : Nat) (v : Value) (l : List Ltr) : Prop := w.ownsRow base 80 2 v l.length (l.flatMap encL)

theorem nodup_len : ∀ (l : List Text), l.Nodup → ∀ K : List Text, (∀ s ∈ l, s ∈ K) → l.length ≤ K.length
  | [], _, _, _ => Nat.zero_le _
  | a :: l, hn, K, h => by
    have h1 := List.nodup_cons.1 hn
    have ha : a ∈ K := h a (by simp)
    have := nodup_len l h1.2 (K.erase a) (fun s hs => (List.mem_erase_of_ne (fun e : s = a => h1.1 (by rw [← e]; exact hs))).2 (h s (by simp [hs])))
    rw [List.length_erase_of_mem ha] at this
    have hp := List.length_pos_of_mem ha
    simp only [List.length_cons]
    omega

theorem beq_bytes (a s : ByteArray) : (a.toList == s.toList) = decide (a.data.toList = s.data.toList) := by
  rw [ByteArray.toList_eq, ByteArray.toList_eq]
  by_cases h : a.data.toList = s.data.toList
  · rw [h]; simp
  · rw [decide_eq_false h]; exact beq_eq_false_iff_ne.2 h

theorem letterOf_len {s : Text} {x : Ltr} (h : letterOf s = some x) : x.1.length ≤ s.length ∧ x.2.length ≤ s.length := by
  unfold letterOf at h
  split at h
  · split at h
    · have hl := (cut_len (s.drop 4) [58]).2
      have hd : (s.drop 4).length ≤ s.length := by simp
      split at h
      · split at h
        · rw [← Option.some.inj h]
          simp only [List.length_take, List.length_drop]
          omega
        · cases h
      · cases h
    · cases h
  · cases h

theorem sortL_mem {l : List Ltr} {x : Ltr} : x ∈ sortL l ↔ x ∈ l := List.mem_mergeSort

theorem toldOf_snoc (σ : Dk) (u : Text) (l : List Ltr) (x : Ltr) : toldOf σ u (l ++ [x]) = toldOf σ u l ++ (if x.1 = u then [(x.2, (σ.read (nameOf x.1 x.2)).getD [])] else []) := by
  unfold toldOf
  rw [List.filter_append, List.map_append]
  congr 1
  by_cases h : x.1 = u
  · simp [h]
  · have : (x.1 == u) = false := beq_eq_false_iff_ne.2 h
    simp [h, this]

theorem toldOf_len (σ : Dk) (u : Text) (l : List Ltr) : (toldOf σ u l).length ≤ l.length := by
  unfold toldOf
  rw [List.length_map]
  exact List.length_filter_le _ _

theorem Live.grown2 {w W W' : World} {A : Nat → Prop} {d : Nat} {K : List Text} {C L : Nat} {σ : Dk} {v : Value} {n b0 sz : Nat} {xs : List Value} {T : TypeId} (h : Live w W A d K C L σ) (ho : W.ownsRow b0 T sz v n xs) (hg : W.grownBy W' v.ownBlock) (hA : ∀ i, A i → i < b0) (hw : w.heap.size ≤ b0) : Live w W' A d K C L σ ∧ Keeps (fun i => b0 ≤ i) W W' := by
  have hb : ∀ i, v.ownBlock = some i → b0 ≤ i := fun i hi => (ho.lt i hi).1
  have k : Keeps (fun i => b0 ≤ i) W W' := (Keeps.refl _ W).grown hg (fun i hi _ => hb i hi)
  exact ⟨h.side k (fun i hi e => by have := hA i hi; omega) (fun i e => by omega), k⟩

section
variable {w we : World} {A : Nat → Prop} {d : Nat} {σ : Dk} {K : List Text} {C L : Nat}

set_option maxHeartbeats 4000000 in
set_option maxRecDepth 100000 in
theorem told_any (h : Live w we A d K C L σ) (hG : Gl w) (hK : K.length ≤ 1099511627776) (hKs : ∀ s ∈ K, s.length < 4294967281) (u : ByteArray) :
    Calls Tryz.prog 30 #[ptr d, .string u] we fun e w' => ∃ v ks, e = .returned v ∧ Sorted σ.now ks ∧ RowT w' we.heap.size v (toldOf σ u.data.toList (sortL (ks.filterMap letterOf))) ∧ Live w w' A d K C L σ ∧ Keeps A we w' := by
  have hlet := letters_any h hG hK hKs
  obtain ⟨i0, z0, hi, hz0, hz1, hz2, hz3⟩ := info80'
  have H : Hid (Live w we A d K C L σ) := h
  clear h
  unfold ptr at *
  go_enter Tryz.func30, Tryz.ntmps30
  go_wp2_with fail
  refine hlet.mono ?_
  rintro e w1 ⟨nv, ks, rfl, hs, hrow, h1, k1⟩
  have hbound : ∀ x ∈ sortL (ks.filterMap letterOf), x.1.length < 4294967281 ∧ x.2.length < 4294967281 := fun x hx => by
    obtain ⟨s, hs1, hs2⟩ := List.mem_filterMap.1 (sortL_mem.1 hx)
    have := letterOf_len hs2
    have := hKs s (H.out.2.2.1.nowK s ((hs.mem s).1 hs1))
    omega
  have hlen : (sortL (ks.filterMap letterOf)).length ≤ 1099511627776 := by
    rw [sortL_length]
    refine Nat.le_trans (List.length_filterMap_le _ _) ?_
    have hn := hs.nodup
    have hm : ∀ s ∈ ks, s ∈ K := fun s h => H.out.2.2.1.nowK s ((hs.mem s).1 h)
    exact Nat.le_trans (nodup_len ks hn K hm) hK
  obtain ⟨ls, hls⟩ : ∃ ls, ls = sortL (ks.filterMap letterOf) := ⟨_, rfl⟩
  rw [← hls] at hrow hbound hlen
  have HR : Hid (∀ w' v, RowT w' we.heap.size v (toldOf σ u.data.toList ls) → Live w w' A d K C L σ → Keeps A we w' → ∃ v' ks, Ending.returned v = .returned v' ∧ Sorted σ.now ks ∧ RowT w' we.heap.size v' (toldOf σ u.data.toList (sortL (ks.filterMap letterOf))) ∧ Live w w' A d K C L σ ∧ Keeps A we w') :=
    fun w' v a b c => ⟨v, ks, rfl, hs, by rw [← hls]; exact a, b, c⟩
  unfold RowL at hrow
  obtain ⟨ao, cap, rfl, hc1, hc2, hao⟩ := own_form hrow
  unfold maxLen at hc1
  have Hrow : Hid (w1.ownsRow we.heap.size 142 2 (.slice ao ls.length cap) ls.length (ls.flatMap encL)) := hrow
  have H1 : Hid (Live w w1 A d K C L σ) := h1
  have hA : ∀ i, we.heap.size ≤ i → ¬ A i := fun i hi e => by have := (H.out.1 i e).2; omega
  clear hrow h1 hlet hs hls
  go_wp2_with fail
  go_loopw [5, 13] (fun t5 t13 wr => ∃ (i : Nat), i ≤ ls.length ∧ t13 = .int .i64 i ∧ RowT wr we.heap.size t5 (toldOf σ u.data.toList (ls.take i)) ∧ wr.ownsRow we.heap.size 142 2 (.slice ao ls.length cap) ls.length (ls.flatMap encL) ∧ Live w wr A d K C L σ ∧ Keeps A we wr) (fun _ t13 _ => ls.length - (intOf t13).toNat)
  case atStart => exact ⟨0, Nat.zero_le _, rfl, World.ownsRow_nil _ _ _ _, Hrow.out, H1.out, k1.ofFresh⟩
  case round =>
    obtain ⟨i, hile, rfl, hT, hN, hLv, kk⟩ := hrel
    have HT : Hid (wr.ownsRow we.heap.size 80 2 u5 (toldOf σ u.data.toList (ls.take i)).length ((toldOf σ u.data.toList (ls.take i)).flatMap encL)) := hT
    have HN : Hid (wr.ownsRow we.heap.size 142 2 (.slice ao ls.length cap) ls.length (ls.flatMap encL)) := hN
    have HV : Hid (Live w wr A d K C L σ) := hLv
    have hlT : (toldOf σ u.data.toList (ls.take i)).length ≤ ls.length := Nat.le_trans (toldOf_len _ _ _) (by simp; omega)
    clear hT hN hLv
    by_cases hlt : i < ls.length
    · obtain ⟨g, rfl⟩ := hao (by omega)
      obtain ⟨x, hx⟩ : ∃ x, ls[i]? = some x := ⟨ls[i], List.getElem?_eq_getElem hlt⟩
      have hb := hbound x (List.mem_of_getElem? hx)
      have hx! : ls[i]! = x := by
        rw [getElem!_pos ls i hlt]
        rw [List.getElem?_eq_getElem hlt] at hx
        exact Option.some.inj hx
      have f0 := flat_at ls (i * 2) (by omega)
      have f1 := flat_at ls (i * 2 + 1) (by omega)
      have d0 : i * 2 / 2 = i := by omega
      have d1 : (i * 2 + 1) / 2 = i := by omega
      have d2 : i * 2 % 2 = 0 := by omega
      have d3 : (i * 2 + 1) % 2 = 1 := by omega
      rw [d0, d2, hx!] at f0
      rw [d1, d3, hx!] at f1
      have hc0 : wr.cell? ⟨g, i * 2, none⟩ = some (.string ⟨x.1.toArray⟩) := own_cell HN.out _ _ f0
      have hc1' : wr.cell? ⟨g, i * 2 + 1, none⟩ = some (.string ⟨x.2.toArray⟩) := own_cell HN.out _ _ f1
      have HX : Hid (ls.take (i + 1) = ls.take i ++ [x]) := by
        show _ = _
        rw [List.take_add_one, hx]; rfl
      obtain ⟨X, hX⟩ : ∃ X : ByteArray, X = ⟨x.1.toArray⟩ := ⟨_, rfl⟩
      obtain ⟨Y, hY⟩ : ∃ Y : ByteArray, Y = ⟨x.2.toArray⟩ := ⟨_, rfl⟩
      have hX1 : X.data.toList = x.1 := by rw [hX]
      have hY1 : Y.data.toList = x.2 := by rw [hY]
      rw [← hX] at hc0
      rw [← hY] at hc1'
      have sX : X.size < 4294967281 := by rw [← hX1] at hb; exact hb.1
      have sY : Y.size < 4294967281 := by rw [← hY1] at hb; exact hb.2
      have z1 : (0 : Int) ≤ (i : Int) := by omega
      have z2 : (i : Int) < (ls.length : Int) := by omega
      have hbq := beq_bytes X u
      rw [hX1] at hbq
      have k3 : Fresh wr (wr.alloc (.cells #[.string X, .string Y] 142)) := (Keeps.refl _ _).alloc _
      obtain ⟨q0, q1, _, _⟩ := cells2 (heap_new wr (.cells #[.string X, .string Y] 142))
      have HT3 : (wr.alloc (.cells #[.string X, .string Y] 142)).ownsRow we.heap.size 80 2 u5 (toldOf σ u.data.toList (ls.take i)).length ((toldOf σ u.data.toList (ls.take i)).flatMap encL) := k3.owns HT.out (fun _ _ e => e)
      have HN3 := k3.owns HN.out (fun _ _ e => e)
      have HV3 := HV.out.fresh k3
      have K3 := kk.trans k3.ofFresh
      have hpb := heap_new wr (.cells #[.string X, .string Y] 142)
      have hsz3 : we.heap.size ≤ wr.heap.size := kk.size
      clear hx hx! f0 f1 d0 d1 d2 d3 hX hY hb
      by_cases hxu : x.1 = u.data.toList
      · have hbt : (X.toList == u.toList) = true := by rw [hbq]; exact decide_eq_true hxu
        have hname := name_any X Y (wr.alloc (.cells #[.string X, .string Y] 142)) (hG.fresh HV3.2.2.2) (by omega) (by omega)
        have HP : Hid (toldOf σ u.data.toList (ls.take (i + 1)) = toldOf σ u.data.toList (ls.take i) ++ [(x.2, (σ.read (nameOf x.1 x.2)).getD [])]) := by
          show _ = _
          rw [HX.out, toldOf_snoc, if_pos hxu]
        clear hbq hxu
        have HT3' : Hid ((wr.alloc (.cells #[.string X, .string Y] 142)).ownsRow we.heap.size 80 2 u5 (toldOf σ u.data.toList (ls.take i)).length ((toldOf σ u.data.toList (ls.take i)).flatMap encL)) := HT3
        have HN3' : Hid ((wr.alloc (.cells #[.string X, .string Y] 142)).ownsRow we.heap.size 142 2 (.slice (some ⟨g, 0, none⟩) ls.length cap) ls.length (ls.flatMap encL)) := HN3
        have HV3' : Hid (Live w (wr.alloc (.cells #[.string X, .string Y] 142)) A d K C L σ) := HV3
        clear HT3 HN3 HV3
        go_wp2_with fail
        refine hname.mono ?_
        rintro e w3 ⟨rfl, k4⟩
        have HV4 := HV3'.out.fresh k4
        have hnl : (nameB X Y).size ≤ maxLen := by
          have := nameOf_len X.data.toList Y.data.toList (by have : X.data.toList.length = X.size := rfl; omega)
          show (nameOf X.data.toList Y.data.toList).length ≤ maxLen
          have : X.data.toList.length = X.size := rfl
          have : Y.data.toList.length = Y.size := rfl
          unfold maxLen
          omega
        have hread := HV4.read (nameB X Y) hnl
        have ern : (nameB X Y).data.toList = nameOf x.1 x.2 := by
          show nameOf X.data.toList Y.data.toList = _
          rw [hX1, hY1]
        rw [ern] at hread
        obtain ⟨D, hD⟩ : ∃ D : ByteArray, D = ⟨((σ.read (nameOf x.1 x.2)).getD []).toArray⟩ := ⟨_, rfl⟩
        rw [← hD] at hread
        have hD1 : D.data.toList = (σ.read (nameOf x.1 x.2)).getD [] := by rw [hD]
        have hpb4 := k4.heap hpb (fun e => e)
        have K4 := K3.trans k4.ofFresh
        have HT4 : Hid (w3.ownsRow we.heap.size 80 2 u5 (toldOf σ u.data.toList (ls.take i)).length ((toldOf σ u.data.toList (ls.take i)).flatMap encL)) := k4.owns HT3'.out (fun _ _ e => e)
        have HN4 : Hid (w3.ownsRow we.heap.size 142 2 (.slice (some ⟨g, 0, none⟩) ls.length cap) ls.length (ls.flatMap encL)) := k4.owns HN3'.out (fun _ _ e => e)
        clear hD hname HV4 q0 q1 hpb HT3' HN3' HV3' ern
        generalize (σ.read (nameOf x.1 x.2)).isSome = rb at hread
        unfold ptr at *
        go_wp2_with fail
        refine hread.mono ?_
        rintro e w4 ⟨rfl, h5, k5, hs5⟩
        clear hs5
        have HT5 : w4.ownsRow we.heap.size 80 2 u5 (toldOf σ u.data.toList (ls.take i)).length ((toldOf σ u.data.toList (ls.take i)).flatMap encL) := k5.owns HT4.out (fun k hk => hA k (HT4.out.lt k hk).1)
        have HN5 : Hid (w4.ownsRow we.heap.size 142 2 (.slice (some ⟨g, 0, none⟩) ls.length cap) ls.length (ls.flatMap encL)) := k5.owns HN4.out (fun k hk => hA k (HN4.out.lt k hk).1)
        have hpb5 := k5.heap hpb4 (hA _ hsz3)
        obtain ⟨q0, q1, _, _⟩ := cells2 hpb5
        have K5 := K4.trans k5
        have H5 : Hid (Live w w4 A d K C L σ) := h5
        have HT5' : Hid (w4.ownsRow we.heap.size 80 2 u5 (toldOf σ u.data.toList (ls.take i)).length ((toldOf σ u.data.toList (ls.take i)).flatMap encL)) := HT5
        have z5 : we.heap.size ≤ w4.heap.size := K5.size
        clear hread h5 k5
        go_wp2_with (at_builtin; refine wpList_append_placed _ rfl _ _ 77 rfl we.heap.size 80 i0 z0 2 32 Tryz.underlying77 hi hz0 hz2 hz3 hz1 (by decide) _ _ _ rfl (HT5.alloc _) ⟨w4.heap.size, 0, none⟩ 1 1 [.string Y, .string D] rfl rfl ?c1 ?c2 ?c3 ?c4 ?c5 ?_)
        case c1 =>
          intro j u hj
          match j, hj with
          | 0, hj => simp at hj; subst hj; simp [Addr.add]
          | 1, hj => simp at hj; subst hj; simp [Addr.add]
        case c2 => intro u hu; simp at hu; rcases hu with rfl | rfl <;> rfl
        case c3 => unfold maxLen; omega
        case c4 => omega
        case c5 => simp; omega
        intro v6 w6 ho6 hg6 hpl6
        clear hpl6
        have ka : Fresh w4 (w4.alloc (.cells #[.string Y, .string D] 80)) := (Keeps.refl _ _).alloc _
        have hw0 : w.heap.size ≤ we.heap.size := H.out.2.2.2.size
        obtain ⟨h6, k6⟩ := (H5.out.fresh ka).grown2 (HT5'.out.alloc _) hg6 (fun i hi => (H.out.1 i hi).2) hw0
        have K6 : Keeps A we w6 := (K5.trans ka.ofFresh).then k6 (fun i hi e => by omega)
        have hN6 : w6.ownsRow we.heap.size 142 2 (.slice (some ⟨g, 0, none⟩) ls.length cap) ls.length (ls.flatMap encL) := by
          have hN' := ka.owns HN5.out (fun _ _ e => e)
          refine ((Keeps.refl (fun i => u5.ownBlock = some i) _).grown hg6 (fun i hi _ => hi)).owns hN' (fun i hi e => ?_)
          have t1 := owns_tag hN' hi
          have t2 := owns_tag (HT5'.out.alloc (.cells #[.string Y, .string D] 80)) e
          rw [t1] at t2
          exact absurd (Option.some.inj t2) (by decide)
        have hT6 : RowT w6 we.heap.size v6 (toldOf σ u.data.toList (ls.take (i + 1))) := by
          rw [HP.out]
          unfold RowT
          rw [List.length_append, List.flatMap_append, ← hD1, ← hY1]
          exact ho6
        clear ho6 hg6 ka k6 HT5 K5
        go_wp2_with fail
        go_roundw
        case rel => exact ⟨i + 1, by omega, by go_num, hT6, hN6, h6, K6⟩
        case measure => simp [intOf]; omega
      · have hbt : (X.toList == u.toList) = false := by rw [hbq]; exact decide_eq_false hxu
        have HP : Hid (toldOf σ u.data.toList (ls.take (i + 1)) = toldOf σ u.data.toList (ls.take i)) := by
          show _ = _
          rw [HX.out, toldOf_snoc, if_neg hxu, List.append_nil]
        clear hbq hxu
        go_wp2_with fail
        go_roundw
        case rel => exact ⟨i + 1, by omega, by go_num, by rw [HP.out]; exact HT3, HN3, HV3, K3⟩
        case measure => simp [intOf]; omega
    · have ei : i = ls.length := by omega
      subst ei
      have z2 : ¬ (ls.length : Int) < (ls.length : Int) := by omega
      have eL : ls.take ls.length = ls := List.take_length
      rw [eL] at HT
      go_wp2_with fail
      go_ret
      obtain ⟨v', ks', e1, r1⟩ := HR.out wr u5 HT.out HV.out kk
      exact ⟨v', e1, ks', r1⟩

end
end Go.Proofs.YtegbkpjcjlihmabGreatDoor

namespace Go.Proofs.YtegbkpjcjlihmabGreatDoor
open Go.RowKit Go.Maps

theorem info9 : (Tryz.prog.info? 9).map (fun i => (i.zero.map (fun z => z.cells.size), i.size, i.bytes)) = some (some 1, 1, 16) := by kernel_rfl
theorem info9' : ∃ i z, Tryz.prog.info? 9 = some i ∧ i.zero = some z ∧ z.cells.size = 1 ∧ i.size = 1 ∧ i.bytes = 16 := by
  obtain ⟨i, hi, h⟩ := Option.map_eq_some_iff.1 info9
  simp only [Prod.mk.injEq] at h
  obtain ⟨z, hz, h1⟩ := Option.map_eq_some_iff.1 h.1
  exact ⟨i, z, hi, hz, h1, h.2.1, h.2.2⟩

/-- whose the first i letters are -/
def usersTo (ls : List Ltr) (i : Nat) : List Text := (ls.take i).map (·.1)
theorem usersTo_len (ls : List Ltr) (i : Nat) : (usersTo ls i).length ≤ ls.length := by
  unfold usersTo
  simp
  omega
theorem usersTo_succ {ls : List Ltr} {i : Nat} {x : Ltr} (h : ls[i]? = some x) : usersTo ls (i + 1) = usersTo ls i ++ [x.1] := by
  unfold usersTo
  rw [List.take_add_one, h]
  simp
theorem usersTo_all (ls : List Ltr) : usersTo ls ls.length = ls.map (·.1) := by
  unfold usersTo
  rw [List.take_length]

theorem compact_len {α : Type} [Inhabited α] [DecidableEq α] (zs : List α) : (Lib.compact zs).length ≤ zs.length := by
  unfold Lib.compact Lib.compactUpTo
  rw [List.length_map]
  exact Nat.le_trans (List.length_filter_le _ _) (by simp)

theorem compact_any (base : Nat) (v : Value) (zs : List Text) (we wr : World) (hrow : Row9 wr base v zs) (hb : we.heap.size ≤ base) (kk : Fresh we wr) (hz : zs.length ≤ 1099511627776) :
    Calls Tryz.prog 101 #[v] wr fun e w' => ∃ v', e = .returned v' ∧ Row9 w' base v' (Lib.compact zs) ∧ Fresh we w' := by
  obtain ⟨a2, cap2, rfl, hd1, hd2, ha2⟩ := own_form hrow
  by_cases h0 : zs.length = 0
  · have e0 : zs = [] := List.length_eq_zero_iff.1 h0
    subst e0
    refine (Tryz.slices_Compact_string_empty a2 cap2 wr).mono ?_
    rintro e w' ⟨rfl, rfl⟩
    exact ⟨_, rfl, hrow, kk⟩
  · obtain ⟨g2, rfl⟩ := ha2 h0
    have HT2 : wr.ownsRow base 9 1 (.slice (some ⟨g2, 0, none⟩) zs.length cap2) zs.length (zs.map encStr) := hrow
    obtain ⟨g', cap', eg, hb', hg, hn, hm, hll, hH⟩ := Lib.holds_of_ownsRow HT2 (by simp)
    injection eg with e1 _ e3
    injection e1 with e1
    injection e1 with e1
    subst e1 e3
    have hcl := compact_len zs
    refine (Tryz.slices_Compact_string g2 0 cap2 zs wr hH (by omega) (by omega)).mono ?_
    rintro e w' ⟨rfl, q, rfl⟩
    refine ⟨_, rfl, ?_, ?_⟩
    · have h1 := Lib.ownsRow_putRow (q := q) (k := (Lib.compact zs).length) (ys := Lib.compact zs ++ List.replicate (zs.length - (Lib.compact zs).length) []) HT2 (by rw [List.length_append, List.length_replicate]; omega) (by omega)
      rw [List.take_left] at h1
      exact h1
    · exact Keeps.ofBelow (Lib.below_putRow kk.toBelow (Nat.le_trans hb hb'))

section
variable {w we : World} {A : Nat → Prop} {d : Nat} {σ : Dk} {K : List Text} {C L : Nat}

set_option maxHeartbeats 4000000 in
set_option maxRecDepth 100000 in
theorem users_any (h : Live w we A d K C L σ) (hG : Gl w) (hK : K.length ≤ 1099511627776) (hKs : ∀ s ∈ K, s.length < 4294967281) :
    Calls Tryz.prog 66 #[ptr d] we fun e w' => ∃ v ks, e = .returned v ∧ Sorted σ.now ks ∧ Row9 w' we.heap.size v (Lib.compact ((sortL (ks.filterMap letterOf)).map (·.1))) ∧ Live w w' A d K C L σ ∧ Fresh we w' := by
  have hlet := letters_any h hG hK hKs
  obtain ⟨i0, z0, hi, hz0, hz1, hz2, hz3⟩ := info9'
  have H : Hid (Live w we A d K C L σ) := h
  clear h
  unfold ptr at *
  go_enter Tryz.func66, Tryz.ntmps66
  go_wp2_with fail
  refine hlet.mono ?_
  rintro e w1 ⟨nv, ks, rfl, hs, hrow, h1, k1⟩
  have hlen : (sortL (ks.filterMap letterOf)).length ≤ 1099511627776 := by
    rw [sortL_length]
    refine Nat.le_trans (List.length_filterMap_le _ _) ?_
    have hn := hs.nodup
    have hm : ∀ s ∈ ks, s ∈ K := fun s h => H.out.2.2.1.nowK s ((hs.mem s).1 h)
    exact Nat.le_trans (nodup_len ks hn K hm) hK
  obtain ⟨ls, hls⟩ : ∃ ls, ls = sortL (ks.filterMap letterOf) := ⟨_, rfl⟩
  rw [← hls] at hrow hlen
  have HR : Hid (∀ w' v, Row9 w' we.heap.size v (Lib.compact (ls.map (·.1))) → Fresh we w' → ∃ v' ks, Ending.returned v = .returned v' ∧ Sorted σ.now ks ∧ Row9 w' we.heap.size v' (Lib.compact ((sortL (ks.filterMap letterOf)).map (·.1))) ∧ Live w w' A d K C L σ ∧ Fresh we w') :=
    fun w' v a c => ⟨v, ks, rfl, hs, by rw [← hls]; exact a, H.out.fresh c, c⟩
  unfold RowL at hrow
  obtain ⟨ao, cap, rfl, hc1, hc2, hao⟩ := own_form hrow
  unfold maxLen at hc1
  have Hrow : Hid (w1.ownsRow we.heap.size 142 2 (.slice ao ls.length cap) ls.length (ls.flatMap encL)) := hrow
  clear hrow h1 hlet hs hls
  go_wp2_with fail
  go_loopw [3, 9] (fun t3 t9 wr => ∃ (i : Nat), i ≤ ls.length ∧ t9 = .int .i64 i ∧ Row9 wr we.heap.size t3 (usersTo ls i) ∧ wr.ownsRow we.heap.size 142 2 (.slice ao ls.length cap) ls.length (ls.flatMap encL) ∧ Fresh we wr) (fun _ t9 _ => ls.length - (intOf t9).toNat)
  case atStart => exact ⟨0, Nat.zero_le _, rfl, World.ownsRow_nil _ _ _ _, Hrow.out, k1⟩
  case round =>
    obtain ⟨i, hile, rfl, hT, hN, kk⟩ := hrel
    have eT := usersTo_len ls i
    have HT : Hid (wr.ownsRow we.heap.size 9 1 u3 (usersTo ls i).length ((usersTo ls i).map encStr)) := hT
    have HN : Hid (wr.ownsRow we.heap.size 142 2 (.slice ao ls.length cap) ls.length (ls.flatMap encL)) := hN
    clear hT hN
    by_cases hlt : i < ls.length
    · obtain ⟨g, rfl⟩ := hao (by omega)
      obtain ⟨x, hx⟩ : ∃ x, ls[i]? = some x := ⟨ls[i], List.getElem?_eq_getElem hlt⟩
      have hx! : ls[i]! = x := by
        rw [getElem!_pos ls i hlt]
        rw [List.getElem?_eq_getElem hlt] at hx
        exact Option.some.inj hx
      have f0 := flat_at ls (i * 2) (by omega)
      have f1 := flat_at ls (i * 2 + 1) (by omega)
      have d0 : i * 2 / 2 = i := by omega
      have d1 : (i * 2 + 1) / 2 = i := by omega
      have d2 : i * 2 % 2 = 0 := by omega
      have d3 : (i * 2 + 1) % 2 = 1 := by omega
      rw [d0, d2, hx!] at f0
      rw [d1, d3, hx!] at f1
      have hc0 : wr.cell? ⟨g, i * 2, none⟩ = some (.string ⟨x.1.toArray⟩) := own_cell HN.out _ _ f0
      have hc1' : wr.cell? ⟨g, i * 2 + 1, none⟩ = some (.string ⟨x.2.toArray⟩) := own_cell HN.out _ _ f1
      have HX : Hid (usersTo ls (i + 1) = usersTo ls i ++ [x.1]) := usersTo_succ hx
      obtain ⟨X, hX⟩ : ∃ X : ByteArray, X = ⟨x.1.toArray⟩ := ⟨_, rfl⟩
      obtain ⟨Y, hY⟩ : ∃ Y : ByteArray, Y = ⟨x.2.toArray⟩ := ⟨_, rfl⟩
      rw [← hX] at hc0
      rw [← hY] at hc1'
      have HX1 : Hid (X = ⟨x.1.toArray⟩) := hX
      have z1 : (0 : Int) ≤ (i : Int) := by omega
      have z2 : (i : Int) < (ls.length : Int) := by omega
      have k3 : Fresh wr (wr.alloc (.cells #[.string X, .string Y] 142)) := (Keeps.refl _ _).alloc _
      have HT3 : (wr.alloc (.cells #[.string X, .string Y] 142)).ownsRow we.heap.size 9 1 u3 (usersTo ls i).length ((usersTo ls i).map encStr) := k3.owns HT.out (fun _ _ e => e)
      have HT3' : Hid ((wr.alloc (.cells #[.string X, .string Y] 142)).ownsRow we.heap.size 9 1 u3 (usersTo ls i).length ((usersTo ls i).map encStr)) := HT3
      have HN3 : Hid ((wr.alloc (.cells #[.string X, .string Y] 142)).ownsRow we.heap.size 142 2 (.slice (some ⟨g, 0, none⟩) ls.length cap) ls.length (ls.flatMap encL)) := k3.owns HN.out (fun _ _ e => e)
      have HK3 : Hid (Fresh we (wr.alloc (.cells #[.string X, .string Y] 142))) := kk.trans k3
      have hsz3 : we.heap.size ≤ wr.heap.size := kk.size
      clear hx hx! f0 f1 d0 d1 d2 d3 hX hY k3
      go_wp2_with (at_builtin; refine wpList_append_placed _ rfl _ _ 43 rfl we.heap.size 9 i0 z0 1 16 Tryz.underlying43 hi hz0 hz2 hz3 hz1 (by decide) _ _ _ rfl (HT3.alloc _) ⟨wr.heap.size + 1, 0, none⟩ 1 1 [.string X] rfl rfl (fun j u hj => by match j, hj with | 0, hj => simp at hj; subst hj; simp [Addr.add]) (fun u hu => by simp at hu; subst hu; rfl) (by unfold maxLen; omega) (by omega) (by simp; omega) ?_)
      intro v6 w6 ho6 hg6 hpl6
      clear hpl6
      have ka : Fresh (wr.alloc (.cells #[.string X, .string Y] 142)) ((wr.alloc (.cells #[.string X, .string Y] 142)).alloc (.cells #[.string X] 9)) := (Keeps.refl _ _).alloc _
      have k6 : Keeps (fun i => we.heap.size ≤ i) ((wr.alloc (.cells #[.string X, .string Y] 142)).alloc (.cells #[.string X] 9)) w6 := (Keeps.refl _ _).grown hg6 (fun i hi _ => ((HT3'.out.alloc (.cells #[.string X] 9)).lt i hi).1)
      have K6 : Fresh we w6 := (HK3.out.trans ka).then k6 (fun i hi e => by omega)
      have hN6 : w6.ownsRow we.heap.size 142 2 (.slice (some ⟨g, 0, none⟩) ls.length cap) ls.length (ls.flatMap encL) := by
        have hN' := ka.owns HN3.out (fun _ _ e => e)
        refine ((Keeps.refl (fun i => u3.ownBlock = some i) _).grown hg6 (fun i hi _ => hi)).owns hN' (fun i hi e => ?_)
        have t1 := owns_tag hN' hi
        have t2 := owns_tag (HT3'.out.alloc (.cells #[.string X] 9)) e
        rw [t1] at t2
        exact absurd (Option.some.inj t2) (by decide)
      have hT6 : Row9 w6 we.heap.size v6 (usersTo ls (i + 1)) := by
        rw [HX.out]
        unfold Row9
        rw [List.length_append, List.map_append]
        have e2 : [x.1].map encStr = [.string X] := by rw [HX1.out]; rfl
        rw [e2]
        exact ho6
      clear ho6 hg6 ka k6 HT3
      go_wp2_with fail
      go_roundw
      case rel => exact ⟨i + 1, by omega, by go_num, hT6, hN6, K6⟩
      case measure => simp [intOf]; omega
    · have ei : i = ls.length := by omega
      subst ei
      have z2 : ¬ (ls.length : Int) < (ls.length : Int) := by omega
      have HT2 : Row9 wr we.heap.size u3 (ls.map Prod.fst) := by
        have := HT.out
        rw [usersTo_all] at this
        exact this
      have hco := compact_any we.heap.size u3 (ls.map Prod.fst) we wr HT2 (Nat.le_refl _) kk (by rw [List.length_map]; exact hlen)
      clear HT eT HT2
      go_wp2_with fail
      refine hco.mono ?_
      rintro e w2 ⟨v', rfl, r1, r2⟩
      clear hco
      go_wp2_with fail
      go_ret
      exact HR.out _ _ r1 r2

end
end Go.Proofs.YtegbkpjcjlihmabGreatDoor
