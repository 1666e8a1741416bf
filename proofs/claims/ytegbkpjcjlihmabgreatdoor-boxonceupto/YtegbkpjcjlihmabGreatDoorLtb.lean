/-
  Letters, Users.
-/
import Derived.Test.YtegbkpjcjlihmabGreatDoorLta
namespace Go.Proofs.YtegbkpjcjlihmabGreatDoor
open Go.RowKit Go.Maps

theorem info80 : (Tryz.prog.info? 80).map (fun i => (i.zero.map (fun z => z.cells.size), i.size, i.bytes)) = some (some 2, 2, 32) := by kernel_rfl
theorem info80' : ∃ i z, Tryz.prog.info? 80 = some i ∧ i.zero = some z ∧ z.cells.size = 2 ∧ i.size = 2 ∧ i.bytes = 32 := by
  obtain ⟨i, hi, h⟩ := Option.map_eq_some_iff.1 info80
  simp only [Prod.mk.injEq] at h
  obtain ⟨z, hz, h1⟩ := Option.map_eq_some_iff.1 h.1
  exact ⟨i, z, hi, hz, h1, h.2.1, h.2.2⟩

/-- a user's letters: their keys, and what is in them -/
def toldOf (σ : Dk) (u : Text) (l : List Ltr) : List Ltr := (l.filter (fun x => x.1 == u)).map fun x => (x.2, (σ.read (nameOf x.1 x.2)).getD [])

/-- a row of told letters -/
def RowT (w : World) (base : Nat) (v : Value) (l : List Ltr) : Prop := w.ownsRow base 80 2 v l.length (l.flatMap encL)

theorem nodup_len : ∀ (l : List Text), l.Nodup → ∀ K : List Text, (∀ s ∈ l, s ∈ K) → l.length ≤ K.length
  | [], _, _, _ => Nat.zero_le _
  | a :: l, hn, K, h => by
    have h1 := List.nodup_cons.1 hn
    have ha : a ∈ K := h a (by simp)
    have := nodup_len l h1.2 (K.erase a) (fun s hs => (List.mem_erase_of_ne (fun e : s = a => h1.1 (by rw [← e]; exact hs))).2 (h s (by simp [hs])))
    rw [List.length_erase_of_mem ha] at this
    have hp := List.length_pos_of_mem ha
    simp only [List.length_cons]
    omega

theorem beq_bytes (a s : ByteArray) : (a.toList == s.toList) = decide (a.data.toList = s.data.toList) := by
  rw [ByteArray.toList_eq, ByteArray.toList_eq]
  by_cases h : a.data.toList = s.data.toList
  · rw [h]; simp
  · rw [decide_eq_false h]; exact beq_eq_false_iff_ne.2 h

theorem letterOf_len {s : Text} {x : Ltr} (h : letterOf s = some x) : x.1.length ≤ s.length ∧ x.2.length ≤ s.length := by
  unfold letterOf at h
  split at h
  · split at h
    · have hl := (cut_len (s.drop 4) [58]).2
      have hd : (s.drop 4).length ≤ s.length := by simp
      split at h
      · split at h
        · rw [← Option.some.inj h]
          simp only [List.length_take, List.length_drop]
          omega
        · cases h
      · cases h
    · cases h
  · cases h

theorem sortL_mem {l : List Ltr} {x : Ltr} : x ∈ sortL l ↔ x ∈ l := List.mem_mergeSort

theorem toldOf_snoc (σ : Dk) (u : Text) (l : List Ltr) (x : Ltr) : toldOf σ u (l ++ [x]) = toldOf σ u l ++ (if x.1 = u then [(x.2, (σ.read (nameOf x.1 x.2)).getD [])] else []) := by
  unfold toldOf
  rw [List.filter_append, List.map_append]
  congr 1
  by_cases h : x.1 = u
  · simp [h]
  · have : (x.1 == u) = false := beq_eq_false_iff_ne.2 h
    simp [h, this]

theorem toldOf_len (σ : Dk) (u : Text) (l : List Ltr) : (toldOf σ u l).length ≤ l.length := by
  unfold toldOf
  rw [List.length_map]
  exact List.length_filter_le _ _

theorem Live.grown2 {w W W' : World} {A : Nat → Prop} {d : Nat} {K : List Text} {C L : Nat} {σ : Dk} {v : Value} {n b0 sz : Nat} {xs : List Value} {T : TypeId} (h : Live w W A d K C L σ) (ho : W.ownsRow b0 T sz v n xs) (hg : W.grownBy W' v.ownBlock) (hA : ∀ i, A i → i < b0) (hw : w.heap.size ≤ b0) : Live w W' A d K C L σ ∧ Keeps (fun i => b0 ≤ i) W W' := by
  have hb : ∀ i, v.ownBlock = some i → b0 ≤ i := fun i hi => (ho.lt i hi).1
  have k : Keeps (fun i => b0 ≤ i) W W' := (Keeps.refl _ W).grown hg (fun i hi _ => hb i hi)
  exact ⟨h.side k (fun i hi e => by have := hA i hi; omega) (fun i e => by omega), k⟩

section
variable {w we : World} {A : Nat → Prop} {d : Nat} {σ : Dk} {K : List Text} {C L : Nat}

set_option maxHeartbeats 4000000 in
set_option maxRecDepth 100000 in
theorem told_any (h : Live w we A d K C L σ) (hG : Gl w) (hK : K.length ≤ 1099511627776) (hKs : ∀ s ∈ K, s.length < 4294967281) (u : ByteArray) :
    Calls Tryz.prog 30 #[ptr d, .string u] we fun e w' => ∃ v ks, e = .returned v ∧ Sorted σ.now ks ∧ RowT w' we.heap.size v (toldOf σ u.data.toList (sortL (ks.filterMap letterOf))) ∧ Live w w' A d K C L σ ∧ Keeps A we w' := by
  have hlet := letters_any h hG hK hKs
  obtain ⟨i0, z0, hi, hz0, hz1, hz2, hz3⟩ := info80'
  have H : Hid (Live w we A d K C L σ) := h
  clear h
  unfold ptr at *
  go_enter Tryz.func30, Tryz.ntmps30
  go_wp2_with fail
  refine hlet.mono ?_
  rintro e w1 ⟨nv, ks, rfl, hs, hrow, h1, k1⟩
  have hbound : ∀ x ∈ sortL (ks.filterMap letterOf), x.1.length < 4294967281 ∧ x.2.length < 4294967281 := fun x hx => by
    obtain ⟨s, hs1, hs2⟩ := List.mem_filterMap.1 (sortL_mem.1 hx)
    have := letterOf_len hs2
    have := hKs s (H.out.2.2.1.nowK s ((hs.mem s).1 hs1))
    omega
  have hlen : (sortL (ks.filterMap letterOf)).length ≤ 1099511627776 := by
    rw [sortL_length]
    refine Nat.le_trans (List.length_filterMap_le _ _) ?_
    have hn := hs.nodup
    have hm : ∀ s ∈ ks, s ∈ K := fun s h => H.out.2.2.1.nowK s ((hs.mem s).1 h)
    exact Nat.le_trans (nodup_len ks hn K hm) hK
  obtain ⟨ls, hls⟩ : ∃ ls, ls = sortL (ks.filterMap letterOf) := ⟨_, rfl⟩
  rw [← hls] at hrow hbound hlen
  have HR : Hid (∀ w' v, RowT w' we.heap.size v (toldOf σ u.data.toList ls) → Live w w' A d K C L σ → Keeps A we w' → ∃ v' ks, Ending.returned v = .returned v' ∧ Sorted σ.now ks ∧ RowT w' we.heap.size v' (toldOf σ u.data.toList (sortL (ks.filterMap letterOf))) ∧ Live w w' A d K C L σ ∧ Keeps A we w') :=
    fun w' v a b c => ⟨v, ks, rfl, hs, by rw [← hls]; exact a, b, c⟩
  unfold RowL at hrow
  obtain ⟨ao, cap, rfl, hc1, hc2, hao⟩ := own_form hrow
  unfold maxLen at hc1
  have Hrow : Hid (w1.ownsRow we.heap.size 142 2 (.slice ao ls.length cap) ls.length (ls.flatMap encL)) := hrow
  have H1 : Hid (Live w w1 A d K C L σ) := h1
  have hA : ∀ i, we.heap.size ≤ i → ¬ A i := fun i hi e => by have := (H.out.1 i e).2; omega
  clear hrow h1 hlet hs hls
  go_wp2_with fail
  go_loopw [5, 13] (fun t5 t13 wr => ∃ (i : Nat), i ≤ ls.length ∧ t13 = .int .i64 i ∧ RowT wr we.heap.size t5 (toldOf σ u.data.toList (ls.take i)) ∧ wr.ownsRow we.heap.size 142 2 (.slice ao ls.length cap) ls.length (ls.flatMap encL) ∧ Live w wr A d K C L σ ∧ Keeps A we wr) (fun _ t13 _ => ls.length - (intOf t13).toNat)
  case atStart => exact ⟨0, Nat.zero_le _, rfl, World.ownsRow_nil _ _ _ _, Hrow.out, H1.out, k1.ofFresh⟩
  case round =>
    obtain ⟨i, hile, rfl, hT, hN, hLv, kk⟩ := hrel
    have HT : Hid (wr.ownsRow we.heap.size 80 2 u5 (toldOf σ u.data.toList (ls.take i)).length ((toldOf σ u.data.toList (ls.take i)).flatMap encL)) := hT
    have HN : Hid (wr.ownsRow we.heap.size 142 2 (.slice ao ls.length cap) ls.length (ls.flatMap encL)) := hN
    have HV : Hid (Live w wr A d K C L σ) := hLv
    have hlT : (toldOf σ u.data.toList (ls.take i)).length ≤ ls.length := Nat.le_trans (toldOf_len _ _ _) (by simp; omega)
    clear hT hN hLv
    by_cases hlt : i < ls.length
    · obtain ⟨g, rfl⟩ := hao (by omega)
      obtain ⟨x, hx⟩ : ∃ x, ls[i]? = some x := ⟨ls[i], List.getElem?_eq_getElem hlt⟩
      have hb := hbound x (List.mem_of_getElem? hx)
      have hx! : ls[i]! = x := by
        rw [getElem!_pos ls i hlt]
        rw [List.getElem?_eq_getElem hlt] at hx
        exact Option.some.inj hx
      have f0 := flat_at ls (i * 2) (by omega)
      have f1 := flat_at ls (i * 2 + 1) (by omega)
      have d0 : i * 2 / 2 = i := by omega
      have d1 : (i * 2 + 1) / 2 = i := by omega
      have d2 : i * 2 % 2 = 0 := by omega
      have d3 : (i * 2 + 1) % 2 = 1 := by omega
      rw [d0, d2, hx!] at f0
      rw [d1, d3, hx!] at f1
      have hc0 : wr.cell? ⟨g, i * 2, none⟩ = some (.string ⟨x.1.toArray⟩) := own_cell HN.out _ _ f0
      have hc1' : wr.cell? ⟨g, i * 2 + 1, none⟩ = some (.string ⟨x.2.toArray⟩) := own_cell HN.out _ _ f1
      have HX : Hid (ls.take (i + 1) = ls.take i ++ [x]) := by
        show _ = _
        rw [List.take_add_one, hx]; rfl
      obtain ⟨X, hX⟩ : ∃ X : ByteArray, X = ⟨x.1.toArray⟩ := ⟨_, rfl⟩
      obtain ⟨Y, hY⟩ : ∃ Y : ByteArray, Y = ⟨x.2.toArray⟩ := ⟨_, rfl⟩
      have hX1 : X.data.toList = x.1 := by rw [hX]
      have hY1 : Y.data.toList = x.2 := by rw [hY]
      rw [← hX] at hc0
      rw [← hY] at hc1'
      have sX : X.size < 4294967281 := by rw [← hX1] at hb; exact hb.1
      have sY : Y.size < 4294967281 := by rw [← hY1] at hb; exact hb.2
      have z1 : (0 : Int) ≤ (i : Int) := by omega
      have z2 : (i : Int) < (ls.length : Int) := by omega
      have hbq := beq_bytes X u
      rw [hX1] at hbq
      have k3 : Fresh wr (wr.alloc (.cells #[.string X, .string Y] 142)) := (Keeps.refl _ _).alloc _
      obtain ⟨q0, q1, _, _⟩ := cells2 (heap_new wr (.cells #[.string X, .string Y] 142))
      have HT3 : (wr.alloc (.cells #[.string X, .string Y] 142)).ownsRow we.heap.size 80 2 u5 (toldOf σ u.data.toList (ls.take i)).length ((toldOf σ u.data.toList (ls.take i)).flatMap encL) := k3.owns HT.out (fun _ _ e => e)
      have HN3 := k3.owns HN.out (fun _ _ e => e)
      have HV3 := HV.out.fresh k3
      have K3 := kk.trans k3.ofFresh
      have hpb := heap_new wr (.cells #[.string X, .string Y] 142)
      have hsz3 : we.heap.size ≤ wr.heap.size := kk.size
      clear hx hx! f0 f1 d0 d1 d2 d3 hX hY hb
      by_cases hxu : x.1 = u.data.toList
      · have hbt : (X.toList == u.toList) = true := by rw [hbq]; exact decide_eq_true hxu
        have hname := name_any X Y (wr.alloc (.cells #[.string X, .string Y] 142)) (hG.fresh HV3.2.2.2) (by omega) (by omega)
        have HP : Hid (toldOf σ u.data.toList (ls.take (i + 1)) = toldOf σ u.data.toList (ls.take i) ++ [(x.2, (σ.read (nameOf x.1 x.2)).getD [])]) := by
          show _ = _
          rw [HX.out, toldOf_snoc, if_pos hxu]
        clear hbq hxu
        have HT3' : Hid ((wr.alloc (.cells #[.string X, .string Y] 142)).ownsRow we.heap.size 80 2 u5 (toldOf σ u.data.toList (ls.take i)).length ((toldOf σ u.data.toList (ls.take i)).flatMap encL)) := HT3
        have HN3' : Hid ((wr.alloc (.cells #[.string X, .string Y] 142)).ownsRow we.heap.size 142 2 (.slice (some ⟨g, 0, none⟩) ls.length cap) ls.length (ls.flatMap encL)) := HN3
        have HV3' : Hid (Live w (wr.alloc (.cells #[.string X, .string Y] 142)) A d K C L σ) := HV3
        clear HT3 HN3 HV3
        go_wp2_with fail
        refine hname.mono ?_
        rintro e w3 ⟨rfl, k4⟩
        have HV4 := HV3'.out.fresh k4
        have hnl : (nameB X Y).size ≤ maxLen := by
          have := nameOf_len X.data.toList Y.data.toList (by have : X.data.toList.length = X.size := rfl; omega)
          show (nameOf X.data.toList Y.data.toList).length ≤ maxLen
          have : X.data.toList.length = X.size := rfl
          have : Y.data.toList.length = Y.size := rfl
          unfold maxLen
          omega
        have hread := HV4.read (nameB X Y) hnl
        have ern : (nameB X Y).data.toList = nameOf x.1 x.2 := by
          show nameOf X.data.toList Y.data.toList = _
          rw [hX1, hY1]
        rw [ern] at hread
        obtain ⟨D, hD⟩ : ∃ D : ByteArray, D = ⟨((σ.read (nameOf x.1 x.2)).getD []).toArray⟩ := ⟨_, rfl⟩
        rw [← hD] at hread
        have hD1 : D.data.toList = (σ.read (nameOf x.1 x.2)).getD [] := by rw [hD]
        have hpb4 := k4.heap hpb (fun e => e)
        have K4 := K3.trans k4.ofFresh
        have HT4 : Hid (w3.ownsRow we.heap.size 80 2 u5 (toldOf σ u.data.toList (ls.take i)).length ((toldOf σ u.data.toList (ls.take i)).flatMap encL)) := k4.owns HT3'.out (fun _ _ e => e)
        have HN4 : Hid (w3.ownsRow we.heap.size 142 2 (.slice (some ⟨g, 0, none⟩) ls.length cap) ls.length (ls.flatMap encL)) := k4.owns HN3'.out (fun _ _ e => e)
        clear hD hname HV4 q0 q1 hpb HT3' HN3' HV3' ern
        generalize (σ.read (nameOf x.1 x.2)).isSome = rb at hread
        unfold ptr at *
        go_wp2_with fail
        refine hread.mono ?_
        rintro e w4 ⟨rfl, h5, k5, hs5⟩
        clear hs5
        have HT5 : w4.ownsRow we.heap.size 80 2 u5 (toldOf σ u.data.toList (ls.take i)).length ((toldOf σ u.data.toList (ls.take i)).flatMap encL) := k5.owns HT4.out (fun k hk => hA k (HT4.out.lt k hk).1)
        have HN5 : Hid (w4.ownsRow we.heap.size 142 2 (.slice (some ⟨g, 0, none⟩) ls.length cap) ls.length (ls.flatMap encL)) := k5.owns HN4.out (fun k hk => hA k (HN4.out.lt k hk).1)
        have hpb5 := k5.heap hpb4 (hA _ hsz3)
        obtain ⟨q0, q1, _, _⟩ := cells2 hpb5
        have K5 := K4.trans k5
        have H5 : Hid (Live w w4 A d K C L σ) := h5
        have HT5' : Hid (w4.ownsRow we.heap.size 80 2 u5 (toldOf σ u.data.toList (ls.take i)).length ((toldOf σ u.data.toList (ls.take i)).flatMap encL)) := HT5
        have z5 : we.heap.size ≤ w4.heap.size := K5.size
        clear hread h5 k5
        go_wp2_with (at_builtin; refine wpList_append_placed _ rfl _ _ 77 rfl we.heap.size 80 i0 z0 2 32 Tryz.underlying77 hi hz0 hz2 hz3 hz1 (by decide) _ _ _ rfl (HT5.alloc _) ⟨w4.heap.size, 0, none⟩ 1 1 [.string Y, .string D] rfl rfl ?c1 ?c2 ?c3 ?c4 ?c5 ?_)
        case c1 =>
          intro j u hj
          match j, hj with
          | 0, hj => simp at hj; subst hj; simp [Addr.add]
          | 1, hj => simp at hj; subst hj; simp [Addr.add]
        case c2 => intro u hu; simp at hu; rcases hu with rfl | rfl <;> rfl
        case c3 => unfold maxLen; omega
        case c4 => omega
        case c5 => simp; omega
        intro v6 w6 ho6 hg6 hpl6
        clear hpl6
        have ka : Fresh w4 (w4.alloc (.cells #[.string Y, .string D] 80)) := (Keeps.refl _ _).alloc _
        have hw0 : w.heap.size ≤ we.heap.size := H.out.2.2.2.size
        obtain ⟨h6, k6⟩ := (H5.out.fresh ka).grown2 (HT5'.out.alloc _) hg6 (fun i hi => (H.out.1 i hi).2) hw0
        have K6 : Keeps A we w6 := (K5.trans ka.ofFresh).then k6 (fun i hi e => by omega)
        have hN6 : w6.ownsRow we.heap.size 142 2 (.slice (some ⟨g, 0, none⟩) ls.length cap) ls.length (ls.flatMap encL) := by
          have hN' := ka.owns HN5.out (fun _ _ e => e)
          refine ((Keeps.refl (fun i => u5.ownBlock = some i) _).grown hg6 (fun i hi _ => hi)).owns hN' (fun i hi e => ?_)
          have t1 := owns_tag hN' hi
          have t2 := owns_tag (HT5'.out.alloc (.cells #[.string Y, .string D] 80)) e
          rw [t1] at t2
          exact absurd (Option.some.inj t2) (by decide)
        have hT6 : RowT w6 we.heap.size v6 (toldOf σ u.data.toList (ls.take (i + 1))) := by
          rw [HP.out]
          unfold RowT
          rw [List.length_append, List.flatMap_append, ← hD1, ← hY1]
          exact ho6
        clear ho6 hg6 ka k6 HT5 K5
        go_wp2_with fail
        go_roundw
        case rel => exact ⟨i + 1, by omega, by go_num, hT6, hN6, h6, K6⟩
        case measure => simp [intOf]; omega
      · have hbt : (X.toList == u.toList) = false := by rw [hbq]; exact decide_eq_false hxu
        have HP : Hid (toldOf σ u.data.toList (ls.take (i + 1)) = toldOf σ u.data.toList (ls.take i)) := by
          show _ = _
          rw [HX.out, toldOf_snoc, if_neg hxu, List.append_nil]
        clear hbq hxu
        go_wp2_with fail
        go_roundw
        case rel => exact ⟨i + 1, by omega, by go_num, by rw [HP.out]; exact HT3, HN3, HV3, K3⟩
        case measure => simp [intOf]; omega
    · have ei : i = ls.length := by omega
      subst ei
      have z2 : ¬ (ls.length : Int) < (ls.length : Int) := by omega
      have eL : ls.take ls.length = ls := List.take_length
      rw [eL] at HT
      go_wp2_with fail
      go_ret
      obtain ⟨v', ks', e1, r1⟩ := HR.out wr u5 HT.out HV.out kk
      exact ⟨v', e1, ks', r1⟩

end
end Go.Proofs.YtegbkpjcjlihmabGreatDoor
