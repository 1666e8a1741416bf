/-
  The reference's lists of names: without, with.
-/
import Derived.Test.YtegbkpjcjlihmaaRa
namespace Go.Proofs.Ytegbkpjcjlihmaa
open Go.RowKit Go.Maps

theorem info115 : (Try.prog.info? 115).map (fun i => (i.zero.map (fun z => z.cells.size), i.size, i.bytes)) = some (some 2, 2, 24) := by kernel_rfl
theorem info115' : ∃ i z, Try.prog.info? 115 = some i ∧ i.zero = some z ∧ z.cells.size = 2 ∧ i.size = 2 ∧ i.bytes = 24 := by
  obtain ⟨i, hi, h⟩ := Option.map_eq_some_iff.1 info115
  simp only [Prod.mk.injEq] at h
  obtain ⟨z, hz, h1⟩ := Option.map_eq_some_iff.1 h.1
  exact ⟨i, z, hi, hz, h1, h.2.1, h.2.2⟩

theorem cells_new2 (w : World) (T : TypeId) (a b : Value) : ∀ (j : Nat) (u : Value), [a, b][j]? = some u → (w.alloc (.cells #[a, b] T)).cell? ((⟨w.heap.size, 0, none⟩ : Addr).add j) = some u := by
  intro j u hj
  match j, hj with
  | 0, hj => simp at hj; subst hj; simp [Addr.add]
  | 1, hj => simp at hj; subst hj; simp [Addr.add]

theorem oneCell2 (a : ByteArray) (n : Int) : ∀ u ∈ [Value.string a, Value.int .i64 n], u.oneCell' = true := by
  intro u hu
  simp at hu
  rcases hu with rfl | rfl <;> rfl

theorem take_filter_succ {l : List Ent} {i : Nat} {e : Ent} (he : l[i]? = some e) (s : Text) : withoutE (l.take (i + 1)) s = withoutE (l.take i) s ++ (if e.1 = s then [] else [e]) := by
  unfold withoutE
  rw [List.take_add_one, he]
  simp only [Option.toList_some, List.filter_append]
  congr 1
  by_cases h : e.1 = s
  · simp [h]
  · simp [h]

theorem without_le (l : List Ent) (s : Text) : (withoutE l s).length ≤ l.length := List.length_filter_le _ _

set_option maxHeartbeats 4000000 in
set_option maxRecDepth 100000 in
theorem without_any (base : Nat) (v : Value) (l : List Ent) (s : ByteArray) (w : World) (h : EntsAt w base v l) (hl : l.length ≤ 1099511627776) :
    Calls Try.prog 78 #[v, .string s] w fun e w' => ∃ v', e = .returned v' ∧ EntsAt w' w.heap.size v' (withoutE l s.data.toList) ∧ Fresh w w' := by
  obtain ⟨i0, z0, hi0, hz0, hz1, hz2, hz3⟩ := info115'
  obtain ⟨ao, cap, rfl, hc1, hc2, hao⟩ := own_form' h
  unfold maxLen at hc1
  have H : Hid (EntsAt w base (.slice ao l.length cap) l) := h
  clear h
  go_enter Try.func78, Try.ntmps78
  go_wp2_with fail
  go_loopw [5, 6] (fun t5 t6 wr => ∃ i : Nat, i ≤ l.length ∧ t6 = .int .i64 i ∧ Fresh w wr ∧ EntsAt wr w.heap.size t5 (withoutE (l.take i) s.data.toList)) (fun _ t6 _ => l.length - (intOf t6).toNat)
  case atStart => exact ⟨0, Nat.zero_le _, rfl, Keeps.refl _ _, World.ownsRow_nil _ _ _ _⟩
  case round =>
    obtain ⟨i, hi, rfl, hf, hrow⟩ := hrel
    by_cases hlt : i < l.length
    · obtain ⟨g, rfl⟩ := hao (by omega)
      obtain ⟨e, he⟩ : ∃ e, l[i]? = some e := ⟨l[i], List.getElem?_eq_getElem hlt⟩
      have hg := rowOf_get l i e he
      have c0 : wr.cell? ⟨g, i * 2, none⟩ = some (.string ⟨e.1.toArray⟩) := hf.cellOf (own_cell' H.out _ _ hg.1) (fun e => e)
      have c1 : wr.cell? ⟨g, i * 2 + 1, none⟩ = some (.int .i64 e.2) := hf.cellOf (own_cell' H.out _ _ hg.2) (fun e => e)
      have HT : Hid (withoutE (l.take (i + 1)) s.data.toList = withoutE (l.take i) s.data.toList ++ (if e.1 = s.data.toList then [] else [e])) := take_filter_succ he _
      have hwl : (withoutE (l.take i) s.data.toList).length ≤ 1099511627776 := Nat.le_trans (without_le _ _) (Nat.le_trans (List.length_take_le _ _) (by omega))
      have z1 : (0 : Int) ≤ (i : Int) := by omega
      have z2 : (i : Int) < (l.length : Int) := by omega
      have hsz := hf.size
      have hbt := beq_text e.1 s
      clear he hg
      by_cases hq : e.1 = s.data.toList
      · have hb : ((⟨e.1.toArray⟩ : ByteArray).toList == s.toList) = true := by rw [hbt]; simpa using hq
        have HQ : Hid (e.1 = s.data.toList) := hq
        have hq' : (e.1 == s.toList) = true := by rw [ByteArray.toList_eq]; simpa using hq
        have HROW : Hid (EntsAt wr w.heap.size u5 (withoutE (l.take i) s.data.toList)) := hrow
        clear hq hbt hrow
        go_wp2_with fail
        go_roundw
        case rel =>
          refine ⟨i + 1, by omega, by go_num, hf, ?_⟩
          rw [HT.out, if_pos HQ.out, List.append_nil]
          exact HROW.out
        case measure => simp [intOf]; omega
      · have hb : ((⟨e.1.toArray⟩ : ByteArray).toList == s.toList) = false := by rw [hbt]; simpa using hq
        have HQ : Hid (¬ e.1 = s.data.toList) := hq
        have hq' : (e.1 == s.toList) = false := by rw [ByteArray.toList_eq]; simpa using hq
        obtain ⟨W0, hW0⟩ : ∃ W0, W0 = withoutE (l.take i) s.data.toList := ⟨_, rfl⟩
        rw [← hW0] at hrow hwl
        have HW0 : Hid (W0 = withoutE (l.take i) s.data.toList) := hW0
        clear hq hbt hW0
        go_wp2_with (at_builtin; refine wpList_append_placed _ rfl _ _ 109 rfl w.heap.size 115 i0 z0 2 24 Try.underlying109 hi0 hz0 hz2 hz3 hz1 (by decide) _ W0.length (rowOf W0) rfl (hrow.alloc _) ⟨wr.heap.size, 0, none⟩ 1 1 [.string ⟨e.1.toArray⟩, .int .i64 e.2] rfl rfl ?c1 ?c2 ?c3 ?c4 ?c5 ?_)
        case c1 => exact cells_new2 _ _ _ _
        case c2 => exact oneCell2 _ _
        case c3 => unfold maxLen; omega
        case c4 => omega
        case c5 => simp; omega
        intro v' w2 hown hgrow hpl
        have kS : Fresh w w2 := ((hf.alloc _).grown hgrow (fun k hk hlt' => by have := (hrow.lt k hk).1; omega))
        have row2 : Hid (EntsAt w2 w.heap.size v' (withoutE (l.take (i + 1)) s.data.toList)) := by
          show EntsAt w2 w.heap.size v' (withoutE (l.take (i + 1)) s.data.toList)
          rw [HT.out, if_neg HQ.out, ← HW0.out]
          unfold EntsAt
          rw [rowOf_append, List.length_append]
          exact hown
        clear hown hgrow hpl hrow
        go_wp2_with fail
        go_roundw
        case rel => exact ⟨i + 1, by omega, by go_num, kS, row2.out⟩
        case measure => simp [intOf]; omega
    · have z2 : ¬ (i : Int) < (l.length : Int) := by omega
      have HG : Hid (EntsAt wr w.heap.size u5 (withoutE l s.data.toList)) := by
        show EntsAt wr w.heap.size u5 (withoutE l s.data.toList)
        rw [List.take_of_length_le (by omega)] at hrow
        exact hrow
      clear hrow
      go_wp2
      go_ret
      exact ⟨_, rfl, HG.out, hf⟩

end Go.Proofs.Ytegbkpjcjlihmaa
