/-
  The law WireWhole: its walk.
-/
import Derived.Test.YtegbkpjcjlihmaaLawReads
import Derived.Deep.AppendSrc
namespace Go.Proofs.Ytegbkpjcjlihmaa
open Go.RowKit

theorem append_nil_src {w : World} {base : Nat} {ty : TypeId} {v : Value} {n : Nat} {xs : List Value} (ho : w.ownsRow base 36 2 v n xs) :
    (Builtin.append_ #[26, 26] ty #[v, .slice none 0 0]).run Try.prog w = .ok v w := by
  obtain ⟨i0, hi0, hz0, hz1, hz2⟩ := infoLine'
  rcases ho.2 with ⟨rfl, rfl⟩ | ⟨g, cap, cur, rfl, _, hg, h1, _⟩
  · simp [Builtin.append_, run_underlying Try.underlying26, sizeOf, typeInfo, hi0, Builtin.lenOf, Builtin.firstCells]
  · have hs : Src Try.prog i0.size 26 (.slice none 0 0) 0 [] w := Src.ofNil w Try.underlying26 0
    have h := run_append_room_src w 26 26 ty 36 i0 Try.underlying26 hi0 g 0 n cap (.slice none 0 0) 0 [] hs (by omega) (fun j h => by simp at h) (fun j h => by simp at h)
    exact h

/-- append(l, m...), both lists of lines of one's own -/
theorem wpList_append_lines {ops : Array Oper} {rest : List Oper} {o : Oper} {a : Act} {w : World} {Q : Exit → Act → World → Prop} (hgd : o.guard = none) (s x : Operand)
    (ho : o.op = .call { callee := .builtin .append, args := #[s, x], argTypes := #[26, 26] })
    (base base2 most : Nat) (v v2 : Value) (ls l2 : List (List UInt8)) (hs : a.eval s = v) (hx : a.eval x = v2) (hown : LinesAt w base most v ls) (hown2 : LinesAt w base2 most v2 l2) (hn : ls.length + l2.length < 1099511627776) (hbase : base ≤ w.heap.size)
    (h : ∀ v' w', LinesAt w' base most v' (ls ++ l2) → Keeps (fun k => v.ownBlock = some k) w w' → wpList Try.prog ops Q rest (a.put o.dst v') w') : wpList Try.prog ops Q (o :: rest) a w := by
  obtain ⟨i0, hi0, hz0, hz1, hz2⟩ := infoLine'
  rcases hown2.2 with ⟨rfl, hz⟩ | ⟨g, cap, cur, rfl, hbg, hg, hr⟩
  · have hl : l2 = [] := List.length_eq_zero_iff.1 hz
    subst hl
    refine wpList_plain hgd fun _ hK => ?_
    have hr := append_nil_src (ty := o.type) hown
    unfold Oper.wp execOp
    simp only [ho, resolve, invoke, builtin, Sem.run_bind, Sem.run_pure, Result.andThen_ok, List.map_toArray, List.map_cons, List.map_nil, hs, hx, hr]
    exact hK _ _ (h _ _ (by rw [List.append_nil]; exact hown) (Keeps.refl _ _))
  · refine wpList_append_placed w hgd s x 26 ho base 36 i0 _ 2 24 Try.underlying26 hi0 hz0 hz1 hz2 rfl (by decide) v ls.length _ hs hown ⟨g, 0, none⟩ l2.length cap (l2.flatMap (lineCells most)) hx (flat_length most l2) (hown2.cells (g := g) rfl) ?_ (by unfold maxLen; omega) (by omega) hbase ?_
    · intro u hu
      obtain ⟨l, _, hu⟩ := List.mem_flatMap.1 hu
      simp [lineCells] at hu
      rcases hu with rfl | rfl <;> rfl
    · intro v' w' ho hgr _
      refine h v' w' ?_ ((Keeps.refl _ w).grown hgr (fun k e _ => e))
      unfold LinesAt
      simpa using ho

/-- what holds behind the k-th piece -/
def WholeInv (w wr : World) (most rb ro : Nat) (ls : List (List UInt8)) (k : Nat) (l : Value) : Prop :=
  ∃ lb v lbo vo, Two w wr most rb lb v (cutFrom [] (upTo ls k)).2 ro lbo vo [] ∧ LinesAt wr w.heap.size most l (cutFrom [] (upTo ls k)).1

set_option maxHeartbeats 4000000 in
set_option maxRecDepth 100000 in
theorem lawWhole_some (most : Nat) (h1 : 1 ≤ most) (h2 : most ≤ 100000) (v : Value) (ls : List (List UInt8)) (m : Int) (w : World) (hm : w.cell? ⟨0, 0, none⟩ = some (.int .i64 m)) (hv : Strs w v ls)
    (_hn : ls.length < 1099511627776) (hT : ls.flatten.length < 4294967281) :
    Calls Try.prog 4 #[.int .i64 most, v] w fun e w' => e = .returned (.bool true) ∧ Fresh w w' := by
  obtain ⟨ao, cap, hve, hc1, hc2, hao⟩ := hv
  subst hve
  have HA : Hid (ls.length ≠ 0 → ∃ b off, ao = some ⟨b, off, none⟩ ∧ ∀ k l, ls[k]? = some l → w.cell? ⟨b, off + k, none⟩ = some (.string ⟨l.toArray⟩)) := hao
  clear hao
  go_enter Try.func4, Try.ntmps4
  go_wp2_with fail
  refine (new_some most h1 h2 w).mono ?_
  rintro e w1 ⟨rb, rfl, lb, vr, hr1, n1, f1⟩
  go_wp2_with fail
  refine (new_some most h1 h2 w1).mono ?_
  rintro e w2 ⟨ro, rfl, lbo, vo, hr2, n2, f2⟩
  have hTwo := Two.make hr1 n1 f1 hr2 n2 f2
  clear hr1 n1 f1 hr2 n2 f2
  go_wp2_with fail
  go_loopw [7, 8, 9] (fun t7 t8 t9 wr => ∃ k : Nat, k ≤ ls.length ∧ t9 = .int .i64 k ∧ t7 = .string ⟨(upTo ls k).toArray⟩ ∧ WholeInv w wr most rb ro ls k t8) (fun _ _ t9 _ => ls.length - (intOf t9).toNat)
  case atStart => exact ⟨0, Nat.zero_le _, rfl, rfl, lb, vr, lbo, vo, hTwo, World.ownsRow_nil _ _ _ _⟩
  case round =>
    clear hTwo
    obtain ⟨k, hk, rfl, rfl, lb, vr, lbo, vo, hTwo, hls⟩ := hrel
    by_cases hlt : k < ls.length
    · obtain ⟨b, off, rfl, hc⟩ := HA.out (by omega)
      obtain ⟨l, hl⟩ : ∃ l, ls[k]? = some l := ⟨ls[k], List.getElem?_eq_getElem hlt⟩
      have hcw := hc k l hl
      have Hup : Hid (upTo ls (k + 1) = upTo ls k ++ l) := upTo_snoc ls k l hl
      have hub := upTo_le ls (k + 1)
      have hul := congrArg List.length (upTo_snoc ls k l hl)
      rw [List.length_append] at hul
      have hcutA := cutFrom_append [] (upTo ls k) l
      rw [← upTo_snoc ls k l hl] at hcutA
      have hcl := cut_lengths (upTo ls k) []
      obtain ⟨⟨c1, cur⟩, hC⟩ : ∃ st, cutFrom [] (upTo ls k) = st := ⟨_, rfl⟩
      rw [hC] at hTwo hcutA hcl hls
      simp only [List.length_nil, Nat.zero_add] at hTwo hcutA hcl hls
      have hcl2 := cut_lengths l cur
      obtain ⟨⟨nl, nr⟩, hN⟩ : ∃ st, cutFrom cur l = st := ⟨_, rfl⟩
      rw [hN] at hcutA hcl2
      simp only [] at hcutA hcl2
      have HC : Hid (cutFrom [] (upTo ls (k + 1)) = (c1 ++ nl, nr)) := hcutA
      have HN : Hid (cutFrom cur l = (nl, nr)) := hN
      have hb2 : (upTo ls k).length + l.length < 4294967281 := by omega
      have hsl : (⟨l.toArray⟩ : ByteArray).size = l.length := by show l.toArray.size = _; simp
      have hb3 : cur.length + (⟨l.toArray⟩ : ByteArray).size < 1099511627776 := by rw [hsl]; omega
      have hb6 : c1.length + nl.length < 1099511627776 := by omega
      clear hcutA hl hc hub hul HA hC hN hsl
      have z2 : (k : Int) < (ls.length : Int) := by omega
      have hcw1 := Fresh.cell hTwo.fr hcw
      have hs0 := hTwo.fr.size
      go_wp2_with fail
      refine (feed_any most rb lb vr cur ⟨l.toArray⟩ wr hTwo.r h2 hb3).mono ?_
      rintro e w4 ⟨ve, rfl, hF4⟩
      have hels : (⟨l.toArray⟩ : ByteArray).data.toList = l := by simp
      rw [hels] at hF4
      clear hels
      obtain ⟨lb4, v4, hT4, hls4, hk4⟩ := hTwo.feed hF4
      rw [HN.out] at hT4 hls4
      have hl4 : LinesAt w4 w.heap.size most u8 c1 := hk4.owns hls (rows_free hTwo.r hls (by decide) (by decide) (by decide))
      have hs4 := hT4.fr.size
      clear hF4 hTwo hls hk4 hcw1
      go_wp2_with (at_builtin; refine wpList_append_lines rfl (.tmp 51) (.tmp 57) rfl w.heap.size _ most u8 ve c1 nl rfl rfl hl4 hls4 hb6 hs4 ?_)
      intro v5 w5 hl5 hk5
      have hT5 : Two w w5 most rb lb4 v4 nr ro lbo vo [] := by
        refine ⟨hk5.rd hT4.r (fun j a e => rows_free hT4.r hl4 (by decide) (by decide) (by decide) j e a), hk5.rd hT4.o (fun j a e => rows_free hT4.o hl4 (by decide) (by decide) (by decide) j e a), hT4.apart, hT4.newr, hT4.newo, ?_⟩
        exact hT4.fr.then hk5 (fun i hi e => by have := (hl4.lt i e).1; omega)
      clear hT4 hl4 hls4 hk5
      go_wp2_with fail
      rw [str_two (upTo ls k) l _ Hup.out]
      go_roundw
      case rel =>
        refine ⟨k + 1, by omega, by go_num, rfl, lb4, v4, lbo, vo, ?_, ?_⟩
        · rw [HC.out]; exact hT5
        · rw [HC.out]; exact hl5
      case measure => simp [intOf]; omega
    · have z2 : ¬ (k : Int) < (ls.length : Int) := by omega
      obtain rfl : k = ls.length := by omega
      have hub := upTo_le ls ls.length
      have hcl := cut_lengths (upTo ls ls.length) []
      obtain ⟨A, hA⟩ : ∃ A, upTo ls ls.length = A := ⟨_, rfl⟩
      rw [hA] at hTwo hls hub hcl ⊢
      clear hA
      obtain ⟨⟨c1, cur⟩, hC⟩ : ∃ st, cutFrom [] A = st := ⟨_, rfl⟩
      rw [hC] at hTwo hls hcl
      simp only [List.length_nil, Nat.zero_add] at hTwo hls hcl
      have HC : Hid (cutFrom [] A = (c1, cur)) := hC
      have hsl : (⟨A.toArray⟩ : ByteArray).size = A.length := by show A.toArray.size = _; simp
      have hb3 : ([] : List UInt8).length + (⟨A.toArray⟩ : ByteArray).size < 1099511627776 := by rw [hsl]; simp only [List.length_nil]; omega
      have hb5 : cur.length < 4611686018427387904 := by omega
      have hb6 : c1.length < 1099511627776 := by omega
      clear hC hsl HA
      have hs0 := hTwo.fr.size
      go_wp2_with fail
      refine (feed_any most ro lbo vo [] ⟨A.toArray⟩ wr hTwo.o h2 hb3).mono ?_
      rintro e w4 ⟨ve, rfl, hF4⟩
      have hels : (⟨A.toArray⟩ : ByteArray).data.toList = A := by simp
      rw [hels] at hF4
      clear hels
      obtain ⟨lb4, v4, hT4, hls4, hk4⟩ := hTwo.symm.feed hF4
      rw [HC.out] at hT4 hls4
      have hl4 : LinesAt w4 w.heap.size most u8 c1 := hk4.owns hls (rows_free hTwo.o hls (by decide) (by decide) (by decide))
      obtain ⟨a1, k1, hv1, hx1, hy1, hz1⟩ := own_form hl4
      obtain ⟨a2, k2, hv2, hx2, hy2, hz2⟩ := own_form hls4
      unfold maxLen at hx1 hx2
      clear hF4 hTwo hls hk4
      subst hv1
      subst hv2
      have hr4 := hT4.symm.r
      have ho4 := hT4.r
      have hf4 := hT4.fr
      clear hT4
      go_wp2_with fail
      refine (rest_any most rb lb vr cur w4 hr4 hb5).mono ?_
      rintro e w5 ⟨rfl, rfl⟩
      go_wp2_with fail
      refine (rest_any most ro lb4 v4 cur _ ho4 hb5).mono ?_
      rintro e w6 ⟨rfl, rfl⟩
      have Hl4 : Hid (LinesAt w6 w.heap.size most (.slice a1 c1.length k1) c1) := hl4
      obtain ⟨B4, hB4⟩ : ∃ B4, wr.heap.size = B4 := ⟨_, rfl⟩
      rw [hB4] at hls4
      clear hB4
      have Hm4 : Hid (LinesAt w6 B4 most (.slice a2 c1.length k2) c1) := hls4
      have Z1 : Hid (c1.length ≠ 0 → ∃ g, a1 = some ⟨g, 0, none⟩) := hz1
      have Z2 : Hid (c1.length ≠ 0 → ∃ g, a2 = some ⟨g, 0, none⟩) := hz2
      clear hl4 hls4 hz1 hz2 hr4 ho4
      go_wp2_with fail
      go_loopw [11] (fun t11 wx => ∃ k : Nat, k ≤ c1.length ∧ t11 = .int .i64 k ∧ Fresh w6 wx) (fun t11 _ => c1.length - (intOf t11).toNat)
      case atStart => exact ⟨0, Nat.zero_le _, rfl, Keeps.refl _ _⟩
      case round =>
        obtain ⟨k, hk, rfl, hf⟩ := hrel
        by_cases hlt : k < c1.length
        · obtain ⟨ga, rfl⟩ := Z1.out (by omega)
          obtain ⟨gb, rfl⟩ := Z2.out (by omega)
          obtain ⟨l, hl⟩ : ∃ l, c1[k]? = some l := ⟨c1[k], List.getElem?_eq_getElem hlt⟩
          have hg := flat_get most c1 k l hl
          have ha1 : LinesAt wr w.heap.size most (.slice (some ⟨ga, 0, none⟩) c1.length k1) c1 := hf.owns Hl4.out (fun _ _ e => e)
          have hb1 : LinesAt wr B4 most (.slice (some ⟨gb, 0, none⟩) c1.length k2) c1 := hf.owns Hm4.out (fun _ _ e => e)
          have p0 := own_cell ha1 _ _ hg.1
          have p1 := own_cell ha1 _ _ hg.2
          have q0 := own_cell hb1 _ _ hg.1
          have q1 := own_cell hb1 _ _ hg.2
          clear hg hl ha1 hb1
          have y1 : (0 : Int) ≤ (k : Int) := by omega
          have y2 : (k : Int) < (c1.length : Int) := by omega
          go_wp2_with fail
          go_quiet (fail)
          go_wp2_with fail
          go_roundw
          case rel => exact ⟨k + 1, by omega, by go_num, hf.drewN _⟩
          case measure => simp [intOf]; omega
        · have y2 : ¬ (k : Int) < (c1.length : Int) := by omega
          have hfx : Fresh w wr := hf4.trans hf
          have hmx := hfx.cell hm
          go_wp2_with fail
          refine (alive_any m wr hmx).mono ?_
          rintro e w8 ⟨rfl, hf8⟩
          go_wp2_with fail
          go_ret
          exact ⟨rfl, hfx.trans hf8⟩

set_option maxHeartbeats 4000000 in
set_option maxRecDepth 100000 in
theorem lawWhole_none (most : Int) (h : most < 1 ∨ 100000 < most) (v : Value) (m : Int) (w : World) (hm : w.cell? ⟨0, 0, none⟩ = some (.int .i64 m)) :
    Calls Try.prog 4 #[.int .i64 most, v] w fun e w' => e = .returned (.bool true) ∧ Fresh w w' := by
  have hN := new_none most h w
  by_cases h1 : most < 1
  · have a1 : decide (most < 1) = true := decide_eq_true h1
    clear h
    go_enter Try.func4, Try.ntmps4
    go_wp2_with fail
    refine hN.mono ?_
    rintro e w1 ⟨rfl, rfl⟩
    go_wp2_with fail
    refine hN.mono ?_
    rintro e w1 ⟨rfl, rfl⟩
    go_wp2_with fail
    refine (alive_any m _ hm).mono ?_
    rintro e w3 ⟨rfl, hf3⟩
    go_wp2_with fail
    go_ret
    exact ⟨rfl, hf3⟩
  · have a1 : decide (most < 1) = false := decide_eq_false h1
    have h2 : 100000 < most := by omega
    have a2 : decide (100000 < most) = true := decide_eq_true h2
    clear h
    go_enter Try.func4, Try.ntmps4
    go_wp2_with fail
    refine hN.mono ?_
    rintro e w1 ⟨rfl, rfl⟩
    go_wp2_with fail
    refine hN.mono ?_
    rintro e w1 ⟨rfl, rfl⟩
    go_wp2_with fail
    refine (alive_any m _ hm).mono ?_
    rintro e w3 ⟨rfl, hf3⟩
    go_wp2_with fail
    go_ret
    exact ⟨rfl, hf3⟩

theorem lawWhole (most : Int) (v : Value) (ls : List (List UInt8)) (m : Int) (w : World) (hm : w.cell? ⟨0, 0, none⟩ = some (.int .i64 m)) (hv : Strs w v ls)
    (hn : ls.length < 1099511627776) (hT : ls.flatten.length < 4294967281) :
    Calls Try.prog 4 #[.int .i64 most, v] w fun e w' => e = .returned (.bool true) ∧ Fresh w w' := by
  by_cases h : most < 1 ∨ 100000 < most
  · exact lawWhole_none most h v m w hm
  · obtain ⟨n, rfl⟩ := Int.eq_ofNat_of_zero_le (show 0 ≤ most by omega)
    exact lawWhole_some n (by omega) (by omega) v ls m w hm hv hn hT

end Go.Proofs.Ytegbkpjcjlihmaa
