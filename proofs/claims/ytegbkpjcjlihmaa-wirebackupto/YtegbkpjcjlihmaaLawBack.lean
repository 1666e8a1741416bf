/-
  The law WireBack: its walk.
-/
import Derived.Test.YtegbkpjcjlihmaaLawWhole
import Derived.Test.YtegbkpjcjlihmaaPureb
namespace Go.Proofs.Ytegbkpjcjlihmaa
open Go.RowKit

theorem of_int (s : ByteArray) (n : Int) (most : Nat) (hn : n = most) (hs : s.size < 1099511627776) (hm : most < 1099511627776) (w : World) :
    Calls Try.prog 19 #[.string s, .int .i64 n] w fun e w' => e = .returned (.agg #[.string ⟨(lineOf most s.data.toList).1.toArray⟩, .int .i64 (lineOf most s.data.toList).2]) ∧ Fresh w w' := by
  subst hn
  exact of_any s most hs hm w

set_option maxHeartbeats 4000000 in
set_option maxRecDepth 100000 in
theorem lawBack (v : Value) (ls : List (List UInt8)) (cut : Int) (m : Int) (w : World) (hm : w.cell? ⟨0, 0, none⟩ = some (.int .i64 m)) (hv : Strs w v ls)
    (hn : ls.length < 1073741824) (hT : (joinL ls).length < 1073741824) :
    Calls Try.prog 6 #[v, .int .i64 cut] w fun e w' => e = .returned (.bool true) ∧ Fresh w w' := by
  obtain ⟨ao, cap, hve, hc1, hc2, hao⟩ := hv
  subst hve
  have HA : Hid (ls.length ≠ 0 → ∃ b off, ao = some ⟨b, off, none⟩ ∧ ∀ k l, ls[k]? = some l → w.cell? ⟨b, off + k, none⟩ = some (.string ⟨l.toArray⟩)) := hao
  clear hao
  go_enter Try.func6, Try.ntmps6
  go_wp2_with fail
  go_loopw [5, 6] (fun t5 t6 wr => ∃ k : Nat, k ≤ ls.length ∧ t6 = .int .i64 k ∧ t5 = .string ⟨(joinL (ls.take k)).toArray⟩ ∧ (∀ l ∈ ls.take k, goodL l) ∧ Fresh w wr) (fun _ t6 _ => ls.length - (intOf t6).toNat)
  case atStart => exact ⟨0, Nat.zero_le _, rfl, rfl, by simp, Keeps.refl _ _⟩
  case round =>
    obtain ⟨k, hk, rfl, rfl, hgood, hfr⟩ := hrel
    have HG : Hid (∀ l ∈ ls.take k, goodL l) := hgood
    clear hgood
    by_cases hlt : k < ls.length
    · obtain ⟨b, off, rfl, hc⟩ := HA.out (by omega)
      obtain ⟨l, hl⟩ : ∃ l, ls[k]? = some l := ⟨ls[k], List.getElem?_eq_getElem hlt⟩
      have hcw := Fresh.cell hfr (hc k l hl)
      have Hsn : Hid (joinL (ls.take (k + 1)) = (joinL (ls.take k) ++ l) ++ [13, 10]) := joinL_snoc ls k l hl
      have Hl : Hid (ls[k]? = some l) := hl
      have hle := joinL_le ls (k + 1)
      have hlen := congrArg List.length (joinL_snoc ls k l hl)
      rw [List.length_append, List.length_append] at hlen
      simp only [List.length_cons, List.length_nil] at hlen
      obtain ⟨L, hL⟩ : ∃ L : ByteArray, (⟨l.toArray⟩ : ByteArray) = L := ⟨_, rfl⟩
      rw [hL] at hcw
      have hLs : L.size = l.length := by rw [← hL]; show l.toArray.size = _; simp
      have HL : Hid (L.data.toList = l) := by show _ = l; rw [← hL]
      have hb : (joinL (ls.take k)).length + L.size + 2 < 1073741825 := by omega
      clear hL hlen hle hl hc HA hLs
      have z2 : (k : Int) < (ls.length : Int) := by omega
      go_wp2_with fail
      refine (of_int L 1000 1000 rfl (by omega) (by omega) wr).mono ?_
      rintro e w1 ⟨rfl, hf1⟩
      rw [HL.out]
      obtain ⟨⟨tx, bd⟩, hlo⟩ : ∃ x, lineOf 1000 l = x := ⟨_, rfl⟩
      rw [hlo]
      have HO : Hid (lineOf 1000 l = (tx, bd)) := hlo
      clear hlo
      simp only []
      by_cases hbd : bd = 0
      · subst hbd
        have HG2 : Hid (∀ x ∈ ls.take (k + 1), goodL x) := by
          show ∀ x ∈ ls.take (k + 1), goodL x
          intro x hx
          rw [List.take_add_one, Hl.out] at hx
          simp only [Option.toList, List.mem_append, List.mem_singleton] at hx
          rcases hx with hx | rfl
          · exact HG.out x hx
          · exact lineOf_good (by rw [HO.out])
        have hcw1 := Fresh.cell hf1 hcw
        have hf2 : Fresh w w1 := hfr.trans hf1
        have hblt : b < w1.heap.size := World.block_lt_of_cell? w1 _ hcw1
        have hcw2 : (w1.alloc (.cells #[.string ⟨tx.toArray⟩, .int .i64 0] 41)).cell? ⟨b, off + k, none⟩ = some (.string L) := by
          rw [← hcw1]; exact World.cell?_of_block (w := w1) (Below.heap_alloc _ _ _ hblt)
        go_wp2_with fail
        go_roundw
        case rel =>
          refine ⟨k + 1, by omega, by go_num, ?_, HG2.out, hf2.alloc _⟩
          exact str_snoc _ _ _ (by rw [Hsn.out, HL.out])
        case measure => simp [intOf]; omega
      · have hbn : (bd != 0) = true := by simpa using hbd
        have hf2 : Fresh w w1 := hfr.trans hf1
        have hm2 := hf2.cell hm
        have hlt0 : 0 < w1.heap.size := World.block_lt_of_cell? w1 _ hm2
        have hm3 : (w1.alloc (.cells #[.string ⟨tx.toArray⟩, .int .i64 bd] 41)).cell? ⟨0, 0, none⟩ = some (.int .i64 m) := by
          rw [← hm2]; exact World.cell?_of_block (w := w1) (Below.heap_alloc _ _ _ hlt0)
        clear hbd
        go_wp2_with fail
        refine (alive_any m _ hm3).mono ?_
        rintro e w3 ⟨rfl, hf3⟩
        go_wp2_with fail
        go_ret
        exact ⟨rfl, (hf2.alloc _).trans hf3⟩
    · have z2 : ¬ (k : Int) < (ls.length : Int) := by omega
      obtain rfl : k = ls.length := by omega
      have hgood := HG.out
      rw [List.take_length] at hgood ⊢
      have HGo : Hid (∀ l ∈ ls, goodL l) := hgood
      have hcs := cut_sent ls (fun l hl => (hgood l hl).2)
      have hSl : (stuffL (joinL ls)).length ≤ 4 * (joinL ls).length + 3 := by
        have := stuff_len (joinL ls)
        unfold stuffL
        rw [List.length_append]
        simp only [List.length_cons, List.length_nil]
        omega
      have hmr := Fresh.cell hfr hm
      have hSt := stuff_any (joinL ls) m (by omega) wr hmr
      obtain ⟨S, hS⟩ : ∃ S, stuffL (joinL ls) = S := ⟨_, rfl⟩
      rw [hS] at hcs hSl hSt
      obtain ⟨SB, hSB⟩ : ∃ SB : ByteArray, (⟨S.toArray⟩ : ByteArray) = SB := ⟨_, rfl⟩
      rw [hSB] at hSt
      have HSB : Hid (SB.data.toList = S) := by show _ = S; rw [← hSB]
      have hSBs : SB.size = S.length := by rw [← hSB]; show S.toArray.size = _; simp
      have hSb : SB.size < 8589934592 := by omega
      have HCS : Hid (cutFrom [] SB.data.toList = (ls.map dotted ++ [[46]], [])) := by show _ = _; rw [HSB.out]; exact hcs
      clear HG hgood hcs hS hSB hSl hSBs HSB
      have HSt : Hid (Calls Try.prog 15 #[.string ⟨(joinL ls).toArray⟩] wr fun e w' => e = .returned (.string SB) ∧ Fresh wr w') := hSt
      clear hSt
      go_wp2_with fail
      refine HSt.out.mono ?_
      rintro e w1 ⟨rfl, hf1⟩
      have hF1 : Fresh w w1 := hfr.trans hf1
      clear hf1 HSt
      go_wp2_with fail
      refine (new_int 1001 1001 rfl (by omega) (by omega) w1).mono ?_
      rintro e w2 ⟨rb, rfl, lb, vr, hr2, n2, f2⟩
      have hF2 : Fresh w w2 := hF1.trans f2
      by_cases hcut : cut < 0 ∨ (SB.size : Int) < cut
      · have hm2 := hF2.cell hm
        by_cases hc0 : cut < 0
        · have a1 : decide (cut < 0) = true := decide_eq_true hc0
          clear hcut
          go_wp2_with fail
          refine (alive_any m w2 hm2).mono ?_
          rintro e w3 ⟨rfl, hf3⟩
          go_wp2_with fail
          go_ret
          exact ⟨rfl, hF2.trans hf3⟩
        · have a1 : decide (cut < 0) = false := decide_eq_false hc0
          have hc3 : (SB.size : Int) < cut := by omega
          have a2 : decide ((SB.size : Int) < cut) = true := decide_eq_true hc3
          clear hcut
          go_wp2_with fail
          refine (alive_any m w2 hm2).mono ?_
          rintro e w3 ⟨rfl, hf3⟩
          go_wp2_with fail
          go_ret
          exact ⟨rfl, hF2.trans hf3⟩
      · obtain ⟨c, rfl⟩ := Int.eq_ofNat_of_zero_le (show 0 ≤ cut by omega)
        have hcc : c ≤ SB.size := by omega
        have a1 : decide ((c : Int) < 0) = false := decide_eq_false (by omega)
        have a2 : decide ((SB.size : Int) < (c : Int)) = false := decide_eq_false (by omega)
        have x1 : (0 : Int) ≤ (c : Int) := by omega
        have x2 : (c : Int) ≤ (SB.size : Int) := by omega
        clear hcut
        have e1 : (SB.extract 0 c).size ≤ SB.size := by rw [Lib.size_eq, extract_list, Lib.size_eq]; simp; omega
        have e2 : (SB.extract c SB.size).size ≤ SB.size := by rw [Lib.size_eq, extract_list, Lib.size_eq]; simp
        have happ : (SB.extract 0 c).data.toList ++ (SB.extract c SB.size).data.toList = SB.data.toList := by
          rw [extract_list, Lib.extract_to_end, List.drop_zero, List.take_append_drop]
        have hca := cutFrom_append [] (SB.extract 0 c).data.toList (SB.extract c SB.size).data.toList
        rw [happ, HCS.out] at hca
        have hcl := cut_lengths (SB.extract 0 c).data.toList []
        obtain ⟨⟨l1, cur1⟩, hC1⟩ : ∃ st, cutFrom [] (SB.extract 0 c).data.toList = st := ⟨_, rfl⟩
        rw [hC1] at hca hcl
        simp only [List.length_nil, Nat.zero_add] at hca hcl
        rw [← Lib.size_eq] at hcl
        have hcl2 := cut_lengths (SB.extract c SB.size).data.toList cur1
        obtain ⟨⟨l2, cur2⟩, hC2⟩ : ∃ st, cutFrom cur1 (SB.extract c SB.size).data.toList = st := ⟨_, rfl⟩
        rw [hC2] at hca hcl2
        simp only [Prod.mk.injEq] at hca
        obtain ⟨hca1, hca2⟩ := hca
        subst hca2
        rw [← Lib.size_eq] at hcl2
        have HC1 : Hid (cutFrom [] (SB.extract 0 c).data.toList = (l1, cur1)) := hC1
        have HC2 : Hid (cutFrom cur1 (SB.extract c SB.size).data.toList = (l2, [])) := hC2
        have HT : Hid (ls.map dotted ++ [[46]] = l1 ++ l2) := hca1
        simp only [] at hcl2
        have hb1 : ([] : List UInt8).length + (SB.extract 0 c).size < 1099511627776 := by simp only [List.length_nil]; omega
        have hb2 : cur1.length + (SB.extract c SB.size).size < 1099511627776 := by omega
        have hb3 : l1.length + l2.length < 1099511627776 := by omega
        clear happ hcl hcl2 hC1 hC2 hca1 e1 e2
        go_wp2_with fail
        refine (feed_any 1001 rb lb vr [] (SB.extract 0 c) w2 hr2 (by omega) hb1).mono ?_
        rintro e w3 ⟨va, rfl, lb3, v3, hrd3, hla, hlb3, hnv3, hk3⟩
        have hF3 : Fresh w1 w3 := feed_new f2 n2 hk3
        have n3 := owned_new f2.size n2 hlb3 hnv3
        rw [HC1.out] at hrd3 hla
        have s2 := f2.size
        have s23 := hk3.size
        clear hr2 n2 f2 hlb3 hnv3 hk3 hF2
        go_wp2_with fail
        refine (feed_any 1001 rb lb3 v3 cur1 (SB.extract c SB.size) w3 hrd3 (by omega) hb2).mono ?_
        rintro e w4 ⟨vb, rfl, lb4, v4, hrd4, hlb, hlb4, hnv4, hk4⟩
        have hF4 : Fresh w1 w4 := feed_new hF3 n3 hk4
        rw [HC2.out] at hrd4 hlb
        have hla4 : LinesAt w4 w2.heap.size 1001 va l1 := hk4.owns hla (rows_free hrd3 hla (by decide) (by decide) (by decide))
        have s3 := hF3.size
        have s4 := hF4.size
        have s24 : w2.heap.size ≤ w4.heap.size := Nat.le_trans s23 hk4.size
        clear hrd3 hlb4 hnv4 hk4 n3 hF3 hla
        go_wp2_with (at_builtin; refine wpList_append_lines rfl (.tmp 60) (.tmp 65) rfl w2.heap.size _ 1001 va vb l1 l2 rfl rfl hla4 hlb hb3 s24 ?_)
        intro v5 w5 hl5 hk5
        have hrd5 := hk5.rd hrd4 (fun j a e => rows_free hrd4 hla4 (by decide) (by decide) (by decide) j e a)
        have hF5 : Fresh w1 w5 := hF4.then hk5 (fun i hi e => by have := (hla4.lt i e).1; omega)
        clear hrd4 hla4 hlb hk5 hF4
        rw [← HT.out] at hl5
        obtain ⟨ao5, cap5, hv5, hx5, hy5, hz5⟩ := own_form hl5
        obtain ⟨g, rfl⟩ := hz5 (by simp)
        have hTl : (ls.map dotted ++ [[46]]).length = ls.length + 1 := by simp
        rw [hTl] at hv5 hy5
        subst hv5
        unfold maxLen at hx5
        have hg := flat_get 1001 (ls.map dotted ++ [[46]]) ls.length [46] (by simp)
        have hl46 : lineOf 1001 [46] = ([46], 0) := by decide
        rw [hl46] at hg
        have Hl5 : Hid (w5.ownsRow w2.heap.size 36 2 (.slice (some ⟨g, 0, none⟩) (ls.length + 1) cap5) (ls.length + 1) ((ls.map dotted ++ [[46]]).flatMap (lineCells 1001))) := by
          have h := hl5
          unfold LinesAt at h
          rw [hTl] at h
          exact h
        have hc5 : w5.cell? ⟨g, ls.length * 2, none⟩ = some (.string ⟨#[46]⟩) := own_cell Hl5.out _ _ hg.1
        clear hg hl46 hl5 hTl hz5 HT HC1 HC2 HCS
        have hR := rest_any 1001 rb lb4 v4 [] w5 hrd5 (by decide)
        have HR : Hid (Calls Try.prog 14 #[.pointer (some ⟨rb, 0, none⟩)] w5 fun e w' => e = .returned (.int .i64 0) ∧ w' = w5) := hR
        clear hR hrd5
        have b0 : ((ls.length : Int) + 1 == 0) = false := beq_eq_false_iff_ne.2 (by omega)
        have b1 : (ls.length : Int) < (ls.length : Int) + 1 := by omega
        go_wp2_with fail
        refine HR.out.mono ?_
        rintro e w6 ⟨rfl, hw6⟩
        rw [hw6]
        clear hw6 HR
        have hF5' : Fresh w w5 := hF1.trans hF5
        clear hF1 hF5
        go_wp2_with fail
        go_loopw [11, 12] (fun t11 t12 wx => ∃ k : Nat, k ≤ ls.length ∧ t12 = .int .i64 k ∧ TextsAt wx w5.heap.size t11 ((ls.map dotted).take k) ∧ Fresh w5 wx) (fun _ t12 _ => ls.length - (intOf t12).toNat)
        case atStart => exact ⟨0, Nat.zero_le _, rfl, World.ownsRow_nil _ _ _ _, Keeps.refl _ _⟩
        case round =>
          obtain ⟨k, hk, rfl, hts, hf⟩ := hrel
          by_cases hlt2 : k < ls.length
          · obtain ⟨l, hl⟩ : ∃ l, ls[k]? = some l := ⟨ls[k], List.getElem?_eq_getElem hlt2⟩
            have hgl : goodL l := HGo.out l (List.mem_of_getElem? hl)
            have hg := flat_get 1001 (ls.map dotted ++ [[46]]) k (dotted l) (by
              rw [List.getElem?_append_left (by simpa using hlt2), List.getElem?_map, hl]; rfl)
            rw [lineOf_dotted hgl] at hg
            have h5 := hf.owns Hl5.out (fun _ _ e => e)
            have p0 := own_cell h5 _ _ hg.1
            have p1 := own_cell h5 _ _ hg.2
            have Hsn : Hid ((ls.map dotted).take (k + 1) = (ls.map dotted).take k ++ [dotted l]) := by
              show _ = _
              rw [List.take_add_one, List.getElem?_map, hl]; rfl
            have hne := dotted_ne l
            obtain ⟨D, hD⟩ : ∃ D, dotted l = D := ⟨_, rfl⟩
            rw [hD] at p0 hne Hsn
            simp only [] at p0 p1
            have hneb : (D == [46]) = false := by simpa using hne
            have hlk : ((ls.map dotted).take k).length < 1099511627776 := by simp; omega
            clear hg h5 hl hgl hD hne
            have y1 : (0 : Int) ≤ (k : Int) := by omega
            have y2 : (k : Int) + 1 < (ls.length : Int) + 1 := by omega
            have y3 : (k : Int) < (ls.length : Int) + 1 := by omega
            have s5 := hf.size
            go_wp2_with (at_builtin; refine wpList_append_text rfl (.tmp 114) (.tmp 120) rfl w5.heap.size _ _ D rfl (hts.alloc _) ⟨wr.heap.size, 0, none⟩ rfl ?o2 hlk ?o4 ?_)
            case o2 => rw [Lib.cell_of_heap (heap_alloc_new wr _)]; rfl
            case o4 => exact Nat.le_trans s5 (by simp)
            intro v7 w7 o7 g7 _
            have hf7 : Fresh w5 w7 := (hf.alloc _).grown g7 (fun k e hk => by
              have := (hts.lt k e).1
              omega)
            rw [← Hsn.out] at o7
            clear hts g7 hf
            go_wp2_with fail
            go_roundw
            case rel => exact ⟨k + 1, by omega, by go_num, o7, hf7⟩
            case measure => simp [intOf]; omega
          · have y2 : ¬ ((k : Int) + 1 < (ls.length : Int) + 1) := by omega
            obtain rfl : k = ls.length := by omega
            rw [List.take_of_length_le (by simp)] at hts
            have hpl : plainL (ls.map dotted) = joinL ls := plainL_dotted ls
            have hP := plain_any u11 (ls.map dotted) wr hts.strs (by rw [hpl]; omega)
            rw [hpl] at hP
            have HP : Hid (Calls Try.prog 16 #[u11] wr fun e w' => e = .returned (.string ⟨(joinL ls).toArray⟩) ∧ Fresh wr w') := hP
            have hFx : Fresh w wr := hF5'.trans hf
            clear hP hpl hts hf
            go_wp2_with fail
            refine HP.out.mono ?_
            rintro e w7 ⟨rfl, hf7⟩
            have hF7 : Fresh w w7 := hFx.trans hf7
            have hm7 := hF7.cell hm
            go_wp2_with fail
            refine (alive_any m w7 hm7).mono ?_
            rintro e w8 ⟨rfl, hf8⟩
            go_wp2_with fail
            go_ret
            exact ⟨rfl, hF7.trans hf8⟩

end Go.Proofs.Ytegbkpjcjlihmaa
