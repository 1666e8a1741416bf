/-
  The reference's Of, Lines; the law's own 'same'.
-/
import Derived.Test.YtegbkpjcjlihmaaRefa
namespace Go.Proofs.Ytegbkpjcjlihmaa
open Go.RowKit

theorem byte_ne {c : UInt8} {n : Nat} (hn : n < 256) (h : c ≠ UInt8.ofNat n) : ((c.toNat : Int) == (n : Int)) = false := by
  rw [beq_eq_false_iff_ne]
  intro e
  apply h
  apply UInt8.toNat_inj.1
  simp
  omega

theorem NoCL.upTo {l : List UInt8} {k : Nat} {c : UInt8} (h : NoCL l k) (hc : l[k]? = some c) (h1 : c ≠ 13) (h2 : c ≠ 10) : NoCL l (k + 1) := h.next hc ⟨h1, h2⟩

set_option maxHeartbeats 2000000 in
set_option maxRecDepth 100000 in
theorem of_any (s : ByteArray) (most : Nat) (_hs : s.size < 1099511627776) (hm : most < 1099511627776) (w : World) :
    Calls Try.prog 19 #[.string s, .int .i64 most] w fun e w' => e = .returned (.agg #[.string ⟨(lineOf most s.data.toList).1.toArray⟩, .int .i64 (lineOf most s.data.toList).2]) ∧ Fresh w w' := by
  by_cases hle : s.size ≤ most
  · have hgt : ¬ ((most : Int) < (s.size : Int)) := by omega
    have hlo : Hid (lineOf most s.data.toList = if hasCL s.data.toList then (s.data.toList, 1) else (s.data.toList, 0)) := by
      show _ = _
      unfold lineOf
      rw [if_pos (by rw [← Lib.size_eq]; exact hle)]
    go_enter Try.func19, Try.ntmps19
    go_wp2_with fail
    go_loop [5] (fun t5 => ∃ k : Nat, k ≤ s.size ∧ t5 = .int .i64 k ∧ NoCL s.data.toList k) (fun t5 => s.size - (intOf t5).toNat)
    case atStart => exact ⟨0, Nat.zero_le _, rfl, fun j x h _ => by omega⟩
    case round =>
      obtain ⟨k, hk, rfl, hno⟩ := hrel
      have HN : Hid (NoCL s.data.toList k) := hno
      clear hno
      by_cases hlt : k < s.size
      · obtain ⟨c, hc⟩ : ∃ c, s[k] = c := ⟨_, rfl⟩
        have Hc : Hid (s.data.toList[k]? = some c) := by rw [← hc]; exact Lib.data_getElem? s k hlt
        have z2 : (k : Int) < (s.size : Int) := by omega
        by_cases h13 : c = 13
        · have hb : ((c.toNat : Int) == 13) = true := by rw [h13]; rfl
          have Hh : Hid (hasCL s.data.toList = true) := hasCL_at Hc.out (.inl h13)
          clear h13
          go_wp2_with fail
          refine bodyPost_ret (v := .agg #[.string s, .int .i64 1]) (by simp [results, Try.results19, go_sem]) rfl ⟨?_, (Keeps.refl _ w).alloc _⟩
          rw [hlo.out, Hh.out]; rfl
        · by_cases h10 : c = 10
          · have hb : ((c.toNat : Int) == 13) = false := byte_ne (n := 13) (by omega) h13
            have hb2 : ((c.toNat : Int) == 10) = true := by rw [h10]; rfl
            have Hh : Hid (hasCL s.data.toList = true) := hasCL_at Hc.out (.inr h10)
            clear h13 h10
            go_wp2_with fail
            refine bodyPost_ret (v := .agg #[.string s, .int .i64 1]) (by simp [results, Try.results19, go_sem]) rfl ⟨?_, (Keeps.refl _ w).alloc _⟩
            rw [hlo.out, Hh.out]; rfl
          · have hb : ((c.toNat : Int) == 13) = false := byte_ne (n := 13) (by omega) h13
            have hb2 : ((c.toNat : Int) == 10) = false := byte_ne (n := 10) (by omega) h10
            have H2 : Hid (NoCL s.data.toList (k + 1)) := HN.out.upTo Hc.out h13 h10
            clear h13 h10
            go_wp2_with fail
            go_round
            case rel => exact ⟨k + 1, by omega, by go_num, H2.out⟩
            case measure => simp [intOf]; omega
      · have Hh : Hid (hasCL s.data.toList = false) := HN.out.none (by rw [← Lib.size_eq]; omega)
        have z2 : ¬ (k : Int) < (s.size : Int) := by omega
        go_wp2_with fail
        refine bodyPost_ret (v := .agg #[.string s, .int .i64 0]) (by simp [results, Try.results19, go_sem]) rfl ⟨?_, (Keeps.refl _ w).alloc _⟩
        rw [hlo.out, Hh.out]; rfl
  · have hgt : (most : Int) < (s.size : Int) := by omega
    have hlo : Hid (lineOf most s.data.toList = ([], 2)) := by
      show _ = _
      unfold lineOf
      rw [if_neg (by rw [← Lib.size_eq]; exact hle)]
    clear hle
    go_enter Try.func19, Try.ntmps19
    go_wp2_with fail
    refine bodyPost_ret (v := .agg #[.string ⟨#[]⟩, .int .i64 2]) (by simp [results, Try.results19, go_sem]) rfl ⟨?_, (Keeps.refl _ w).alloc _⟩
    rw [hlo.out]

/-- the reference's lines, in a row of the call's own -/
def RLinesAt (w : World) (base most : Nat) (v : Value) (ls : List (List UInt8)) : Prop := w.ownsRow base 41 2 v ls.length (ls.flatMap (lineCells most))

theorem infoRLine : (Try.prog.info? 41).map (fun i => (i.zero, i.size, i.bytes)) = some (some (.agg #[.string ⟨#[]⟩, .int .i64 0]), 2, 24) := by kernel_rfl
theorem infoRLine' : ∃ i, Try.prog.info? 41 = some i ∧ i.zero = some (.agg #[.string ⟨#[]⟩, .int .i64 0]) ∧ i.size = 2 ∧ i.bytes = 24 := by
  obtain ⟨i, hi, h⟩ := Option.map_eq_some_iff.1 infoRLine
  simp only [Prod.mk.injEq] at h
  exact ⟨i, hi, h.1, h.2.1, h.2.2⟩

theorem wpList_append_rline {ops : Array Oper} {rest : List Oper} {o : Oper} {a : Act} {w : World} {Q : Exit → Act → World → Prop} (hgd : o.guard = none) (s x : Operand)
    (ho : o.op = .call { callee := .builtin .append, args := #[s, x], argTypes := #[27, 27] })
    (base most : Nat) (v : Value) (ls : List (List UInt8)) (l : List UInt8) (hs : a.eval s = v) (hown : RLinesAt w base most v ls)
    (ad : Addr) (hx : a.eval x = .slice (some ad) 1 1) (hc : ∀ j u, (lineCells most l)[j]? = some u → w.cell? (ad.add j) = some u) (hn : ls.length < 1099511627776) (hbase : base ≤ w.heap.size)
    (h : ∀ v' w', RLinesAt w' base most v' (ls ++ [l]) → w.grownBy w' v.ownBlock → Placed w v v' → wpList Try.prog ops Q rest (a.put o.dst v') w') : wpList Try.prog ops Q (o :: rest) a w := by
  obtain ⟨i0, hi0, hz0, hz1, hz2⟩ := infoRLine'
  refine wpList_append_placed w hgd s x 27 ho base 41 i0 _ 2 24 Try.underlying27 hi0 hz0 hz1 hz2 rfl (by decide) v ls.length _ hs hown ad 1 1 (lineCells most l) hx rfl hc ?_ (by unfold maxLen; omega) (by omega) hbase ?_
  · intro u hu
    simp [lineCells] at hu
    rcases hu with rfl | rfl <;> rfl
  · intro v' w' ho hgr hp
    refine h v' w' ?_ hgr hp
    unfold RLinesAt
    simpa using ho

/-- the form of an owned value -/
theorem own_form {w : World} {base : Nat} {e : TypeId} {size : Nat} {v : Value} {n : Nat} {xs : List Value} (h : w.ownsRow base e size v n xs) : ∃ ao cap, v = .slice ao n cap ∧ cap ≤ maxLen ∧ n ≤ cap ∧ (n ≠ 0 → ∃ g, ao = some ⟨g, 0, none⟩) := by
  rcases h.2 with ⟨rfl, rfl⟩ | ⟨g, cap, cur, rfl, _, _, h1, h2, _⟩
  · exact ⟨none, 0, rfl, by unfold maxLen; omega, Nat.le_refl _, fun h => absurd rfl h⟩
  · exact ⟨_, cap, rfl, h2, h1, fun _ => ⟨g, rfl⟩⟩

theorem own_cell {w : World} {base : Nat} {e : TypeId} {size g n cap : Nat} {xs : List Value} (h : w.ownsRow base e size (.slice (some ⟨g, 0, none⟩) n cap) n xs) (j : Nat) (u : Value) (hu : xs[j]? = some u) : w.cell? ⟨g, j, none⟩ = some u := by
  have := h.cells (g := g) rfl j u hu
  have hadd : (⟨g, 0, none⟩ : Addr).add j = ⟨g, j, none⟩ := by unfold Addr.add; split <;> simp_all
  rwa [hadd] at this

set_option maxHeartbeats 2000000 in
set_option maxRecDepth 100000 in
theorem lines_any (s : ByteArray) (most n : Nat) (hs : s.size < 1099511627776) (hm : most < 1099511627776) (hn : n ≤ (cutFrom [] s.data.toList).1.length) (w : World) :
    Calls Try.prog 11 #[.string s, .int .i64 most, .int .i64 n] w fun e w' => ∃ v, e = .returned v ∧ RLinesAt w' w.heap.size most v ((cutFrom [] s.data.toList).1.drop n) ∧ Fresh w w' := by
  have hll : (cutFrom [] s.data.toList).1.length ≤ s.size := by
    have := (cut_lengths s.data.toList []).2
    rwa [← Lib.size_eq] at this
  have hmem := cut_mem s.data.toList []
  have hC := refCut_any s hs w
  obtain ⟨⟨ls, rest⟩, hst⟩ : ∃ st, cutFrom [] s.data.toList = st := ⟨_, rfl⟩
  rw [hst] at hn hll hmem hC ⊢
  simp only [] at hn hll hmem hC ⊢
  clear hst
  have HM : Hid (∀ l ∈ ls, l.length ≤ s.size) := fun l hl => by
    have := hmem l hl
    rw [← Lib.size_eq] at this
    simpa using this
  clear hmem
  go_enter Try.func11, Try.ntmps11
  go_wp2_with fail
  refine hC.mono ?_
  rintro e w1 ⟨v, rfl, ht, hf⟩
  clear hC
  obtain ⟨ao, cap, rfl, hcm, hcl, hao⟩ := own_form ht
  unfold maxLen at hcm
  go_wp2_with fail
  go_loopw [9, 10] (fun t9 t10 wr => ∃ k : Nat, n ≤ k ∧ k ≤ ls.length ∧ t10 = .int .i64 k ∧ RLinesAt wr w.heap.size most t9 ((ls.take k).drop n) ∧ TextsAt wr w.heap.size (.slice ao ls.length cap) ls ∧ Fresh w wr) (fun _ t10 _ => ls.length - (intOf t10).toNat)
  case atStart =>
    refine ⟨n, Nat.le_refl _, hn, rfl, ?_, ht, hf⟩
    rw [List.drop_of_length_le (by simp; omega)]
    exact World.ownsRow_nil _ _ _ _
  case round =>
    clear ht hf
    obtain ⟨k, hk1, hk2, rfl, ho, ht, hf⟩ := hrel
    by_cases hlt : k < ls.length
    · obtain ⟨g, rfl⟩ := hao (by omega)
      obtain ⟨l, hl⟩ : ∃ l, ls[k]? = some l := ⟨ls[k], List.getElem?_eq_getElem hlt⟩
      have hcell : wr.cell? ⟨g, k, none⟩ = some (.string ⟨l.toArray⟩) := own_cell ht k _ (by simp [hl, strV])
      have Hl : Hid (ls[k]? = some l) := hl
      have hsz : (⟨l.toArray⟩ : ByteArray).size < 1099511627776 := by
        have := HM.out l (List.mem_of_getElem? hl)
        show l.toArray.size < _
        rw [List.size_toArray]; omega
      have hdl : ((ls.take k).drop n).length < 1099511627776 := by rw [List.length_drop, List.length_take]; omega
      clear hl
      have z2 : (k : Int) < (ls.length : Int) := by omega
      go_wp2_with fail
      refine (of_any ⟨l.toArray⟩ most hsz hm _).mono ?_
      rintro e w2 ⟨rfl, hf2⟩
      have hs2 := hf2.size
      have hs1 := hf.size
      have ho2 : RLinesAt w2 w.heap.size most u9 ((ls.take k).drop n) := hf2.owns ho (fun _ _ e => e)
      go_wp2_with (at_builtin; refine wpList_append_rline rfl (.tmp 30) (.tmp 32) rfl w.heap.size most _ _ l rfl ((ho2.alloc _).alloc _) ⟨w2.heap.size + 1, 0, none⟩ rfl ?o2 hdl ?o4 ?_)
      case o2 =>
        intro j u hu
        have h := cells_new (w2.alloc (.cells #[.string ⟨(lineOf most l).1.toArray⟩, .int .i64 (lineOf most l).2] 41)) (lineCells most l) 41 j u hu
        rw [World.size_alloc] at h
        exact h
      case o4 => simp; omega
      intro v3 w3 o3 g3 p3
      have ht2 : TextsAt w2 w.heap.size (.slice (some ⟨g, 0, none⟩) ls.length cap) ls := hf2.owns ht (fun _ _ e => e)
      have ht3 : TextsAt w3 w.heap.size (.slice (some ⟨g, 0, none⟩) ls.length cap) ls := World.ownsRow.kept ((ht2.alloc _).alloc _) g3 (.inr (fun e => own_ne_own ht2 ho2 (by decide) g rfl e.symm))
      have hf3 : Fresh w w3 := (((hf.trans hf2).alloc _).alloc _).grown g3 (fun k e hk => by
        have := (ho2.lt k e).1
        omega)
      have hsn : (ls.take (k + 1)).drop n = (ls.take k).drop n ++ [l] := by
        rw [List.take_add_one, Hl.out, List.drop_append_of_le_length (by rw [List.length_take]; omega)]
        rfl
      rw [← hsn] at o3
      clear hsn ht2 ht ho ho2 hf hf2
      go_wp2
      go_roundw
      case rel => exact ⟨k + 1, by omega, by omega, by go_num, o3, ht3, hf3⟩
      case measure => simp [intOf]; omega
    · have z2 : ¬ (k : Int) < (ls.length : Int) := by omega
      obtain rfl : k = ls.length := by omega
      go_wp2
      go_ret
      refine ⟨_, rfl, ?_, hf⟩
      rw [List.take_length] at ho
      exact ho

end Go.Proofs.Ytegbkpjcjlihmaa
