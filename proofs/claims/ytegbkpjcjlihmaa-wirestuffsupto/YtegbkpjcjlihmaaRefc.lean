/-
  The reference's Stuff and Plain.
-/
import Derived.Test.YtegbkpjcjlihmaaStuff
namespace Go.Proofs.Ytegbkpjcjlihmaa
open Go.RowKit

theorem plainOf_ge (l : List UInt8) : l.length ≤ (plainOf l).length + 1 := by
  unfold plainOf
  split
  · simp; omega
  · omega

theorem str_snoc (a t : List UInt8) (L : ByteArray) (h : t = (a ++ L.data.toList) ++ [13, 10]) : Value.string ((⟨a.toArray⟩ : ByteArray) ++ L ++ ⟨#[13, 10]⟩) = Value.string ⟨t.toArray⟩ := by
  rw [h]
  congr 1

set_option maxHeartbeats 2000000 in
set_option maxRecDepth 100000 in
theorem refPlain_any (v : Value) (ls : List (List UInt8)) (w : World) (h : Strs w v ls) (hT : (plainL ls).length < 1099511627776) :
    Calls Try.prog 18 #[v] w fun e w' => e = .returned (.string ⟨(plainL ls).toArray⟩) ∧ w' = w := by
  obtain ⟨ao, cap, rfl, hc1, hc2, hao⟩ := h
  go_enter Try.func18, Try.ntmps18
  go_wp2_with fail
  go_loop [3, 4] (fun t3 t4 => ∃ k : Nat, k ≤ ls.length ∧ t4 = .int .i64 k ∧ t3 = .string ⟨(plainL (ls.take k)).toArray⟩) (fun _ t4 => ls.length - (intOf t4).toNat)
  case atStart => exact ⟨0, Nat.zero_le _, rfl, rfl⟩
  case round =>
    obtain ⟨k, hk, rfl, rfl⟩ := hrel
    by_cases hlt : k < ls.length
    · obtain ⟨b, off, rfl, hc⟩ := hao (by omega)
      obtain ⟨l, hl⟩ : ∃ l, ls[k]? = some l := ⟨ls[k], List.getElem?_eq_getElem hlt⟩
      have hcell := hc k l hl
      have Hsn : Hid (plainL (ls.take (k + 1)) = (plainL (ls.take k) ++ plainOf l) ++ [13, 10]) := plainL_snoc ls k l hl
      have hle := plainL_le ls (k + 1)
      have hlen := congrArg List.length (plainL_snoc ls k l hl)
      rw [List.length_append, List.length_append] at hlen
      simp only [List.length_cons, List.length_nil] at hlen
      have b1 : (plainL (ls.take k)).length + (plainOf l).length + 2 < 1099511627776 := by omega
      clear hlen hle hl hc hao
      have z2 : (k : Int) < (ls.length : Int) := by omega
      obtain ⟨L, hL⟩ : ∃ L : ByteArray, (⟨l.toArray⟩ : ByteArray) = L := ⟨_, rfl⟩
      rw [hL] at hcell
      have hLs : L.size = l.length := by rw [← hL]; show l.toArray.size = _; simp
      have HL : Hid (l = L.data.toList) := by show l = _; rw [← hL]
      clear hL
      have hb : (plainL (ls.take k)).length + L.size < 1099511627777 := by have := plainOf_ge l; omega
      by_cases h0 : L.size = 0
      · have z3 : ¬ (0 : Int) < (L.size : Int) := by omega
        have HP : Hid (plainOf l = L.data.toList) := by
          show _ = _
          rw [HL.out]
          have : L.data.toList = [] := List.length_eq_zero_iff.1 (by rw [← Lib.size_eq]; exact h0)
          rw [this]; rfl
        clear h0 hLs
        go_wp2_with fail
        go_round
        case rel =>
          refine ⟨k + 1, by omega, by go_num, ?_⟩
          exact str_snoc _ _ _ (by rw [Hsn.out, HP.out])
        case measure => simp [intOf]; omega
      · have z3 : (0 : Int) < (L.size : Int) := by omega
        have z4 : (1 : Int) ≤ (L.size : Int) := by omega
        have z5 : 0 < L.size := by omega
        obtain ⟨x, hx⟩ : ∃ x, L[0] = x := ⟨_, rfl⟩
        have Hx : Hid (l.head? = some x) := by
          show _ = _
          rw [HL.out, List.head?_eq_getElem?, ← hx]
          exact Lib.data_getElem? L 0 z5
        clear h0 hLs
        by_cases hx46 : x = 46
        · have hxb : ((x.toNat : Int) == 46) = true := by rw [hx46]; rfl
          have HP : Hid (plainOf l = (L.extract 1 L.size).data.toList) := by
            show _ = _
            unfold plainOf
            rw [Hx.out, hx46, if_pos rfl, Lib.extract_to_end, HL.out]
          clear hx46
          go_wp2_with fail
          go_round
          case rel =>
            refine ⟨k + 1, by omega, by go_num, ?_⟩
            exact str_snoc _ _ _ (by rw [Hsn.out, HP.out])
          case measure => simp [intOf]; omega
        · have hxb : ((x.toNat : Int) == 46) = false := byte_ne (n := 46) (by omega) hx46
          have HP : Hid (plainOf l = L.data.toList) := by
            show _ = _
            unfold plainOf
            rw [Hx.out, if_neg (by simpa using hx46), HL.out]
          clear hx46
          go_wp2_with fail
          go_round
          case rel =>
            refine ⟨k + 1, by omega, by go_num, ?_⟩
            exact str_snoc _ _ _ (by rw [Hsn.out, HP.out])
          case measure => simp [intOf]; omega
    · have z2 : ¬ (k : Int) < (ls.length : Int) := by omega
      obtain rfl : k = ls.length := by omega
      go_wp2_with fail
      go_ret
      exact ⟨rfl, rfl⟩

/-- pieces, as they are sent -/
def sentOf (ls : List (List UInt8)) : List UInt8 := ls.flatMap stuffed

theorem flat_snoc (ls : List (List UInt8)) (k : Nat) (l : List UInt8) (h : ls[k]? = some l) : sentOf (ls.take (k + 1)) = sentOf (ls.take k) ++ stuffed l := by
  unfold sentOf
  rw [List.take_add_one, h]
  simp

theorem flat_le (ls : List (List UInt8)) (k : Nat) : (sentOf (ls.take k)).length ≤ (sentOf ls).length := by
  unfold sentOf
  conv => rhs; rw [← List.take_append_drop k ls]
  rw [List.flatMap_append, List.length_append]
  omega

theorem str_dot (a t : List UInt8) (L : ByteArray) (h : t = a ++ ([46] ++ L.data.toList ++ [13, 10])) : Value.string ((⟨a.toArray⟩ : ByteArray) ++ ⟨#[46]⟩ ++ L ++ ⟨#[13, 10]⟩) = Value.string ⟨t.toArray⟩ := by
  rw [h]
  congr 1
  apply ByteArray.ext
  apply Array.ext'
  simp

theorem str_end (a : List UInt8) : Value.string ((⟨a.toArray⟩ : ByteArray) ++ ⟨#[46, 13, 10]⟩) = Value.string ⟨(a ++ [46, 13, 10]).toArray⟩ := by
  congr 1

/-- the reference's loop -/
theorem stuffed_ge (l : List UInt8) : l.length + 2 ≤ (stuffed l).length := by
  unfold stuffed
  split <;> simp <;> omega

set_option maxHeartbeats 4000000 in
set_option maxRecDepth 100000 in
theorem refStuff_any (d0 : List UInt8) (hs : d0.length < 4294967281) (w : World) :
    Calls Try.prog 17 #[.string ⟨d0.toArray⟩] w fun e w' => e = .returned (.string ⟨(stuffL d0).toArray⟩) ∧ Fresh w w' := by
  have hT : (sentOf (pieces d0)).length ≤ 4 * d0.length := stuff_len d0
  have hC := refCut_any ⟨d0.toArray⟩ (by show d0.toArray.size < _; rw [List.size_toArray]; omega) w
  have hcut : cutFrom [] (⟨d0.toArray⟩ : ByteArray).data.toList = cutFrom [] d0 := by simp
  rw [hcut] at hC
  have hll := (cut_lengths d0 []).2
  have HP : Hid (pieces d0 = if (cutFrom [] d0).2 = [] then (cutFrom [] d0).1 else (cutFrom [] d0).1 ++ [(cutFrom [] d0).2]) := rfl
  obtain ⟨⟨ls0, rest⟩, hst⟩ : ∃ st, cutFrom [] d0 = st := ⟨_, rfl⟩
  rw [hst] at hC hll HP
  simp only [] at hC hll HP
  clear hst hcut
  have HE : Hid (stuffL d0 = sentOf (pieces d0) ++ [46, 13, 10]) := rfl
  rw [HE.out]
  go_enter Try.func17, Try.ntmps17
  go_wp2_with fail
  refine hC.mono ?_
  rintro e w1 ⟨v, rfl, ht, hf⟩
  clear hC
  have hs1 := hf.size
  -- the rest, where there is one, is a piece
  by_cases hr : rest = []
  · subst hr
    have hp : pieces d0 = ls0 := by have := HP.out; simpa using this
    have HP2 : Hid (pieces d0 = ls0) := hp
    rw [hp] at hT
    clear HP hp
    obtain ⟨ao, cap, rfl, hc1, hc2, hao⟩ := ht.strs
    have HC : Hid (ls0.length ≠ 0 → ∃ b off, ao = some ⟨b, off, none⟩ ∧ ∀ k l, ls0[k]? = some l → w1.cell? ⟨b, off + k, none⟩ = some (.string ⟨l.toArray⟩)) := hao
    clear hao ht
    unfold strV
    go_wp2_with fail
    go_loop [5, 6] (fun t5 t6 => ∃ k : Nat, k ≤ ls0.length ∧ t6 = .int .i64 k ∧ t5 = .string ⟨(sentOf (ls0.take k)).toArray⟩) (fun _ t6 => ls0.length - (intOf t6).toNat)
    case atStart => exact ⟨0, Nat.zero_le _, rfl, rfl⟩
    case round =>
      obtain ⟨k, hk, rfl, rfl⟩ := hrel
      have hfl := flat_le ls0 k
      by_cases hlt : k < ls0.length
      · obtain ⟨b, off, rfl, hc⟩ := HC.out (by omega)
        obtain ⟨l, hl⟩ : ∃ l, ls0[k]? = some l := ⟨ls0[k], List.getElem?_eq_getElem hlt⟩
        have hcell := hc k l hl
        have Hsn : Hid (sentOf (ls0.take (k + 1)) = sentOf (ls0.take k) ++ stuffed l) := flat_snoc ls0 k l hl
        have hle := flat_le ls0 (k + 1)
        have hlen := congrArg List.length (flat_snoc ls0 k l hl)
        rw [List.length_append] at hlen
        have hsg := stuffed_ge l
        obtain ⟨L, hL⟩ : ∃ L : ByteArray, (⟨l.toArray⟩ : ByteArray) = L := ⟨_, rfl⟩
        rw [hL] at hcell
        have hLs : L.size = l.length := by rw [← hL]; show l.toArray.size = _; simp
        have HL : Hid (l = L.data.toList) := by show l = _; rw [← hL]
        have hb : (sentOf (ls0.take k)).length + L.size + 3 < 1099511627776 := by omega
        clear hL hlen hle hl hc hsg HC hfl hT
        have z2 : (k : Int) < (ls0.length : Int) := by omega
        by_cases h0 : L.size = 0
        · have z3 : ¬ (0 : Int) < (L.size : Int) := by omega
          have HS : Hid (stuffed l = L.data.toList ++ [13, 10]) := by
            show _ = _
            have : L.data.toList = [] := List.length_eq_zero_iff.1 (by rw [← Lib.size_eq]; exact h0)
            rw [HL.out, this]; rfl
          clear h0 hLs
          go_wp2_with fail
          go_round
          case rel =>
            refine ⟨k + 1, by omega, by go_num, ?_⟩
            exact str_snoc _ _ _ (by rw [Hsn.out, HS.out, List.append_assoc])
          case measure => simp [intOf]; omega
        · have z3 : (0 : Int) < (L.size : Int) := by omega
          have z5 : 0 < L.size := by omega
          obtain ⟨x, hx⟩ : ∃ x, L[0] = x := ⟨_, rfl⟩
          have Hx : Hid (l.head? = some x) := by
            show _ = _
            rw [HL.out, List.head?_eq_getElem?, ← hx]
            exact Lib.data_getElem? L 0 z5
          clear h0 hLs
          by_cases hx46 : x = 46
          · have hxb : ((x.toNat : Int) == 46) = true := by rw [hx46]; rfl
            have HS : Hid (stuffed l = [46] ++ L.data.toList ++ [13, 10]) := by
              show _ = _
              unfold stuffed
              rw [Hx.out, hx46, if_pos rfl, HL.out]
            clear hx46
            go_wp2_with fail
            go_round
            case rel =>
              refine ⟨k + 1, by omega, by go_num, ?_⟩
              exact str_dot _ _ _ (by rw [Hsn.out, HS.out])
            case measure => simp [intOf]; omega
          · have hxb : ((x.toNat : Int) == 46) = false := byte_ne (n := 46) (by omega) hx46
            have HS : Hid (stuffed l = L.data.toList ++ [13, 10]) := by
              show _ = _
              unfold stuffed
              rw [Hx.out, if_neg (by simpa using hx46), HL.out]
              rfl
            clear hx46
            go_wp2_with fail
            go_round
            case rel =>
              refine ⟨k + 1, by omega, by go_num, ?_⟩
              exact str_snoc _ _ _ (by rw [Hsn.out, HS.out, List.append_assoc])
            case measure => simp [intOf]; omega
      · have z2 : ¬ (k : Int) < (ls0.length : Int) := by omega
        obtain rfl : k = ls0.length := by omega
        rw [List.take_length] at hfl
        go_wp2_with fail
        go_ret
        refine ⟨?_, hf⟩
        rw [HP2.out]
        exact congrArg Ending.returned (str_end _)
  · have hne : (!rest.isEmpty) = true := by simpa using hr
    have hp : pieces d0 = ls0 ++ [rest] := by have := HP.out; simpa [hr] using this
    have HP2 : Hid (pieces d0 = ls0 ++ [rest]) := hp
    rw [hp] at hT
    clear HP hp hr
    unfold strV
    have hl0 : ls0.length < 1099511627776 := by omega
    go_wp2_with (at_builtin; refine wpList_append_text rfl (.tmp 14) (.tmp 16) rfl w.heap.size _ ls0 rest rfl (ht.alloc _) ⟨w1.heap.size, 0, none⟩ rfl ?o2 hl0 ?o4 ?_)
    case o2 => rw [Lib.cell_of_heap (heap_alloc_new w1 _)]; rfl
    case o4 => exact Nat.le_trans hs1 (by simp)
    intro v2 w2 o2 g2 p2
    have hf2 : Fresh w w2 := (hf.alloc _).grown g2 (fun k e hk => by
      have := (ht.lt k e).1
      omega)
    obtain ⟨ao, cap, rfl, hc1, hc2, hao⟩ := o2.strs
    have HC : Hid ((ls0 ++ [rest]).length ≠ 0 → ∃ b off, ao = some ⟨b, off, none⟩ ∧ ∀ k l, (ls0 ++ [rest])[k]? = some l → w2.cell? ⟨b, off + k, none⟩ = some (.string ⟨l.toArray⟩)) := hao
    clear hao ht hf g2 p2 o2 hne
    generalize ls0 ++ [rest] = ls at *
    go_wp2_with fail
    go_loop [5, 6] (fun t5 t6 => ∃ k : Nat, k ≤ ls.length ∧ t6 = .int .i64 k ∧ t5 = .string ⟨(sentOf (ls.take k)).toArray⟩) (fun _ t6 => ls.length - (intOf t6).toNat)
    case atStart => exact ⟨0, Nat.zero_le _, rfl, rfl⟩
    case round =>
      obtain ⟨k, hk, rfl, rfl⟩ := hrel
      have hfl := flat_le ls k
      by_cases hlt : k < ls.length
      · obtain ⟨b, off, rfl, hc⟩ := HC.out (by omega)
        obtain ⟨l, hl⟩ : ∃ l, ls[k]? = some l := ⟨ls[k], List.getElem?_eq_getElem hlt⟩
        have hcell := hc k l hl
        have Hsn : Hid (sentOf (ls.take (k + 1)) = sentOf (ls.take k) ++ stuffed l) := flat_snoc ls k l hl
        have hle := flat_le ls (k + 1)
        have hlen := congrArg List.length (flat_snoc ls k l hl)
        rw [List.length_append] at hlen
        have hsg := stuffed_ge l
        obtain ⟨L, hL⟩ : ∃ L : ByteArray, (⟨l.toArray⟩ : ByteArray) = L := ⟨_, rfl⟩
        rw [hL] at hcell
        have hLs : L.size = l.length := by rw [← hL]; show l.toArray.size = _; simp
        have HL : Hid (l = L.data.toList) := by show l = _; rw [← hL]
        have hb : (sentOf (ls.take k)).length + L.size + 3 < 1099511627776 := by omega
        clear hL hlen hle hl hc hsg HC hfl hT
        have z2 : (k : Int) < (ls.length : Int) := by omega
        by_cases h0 : L.size = 0
        · have z3 : ¬ (0 : Int) < (L.size : Int) := by omega
          have HS : Hid (stuffed l = L.data.toList ++ [13, 10]) := by
            show _ = _
            have : L.data.toList = [] := List.length_eq_zero_iff.1 (by rw [← Lib.size_eq]; exact h0)
            rw [HL.out, this]; rfl
          clear h0 hLs
          go_wp2_with fail
          go_round
          case rel =>
            refine ⟨k + 1, by omega, by go_num, ?_⟩
            exact str_snoc _ _ _ (by rw [Hsn.out, HS.out, List.append_assoc])
          case measure => simp [intOf]; omega
        · have z3 : (0 : Int) < (L.size : Int) := by omega
          have z5 : 0 < L.size := by omega
          obtain ⟨x, hx⟩ : ∃ x, L[0] = x := ⟨_, rfl⟩
          have Hx : Hid (l.head? = some x) := by
            show _ = _
            rw [HL.out, List.head?_eq_getElem?, ← hx]
            exact Lib.data_getElem? L 0 z5
          clear h0 hLs
          by_cases hx46 : x = 46
          · have hxb : ((x.toNat : Int) == 46) = true := by rw [hx46]; rfl
            have HS : Hid (stuffed l = [46] ++ L.data.toList ++ [13, 10]) := by
              show _ = _
              unfold stuffed
              rw [Hx.out, hx46, if_pos rfl, HL.out]
            clear hx46
            go_wp2_with fail
            go_round
            case rel =>
              refine ⟨k + 1, by omega, by go_num, ?_⟩
              exact str_dot _ _ _ (by rw [Hsn.out, HS.out])
            case measure => simp [intOf]; omega
          · have hxb : ((x.toNat : Int) == 46) = false := byte_ne (n := 46) (by omega) hx46
            have HS : Hid (stuffed l = L.data.toList ++ [13, 10]) := by
              show _ = _
              unfold stuffed
              rw [Hx.out, if_neg (by simpa using hx46), HL.out]
              rfl
            clear hx46
            go_wp2_with fail
            go_round
            case rel =>
              refine ⟨k + 1, by omega, by go_num, ?_⟩
              exact str_snoc _ _ _ (by rw [Hsn.out, HS.out, List.append_assoc])
            case measure => simp [intOf]; omega
      · have z2 : ¬ (k : Int) < (ls.length : Int) := by omega
        obtain rfl : k = ls.length := by omega
        rw [List.take_length] at hfl
        go_wp2_with fail
        go_ret
        refine ⟨?_, hf2⟩
        rw [HP2.out]
        exact congrArg Ending.returned (str_end _)

end Go.Proofs.Ytegbkpjcjlihmaa
