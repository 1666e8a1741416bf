/-
  The reference's Cut and Of.
-/
import Derived.Test.YtegbkpjcjlihmaaFeed
namespace Go.Proofs.Ytegbkpjcjlihmaa
open Go.RowKit

/-- a text, as a value -/
def strV (l : List UInt8) : Value := .string ⟨l.toArray⟩

/-- texts, in a row of the call's own -/
def TextsAt (w : World) (base : Nat) (v : Value) (ls : List (List UInt8)) : Prop := w.ownsRow base 9 1 v ls.length (ls.map strV)

theorem infoStr : (Try.prog.info? 9).map (fun i => (i.zero, i.size, i.bytes)) = some (some (.string ⟨#[]⟩), 1, 16) := by kernel_rfl
theorem infoStr' : ∃ i, Try.prog.info? 9 = some i ∧ i.zero = some (.string ⟨#[]⟩) ∧ i.size = 1 ∧ i.bytes = 16 := by
  obtain ⟨i, hi, h⟩ := Option.map_eq_some_iff.1 infoStr
  simp only [Prod.mk.injEq] at h
  exact ⟨i, hi, h.1, h.2.1, h.2.2⟩

theorem wpList_append_text {ops : Array Oper} {rest : List Oper} {o : Oper} {a : Act} {w : World} {Q : Exit → Act → World → Prop} (hgd : o.guard = none) (s x : Operand)
    (ho : o.op = .call { callee := .builtin .append, args := #[s, x], argTypes := #[22, 22] })
    (base : Nat) (v : Value) (ls : List (List UInt8)) (l : List UInt8) (hs : a.eval s = v) (hown : TextsAt w base v ls)
    (ad : Addr) (hx : a.eval x = .slice (some ad) 1 1) (hnews : w.cell? ad = some (strV l)) (hn : ls.length < 1099511627776) (hbase : base ≤ w.heap.size)
    (h : ∀ v' w', TextsAt w' base v' (ls ++ [l]) → w.grownBy w' v.ownBlock → Placed w v v' → wpList Try.prog ops Q rest (a.put o.dst v') w') : wpList Try.prog ops Q (o :: rest) a w := by
  obtain ⟨i0, hi0, hz0, hz1, hz2⟩ := infoStr'
  refine wpList_append_placed w hgd s x 22 ho base 9 i0 _ 1 16 Try.underlying22 hi0 hz0 hz1 hz2 rfl (by decide) v ls.length _ hs hown ad 1 1 [strV l] hx rfl ?_ ?_ (by unfold maxLen; omega) (by omega) hbase ?_
  · intro j u hj
    match j, hj with
    | 0, hj => simp at hj; subst hj; simpa [Addr.add] using hnews
  · intro u hu; simp at hu; subst hu; rfl
  · intro v' w' ho hgr hp
    refine h v' w' ?_ hgr hp
    unfold TextsAt
    simpa using ho

theorem extract_list (s : ByteArray) (a b : Nat) : (s.extract a b).data.toList = (s.data.toList.take b).drop a := by
  rw [Lib.extract_data, List.drop_take]

theorem extract_eq (s : ByteArray) (a b : Nat) : s.extract a b = ⟨((s.data.toList.take b).drop a).toArray⟩ := by
  apply ByteArray.ext
  apply Array.ext'
  rw [extract_list]

/-- k bytes are read; from f on stands what is behind the last line -/
def CutInv (l : List UInt8) (k f : Nat) (ls : List (List UInt8)) : Prop := cutFrom [] (l.take k) = (ls, (l.take k).drop f)

theorem last_at (l : List UInt8) (k f : Nat) (hk : k ≤ l.length) (hf : f < k) : ((l.take k).drop f).getLast? = l[k - 1]? := by
  rw [List.getLast?_eq_getElem?]
  simp only [List.length_drop, List.length_take, Nat.min_eq_left hk, List.getElem?_drop, List.getElem?_take]
  rw [if_pos (by omega)]
  congr 1
  omega

theorem dropLast_at (l : List UInt8) (k f : Nat) (hk : k ≤ l.length) (hf : f < k) : ((l.take k).drop f).dropLast = (l.take (k - 1)).drop f := by
  rw [List.dropLast_eq_take]
  apply List.ext_getElem?
  intro i
  simp only [List.length_drop, List.length_take, Nat.min_eq_left hk, List.getElem?_drop, List.getElem?_take]
  by_cases h : i < k - f - 1
  · rw [if_pos h, if_pos (by omega), if_pos (by omega)]
  · rw [if_neg h, if_neg (by omega)]

theorem CutInv.yes {l : List UInt8} {k f : Nat} {ls : List (List UInt8)} (h : CutInv l k f ls) (hk : k < l.length) (hf : f < k) (h1 : l[k]? = some 10) (h2 : l[k - 1]? = some 13) : CutInv l (k + 1) (k + 1) (ls ++ [(l.take (k - 1)).drop f]) := by
  unfold CutInv at *
  have ht : l.take (k + 1) = l.take k ++ [10] := by
    rw [List.take_add_one, h1]; rfl
  rw [ht, cut_snoc, h]
  unfold step
  simp only []
  rw [if_pos ⟨trivial, by rw [last_at l k f (by omega) hf]; exact h2⟩, dropLast_at l k f (by omega) hf]
  congr 1
  rw [List.drop_of_length_le]
  simp
  omega

theorem CutInv.no {l : List UInt8} {k f : Nat} {ls : List (List UInt8)} {c : UInt8} (h : CutInv l k f ls) (hf : f ≤ k) (h1 : l[k]? = some c) (hn : ¬ (c = 10 ∧ l[k - 1]? = some 13 ∧ f < k)) : CutInv l (k + 1) f ls := by
  have hk : k < l.length := (List.getElem?_eq_some_iff.1 h1).1
  unfold CutInv at *
  have ht : l.take (k + 1) = l.take k ++ [c] := by
    rw [List.take_add_one, h1]; rfl
  rw [ht, cut_snoc, h]
  unfold step
  simp only []
  rw [if_neg, List.drop_append_of_le_length]
  · simp; omega
  · rintro ⟨e1, e2⟩
    by_cases hfk : f < k
    · rw [last_at l k f (by omega) hfk] at e2
      exact hn ⟨e1, e2, hfk⟩
    · rw [List.drop_of_length_le (by simp; omega)] at e2
      simp at e2

theorem CutInv.start (l : List UInt8) : CutInv l 1 0 [] := by
  unfold CutInv
  cases l with
  | nil => rfl
  | cons c l => simp [cutFrom, runFrom, step]

set_option maxHeartbeats 2000000 in
set_option maxRecDepth 100000 in
theorem refCut_any (s : ByteArray) (hs : s.size < 1099511627776) (w : World) :
    Calls Try.prog 13 #[.string s] w fun e w' => ∃ v, e = .returned (.tuple #[v, strV (cutFrom [] s.data.toList).2]) ∧ TextsAt w' w.heap.size v (cutFrom [] s.data.toList).1 ∧ Fresh w w' := by
  go_enter Try.func13, Try.ntmps13
  go_wp2_with fail
  go_loopw [4, 5, 6] (fun t4 t5 t6 wr => ∃ (k f : Nat) (ls : List (List UInt8)), t5 = .int .i64 f ∧ t6 = .int .i64 k ∧ 1 ≤ k ∧ (k = 1 ∨ k ≤ s.size) ∧ f ≤ k ∧ f ≤ s.size ∧ CutInv s.data.toList k f ls ∧ TextsAt wr w.heap.size t4 ls ∧ Fresh w wr) (fun _ _ t6 _ => s.size + 1 - (intOf t6).toNat)
  case atStart => exact ⟨1, 0, [], rfl, rfl, Nat.le_refl _, .inl rfl, Nat.zero_le _, Nat.zero_le _, CutInv.start _, World.ownsRow_nil _ _ _ _, Keeps.refl _ _⟩
  case round =>
    obtain ⟨k, f, ls, rfl, rfl, hk1, hk2, hfk, hfs, hinv, ho, hf⟩ := hrel
    have HI : Hid (CutInv s.data.toList k f ls) := hinv
    have hll : ls.length ≤ s.size := by
      have := (cut_lengths (s.data.toList.take k) []).2
      unfold CutInv at hinv
      rw [hinv] at this
      have h2 : (s.data.toList.take k).length ≤ s.size := by rw [List.length_take, ← Lib.size_eq]; omega
      simp only [] at this
      omega
    clear hinv
    by_cases hlt : k < s.size
    · have hkm : k - 1 < s.size := by omega
      obtain ⟨c, hc⟩ : ∃ c, s[k] = c := ⟨_, rfl⟩
      obtain ⟨d, hd⟩ : ∃ d, s[k - 1] = d := ⟨_, rfl⟩
      have Hc : Hid (s.data.toList[k]? = some c) := by rw [← hc]; exact Lib.data_getElem? s k hlt
      have Hd : Hid (s.data.toList[k - 1]? = some d) := by rw [← hd]; exact Lib.data_getElem? s (k - 1) hkm
      have hfi : ((f : Int) < (k : Int)) = (f < k) := by simp
      have z1 : (1 : Int) ≤ (k : Int) := by omega
      have z2 : (k : Int) < (s.size : Int) := by omega
      by_cases hc10 : c = 10
      · have hcb : ((c.toNat : Int) == 10) = true := by rw [hc10]; rfl
        have HC : Hid (c = 10) := hc10
        by_cases hd13 : d = 13
        · have hdb : ((d.toNat : Int) == 13) = true := by rw [hd13]; rfl
          have HD : Hid (d = 13) := hd13
          by_cases hfk2 : f < k
          · have z3 : (f : Int) < (k : Int) := by omega
            clear hfi hc10 hd13
            go_wp2_with (at_builtin; refine wpList_append_text rfl (.tmp 29) (.tmp 35) rfl w.heap.size _ ls ((s.data.toList.take (k - 1)).drop f) rfl (ho.alloc _) ⟨wr.heap.size, 0, none⟩ rfl ?o2 ?o3 ?o4 ?_)
            case o2 => rw [Lib.cell_of_heap (heap_alloc_new wr _), extract_eq]; rfl
            case o3 => omega
            case o4 => exact Nat.le_trans hf.size (by simp)
            intro v2 w2 o2 g2 p2
            have hf2 : Fresh w w2 := (hf.alloc _).grown g2 (fun k e hk => by
              have := (ho.lt k e).1
              omega)
            go_wp2
            go_roundw
            case rel => exact ⟨k + 1, k + 1, _, by go_num, by go_num, by omega, .inr (by omega), by omega, by omega, HI.out.yes (by rw [← Lib.size_eq]; exact hlt) hfk2 (by rw [Hc.out, HC.out]) (by rw [Hd.out, HD.out]), o2, hf2⟩
            case measure => simp [intOf]; omega
          · have z3 : ¬ (f : Int) < (k : Int) := by omega
            clear hfi hc10 hd13
            go_wp2
            go_roundw
            case rel => exact ⟨k + 1, f, ls, rfl, by go_num, by omega, .inr (by omega), by omega, hfs, HI.out.no hfk Hc.out (fun h => hfk2 h.2.2), ho, hf⟩
            case measure => simp [intOf]; omega
        · have hdb : ((d.toNat : Int) == 13) = false := by
            rw [beq_eq_false_iff_ne]
            intro e
            exact hd13 (UInt8.toNat_inj.1 (by show d.toNat = 13; omega))
          have HD : Hid (d ≠ 13) := hd13
          clear hfi hc10 hd13
          go_wp2
          go_roundw
          case rel => exact ⟨k + 1, f, ls, rfl, by go_num, by omega, .inr (by omega), by omega, hfs, HI.out.no hfk Hc.out (fun h => HD.out (by have := h.2.1; rw [Hd.out] at this; cases this; rfl)), ho, hf⟩
          case measure => simp [intOf]; omega
      · have hcb : ((c.toNat : Int) == 10) = false := by
          rw [beq_eq_false_iff_ne]
          intro e
          exact hc10 (UInt8.toNat_inj.1 (by show c.toNat = 10; omega))
        have HC : Hid (c ≠ 10) := hc10
        clear hfi hc10
        go_wp2
        go_roundw
        case rel => exact ⟨k + 1, f, ls, rfl, by go_num, by omega, .inr (by omega), by omega, hfs, HI.out.no hfk Hc.out (fun h => HC.out h.1), ho, hf⟩
        case measure => simp [intOf]; omega
    · have z2 : ¬ (k : Int) < (s.size : Int) := by omega
      have z4 : (f : Int) ≤ (s.size : Int) := by omega
      have Hr : Hid (s.extract f s.size = ⟨(cutFrom [] s.data.toList).2.toArray⟩) := by
        have h := HI.out
        unfold CutInv at h
        rw [List.take_of_length_le (by rw [← Lib.size_eq]; omega)] at h
        show _ = _
        rw [h, extract_eq, List.take_of_length_le (by rw [← Lib.size_eq]; omega)]
      have Hl : Hid (TextsAt wr w.heap.size u4 (cutFrom [] s.data.toList).1) := by
        have h := HI.out
        unfold CutInv at h
        rw [List.take_of_length_le (by rw [← Lib.size_eq]; omega)] at h
        show TextsAt _ _ _ _
        rw [h]
        exact ho
      clear hk2
      go_wp2_with fail
      go_quiet (fail)
      go_wp2_with fail
      go_ret2
      refine ⟨u4, ?_, ?_, hf.drewN _⟩
      · rw [strV, ← Hr.out]; rfl
      · exact Hl.out

end Go.Proofs.Ytegbkpjcjlihmaa
