/-
  The mark of one who is done. | Marks: plain. | strings.SplitSeq at a sign: the walk. | strike: those are taken away who are marked. | strike: the walk.
-/
import Derived.Test.YtegbkpjcjlihmabGreatDoorGk
import Derived.Test.YtegbkpjcjlihmabGreatDoorGf
import Derived.Test.YtegbkpjcjlihmabGreatDoorRfl
import Derived.Test.YtegbkpjcjlihmabGreatDoorShm
import Derived.Test.YtegbkpjcjlihmabGreatDoorGg
import Derived.Lib.IndexLaws
import Derived.Test.YtegbkpjcjlihmabGreatDoorGm
import Derived.Maps.OwnIn
namespace Go.Proofs.YtegbkpjcjlihmabGreatDoor
open Go.RowKit

/-- the mark of a place -/
def markT (n : Int) : Text := 43 :: (Lib.itoa n ++ [46])
def markB (n : Int) : ByteArray := ⟨(markT n).toArray⟩

set_option maxHeartbeats 1000000 in
theorem mark_any (n : Int) (w : World) (hG : Gl w) (h0 : -9223372036854775808 ≤ n) (h1 : n ≤ 9223372036854775807) :
    Calls Tryz.prog 110 #[.int .i64 n] w fun e w' => e = .returned (.string (markB n)) ∧ Fresh w w' := by
  have hl := Lib.itoa_length_le n h0 h1
  obtain ⟨I, hI⟩ : ∃ I : ByteArray, I = ⟨(Lib.itoa n).toArray⟩ := ⟨_, rfl⟩
  have hIs : I.size ≤ 21 := by rw [hI]; exact hl
  have hc := Tryz.strconv_Itoa n h0 h1 w hG.tab
  rw [← hI] at hc
  have z1 : (⟨#[43]⟩ : ByteArray).size = 1 := rfl
  have z2 : (⟨#[46]⟩ : ByteArray).size = 1 := rfl
  obtain ⟨t1, g1⟩ : ∃ t : ByteArray, t = ⟨#[43]⟩ ++ I := ⟨_, rfl⟩
  obtain ⟨t2, g2⟩ : ∃ t : ByteArray, t = t1 ++ ⟨#[46]⟩ := ⟨_, rfl⟩
  have s1 : t1.size ≤ 22 := by rw [g1, ByteArray.size_append]; omega
  have e1 : ∀ W : World, (Op.stringOp .add ⟨#[43]⟩ I).run Tryz.prog W = .ok (.string t1) W := fun W => by rw [g1]; exact run_string_add_sum W _ _ (by omega)
  have e2 : ∀ W : World, (Op.stringOp .add t1 ⟨#[46]⟩).run Tryz.prog W = .ok (.string t2) W := fun W => by rw [g2]; exact run_string_add_sum W _ _ (by omega)
  have ht : Hid (t2 = markB n) := by
    refine ba_ext ?_
    rw [g2, ba_add, g1, ba_add, hI]
    simp [markB, markT]
  clear hI hIs hl g1 g2 s1 z1 z2
  go_enter Tryz.func110, Tryz.ntmps110
  go_wp2_with fail
  refine hc.mono ?_
  rintro e w1 ⟨rfl, q, os, rfl⟩
  go_wp2_with fail
  go_ret
  exact ⟨by rw [← ht.out]; rfl, fresh_grow _ _ _⟩

end Go.Proofs.YtegbkpjcjlihmabGreatDoor

namespace Go.Proofs.YtegbkpjcjlihmabGreatDoor
open Go.RowKit Go.Maps

/-- the pieces between the signs '+' -/
def splits : Text → List Text
  | [] => [[]]
  | c :: s => if c = 43 then [] :: splits s else (match splits s with | x :: xs => (c :: x) :: xs | [] => [[c]])

theorem splits_cons (c : UInt8) (s : Text) : splits (c :: s) = if c = 43 then [] :: splits s else (match splits s with | x :: xs => (c :: x) :: xs | [] => [[c]]) := rfl

theorem splits_ne : ∀ s, splits s ≠ []
  | [] => by simp [splits]
  | c :: s => by
    unfold splits
    split
    · simp
    · split <;> simp

theorem splits_app : ∀ (r q : Text), splits (r ++ 43 :: q) = splits r ++ splits q
  | [], q => by simp [splits]
  | c :: r, q => by
    rw [List.cons_append, splits_cons, splits_cons]
    by_cases h : c = 43
    · rw [if_pos h, if_pos h, splits_app r q, List.cons_append]
    · rw [if_neg h, if_neg h, splits_app r q]
      cases e : splits r with
      | nil => exact absurd e (splits_ne r)
      | cons x xs => rfl

theorem splits_none : ∀ (l : Text), (∀ b ∈ l, b ≠ 43) → splits l = [l]
  | [], _ => rfl
  | c :: l, h => by
    unfold splits
    rw [if_neg (h c (by simp)), splits_none l (fun b hb => h b (by simp [hb]))]

theorem splits_at (l r : Text) (h : ∀ b ∈ l, b ≠ 43) : splits (l ++ 43 :: r) = l :: splits r := by
  rw [splits_app, splits_none l h]
  rfl

/-- the place that a piece marks -/
def markOf (m : Text) : Option Int := if m.getLast? = some 46 then (match Lib.atoiAll m.dropLast with | .ok n => some n | _ => none) else none

/-- the places that are marked -/
def marksOf (r : Text) : List Int := (splits r).filterMap markOf

theorem marksOf_app (r q : Text) : marksOf (r ++ 43 :: q) = marksOf r ++ marksOf q := by
  unfold marksOf
  rw [splits_app, List.filterMap_append]

theorem digits_no (n : Nat) : ∀ b ∈ Lib.decDigits n, b ≠ 43 ∧ b ≠ 46 := fun b hb => by
  have := digits_are n b hb
  refine ⟨fun e => ?_, fun e => ?_⟩
  · rw [e] at this; exact absurd this.1 (by decide)
  · rw [e] at this; exact absurd this.1 (by decide)

theorem marksOf_mark (r : Text) (n : Nat) (h : n < 1000000000000000000) : marksOf (r ++ markT n) = marksOf r ++ [(n : Int)] := by
  unfold markT
  rw [marksOf_app, itoa_nat]
  congr 1
  unfold marksOf
  rw [splits_none _ (fun b hb => by
    rw [List.mem_append] at hb
    rcases hb with hb | hb
    · exact (digits_no n b hb).1
    · simp at hb; rw [hb]; decide)]
  simp [markOf, atoiAll_digits n h]

/-- a mark that was cut says nothing -/
theorem marksOf_cut (r : Text) (n j : Nat) (h : j < (markT n).length) : marksOf (r ++ (markT n).take j) = marksOf r := by
  cases j with
  | zero => simp
  | succ j =>
    unfold markT at h ⊢
    rw [List.take_succ_cons, marksOf_app, itoa_nat] at *
    have hj : j ≤ (Lib.decDigits n).length := by simp at h; omega
    have e : (Lib.decDigits n ++ [46]).take j = (Lib.decDigits n).take j := by rw [List.take_append_of_le_length hj]
    rw [e]
    have : marksOf ((Lib.decDigits n).take j) = [] := by
      unfold marksOf
      rw [splits_none _ (fun b hb => (digits_no n b (List.mem_of_mem_take hb)).1)]
      have hl : ((Lib.decDigits n).take j).getLast? ≠ some 46 := fun e => by
        have := List.mem_of_getLast? e
        exact (digits_no n 46 (List.mem_of_mem_take this)).2 rfl
      simp [markOf, hl]
    rw [this, List.append_nil]

theorem marksOf_nil : marksOf [] = [] := by
  unfold marksOf splits
  simp [markOf]

end Go.Proofs.YtegbkpjcjlihmabGreatDoor

namespace Go.Proofs.YtegbkpjcjlihmabGreatDoor
open Go.RowKit Go.Maps Go.Sort Go.Shelf
attribute [local go_sem] Oper.semAt_some

/-- a text that is not too long -/
abbrev TextK := { t : ByteArray // t.size ≤ 281474976710656 }
def strV (x : TextK) : Value := .string x.1
def txt (x : TextK) : Text := x.1.data.toList

theorem splits_index_none {t : Text} (h : Lib.indexByte t 43 = -1) : splits t = [t] :=
  splits_none t (fun b hb e => by
    obtain ⟨k, hk⟩ := List.mem_iff_getElem?.1 hb
    rw [e] at hk
    exact Lib.indexByte_none h k hk)

theorem splits_index_some {t : Text} {o : Nat} (h : Lib.indexByte t 43 = o) : o < t.length ∧ splits t = t.take o :: splits (t.drop (o + 1)) := by
  obtain ⟨h1, h2⟩ := Lib.indexByte_some h
  obtain ⟨ho, he⟩ := List.getElem?_eq_some_iff.1 h1
  refine ⟨ho, ?_⟩
  have e : t = t.take o ++ 43 :: t.drop (o + 1) := by
    conv => lhs; rw [← List.take_append_drop o t]
    rw [List.drop_eq_getElem_cons ho, he]
  conv => lhs; rw [e]
  refine splits_at _ _ (fun b hb e2 => ?_)
  obtain ⟨k, hk, hk2⟩ := List.mem_iff_getElem.1 hb
  rw [List.length_take] at hk
  refine h2 k (by omega) ?_
  rw [List.getElem?_eq_getElem (by omega)]
  rw [List.getElem_take] at hk2
  rw [hk2, e2]

theorem ext_take (t : ByteArray) (o : Nat) : (t.extract 0 o).data.toList = t.data.toList.take o := by
  rw [ByteArray.data_extract]
  simp

theorem ext_drop (t : ByteArray) (o : Nat) : (t.extract o t.size).data.toList = t.data.toList.drop o := by
  rw [ByteArray.data_extract, Array.toList_extract]
  show (t.data.toList.drop o).take (t.size - o) = _
  refine List.take_of_length_le ?_
  rw [List.length_drop]
  exact Nat.le_refl _

/-- the boxes stand -/
def SplKp (bs bp bv : Nat) (W W' : World) : Prop := W'.heap[bs]? = W.heap[bs]? ∧ W'.heap[bp]? = W.heap[bp]? ∧ W'.heap[bv]? = W.heap[bv]?

/-- how long the text in a box is -/
def boxLen (b : Nat) (w : World) : Nat := match w.cell? ⟨b, 0, none⟩ with | some (.string s) => s.size | _ => 0

set_option maxRecDepth 100000 in
set_option maxHeartbeats 2000000 in
theorem split_seq (s : ByteArray) (hs : s.size ≤ 281474976710656) (bs bp bv n : Nat) (w : World) (hn : 1 ≤ n) (h1 : w.heap[bs]? = some (.cells #[.string s] 9 (0, 0))) (h2 : w.heap[bp]? = some (.cells #[.string ⟨#[43]⟩] 9 (0, 0))) (h3 : w.heap[bv]? = some (.cells #[.int .i64 0] 3 (0, 0))) (n1 : bp ≠ bs) (n2 : bv ≠ bs) :
    SeqCell Tryz.prog n 216 #[.pointer (some ⟨bp, 0, none⟩), .pointer (some ⟨bs, 0, none⟩), .pointer (some ⟨bv, 0, none⟩)] strV (fun xs => xs.map txt = splits s.data.toList) (fun _ => True) (fun b => b = bs) (SplKp bs bp bv) w := by
  intro l J W hW hJ hJs hY h0
  have b1 : W.heap[bs]? = some (.cells #[.string s] 9 (0, 0)) := (hW.block bs (heap_lt h1)).trans h1
  have b2 : W.heap[bp]? = some (.cells #[.string ⟨#[43]⟩] 9 (0, 0)) := (hW.block bp (heap_lt h2)).trans h2
  have b3 : W.heap[bv]? = some (.cells #[.int .i64 0] 3 (0, 0)) := (hW.block bv (heap_lt h3)).trans h3
  clear h1 h2 h3 hW
  have c1 := cell1 b1
  have c2 := cell1 b2
  have c3 := cell1 b3
  refine callsIn_of_wp Tryz.func216 rfl trivial ?_ rfl
  simp only [Tryz.ntmps216, List.size_toArray, List.length_cons, List.length_nil, Nat.reduceAdd, Nat.reduceSub, Array.replicate_succ, Array.replicate_zero, List.push_toArray, List.append_toArray, List.nil_append, List.cons_append]
  gi_wp2
  gi_loopw [7] (fun _ wr => ∃ (pre : List TextK) (t : ByteArray), t.size ≤ s.size ∧ wr.heap[bs]? = some (.cells #[.string t] 9 (0, 0)) ∧ wr.heap[bp]? = some (.cells #[.string ⟨#[43]⟩] 9 (0, 0)) ∧ wr.heap[bv]? = some (.cells #[.int .i64 0] 3 (0, 0)) ∧ pre.map txt ++ splits t.data.toList = splits s.data.toList ∧ J pre wr)
    (fun _ wr => boxLen bs wr)
  case atStart =>
    exact ⟨[], s, Nat.le_refl _, b1, b2, b3, rfl, h0⟩
  case round =>
    obtain ⟨pre, t, ht, r1, r2, r3, hsp, hJr⟩ := hrel
    have d1 := cell1 r1
    have d2 := cell1 r2
    have d3 := cell1 r3
    have hix := Tryz.strings_Index_one t 43 wr
    clear c1 c2 c3 b1 b2 b3
    by_cases hi : Lib.indexByte t.data.toList 43 = -1
    · rw [hi] at hix
      obtain ⟨fn, tmps, assign, body, hy, hR⟩ := hY pre ⟨t, by omega⟩ wr hJr trivial
      have HE : Hid ((pre ++ [(⟨t, by omega⟩ : TextK)]).map txt = splits s.data.toList) := by
        show _ = _
        rw [← hsp, splits_index_none hi]
        simp [txt]
      clear hi hsp
      unfold strV at *
      gi_wp2_with (refine ⟨trivial, ?_⟩; gi_at_call 218; refine (callsIn_wide.2 hix).mono ?_; rintro e w' ⟨rfl, rfl⟩)
      refine hR.mono ?_
      rintro e W3 ⟨rfl, hJ3, hk3⟩
      gi_wp2
      go_end0
      exact ⟨⟨_, rfl⟩, _, HE.out, hJ3⟩
    · obtain ⟨o, ho⟩ : ∃ o : Nat, Lib.indexByte t.data.toList 43 = o := ⟨(Lib.indexByte t.data.toList 43).toNat, by have := Lib.indexByte_ge t.data.toList 43; omega⟩
      rw [ho] at hix
      obtain ⟨hol, hsp2⟩ := splits_index_some ho
      have hol : o < t.size := hol
      have hxs : (t.extract 0 o).size ≤ 281474976710656 := by rw [ByteArray.size_extract]; omega
      obtain ⟨fn, tmps, assign, body, hy, hR⟩ := hY pre ⟨t.extract 0 o, hxs⟩ wr hJr trivial
      have HE : Hid ((pre ++ [(⟨t.extract 0 o, hxs⟩ : TextK)]).map txt ++ splits (t.extract (o + 1) t.size).data.toList = splits s.data.toList) := by
        show _ = _
        rw [← hsp, hsp2, List.map_append, ext_drop]
        simp [txt]
      have HS : Hid ((t.extract (o + 1) t.size).size + 1 ≤ t.size) := by
        show _ ≤ _
        rw [ByteArray.size_extract]
        omega
      have HM : Hid (boxLen bs wr = t.size) := by
        show boxLen bs wr = t.size
        unfold boxLen
        rw [d1]
      clear hi ho hsp hsp2
      unfold strV at *
      gi_wp2_with (refine ⟨trivial, ?_⟩; gi_at_call 218; refine (callsIn_wide.2 hix).mono ?_; rintro e w' ⟨rfl, hw'⟩; obtain rfl : wr = w' := hw'.symm)
      refine hR.mono ?_
      rintro e W3 ⟨rfl, hJ3, hk1, hk2, hk3⟩
      rw [r1] at hk1
      rw [r2] at hk2
      rw [r3] at hk3
      have e1 := cell1 hk1
      have e2 := cell1 hk2
      have e3 := cell1 hk3
      have f1 : W3.frozen? ⟨bs, 0, none⟩ = false := _root_.Go.Boxed.frozen (t := 9) hk1
      gi_wp2
      have hset : (W3.setCell ⟨bs, 0, none⟩ (.string (t.extract (o + 1) t.size))).heap[bs]? = some (.cells #[.string (t.extract (o + 1) t.size)] 9 (0, 0)) := Boxed.set _ hk1
      go_roundw
      case rel => exact ⟨_, t.extract (o + 1) t.size, by have := HS.out; omega, hset, (setCell_other _ n1).trans hk2, (setCell_other _ n2).trans hk3, HE.out, hJs bs rfl _ _ _ hJ3⟩
      case measure =>
        rw [HM.out]
        have : boxLen bs (W3.setCell ⟨bs, 0, none⟩ (.string (t.extract (o + 1) t.size))) = (t.extract (o + 1) t.size).size := by
          unfold boxLen
          rw [cell1 hset]
        rw [this]
        exact HS.out

end Go.Proofs.YtegbkpjcjlihmabGreatDoor

namespace Go.Proofs.YtegbkpjcjlihmabGreatDoor
open Go.RowKit Go.Maps Go.ChangeMaps Go.WideMaps Go.Sort Go.Shelf
attribute [local go_sem] Oper.semAt_some

def plusB : ByteArray := ⟨#[43]⟩

/-- SplitSeq -/
theorem splitSeq_any (s sep : ByteArray) (w : World) : Calls Tryz.prog 144 #[.string s, .string sep] w fun e w' => e = .returned (.func (.func 216) #[] #[ptr (w.heap.size + 1), ptr w.heap.size, ptr (w.heap.size + 2)]) ∧ w' = ((w.alloc (.cells #[.string s] 9)).alloc (.cells #[.string sep] 9)).alloc (.cells #[.int .i64 0] 3) := by
  have h : Calls Tryz.prog 185 #[.string s, .string sep, .int .i64 0] w fun e w' => e = .returned (.func (.func 216) #[] #[ptr (w.heap.size + 1), ptr w.heap.size, ptr (w.heap.size + 2)]) ∧ w' = ((w.alloc (.cells #[.string s] 9)).alloc (.cells #[.string sep] 9)).alloc (.cells #[.int .i64 0] 3) := by
    unfold ptr
    go_enter Tryz.func185, Tryz.ntmps185
    go_wp2_with fail
    go_ret
    exact ⟨rfl, rfl⟩
  unfold ptr at *
  go_enter Tryz.func144, Tryz.ntmps144
  go_wp2_with fail
  refine h.mono ?_
  rintro e w1 ⟨rfl, rfl⟩
  go_wp2_with fail
  go_ret
  exact ⟨rfl, rfl⟩

/-- one mark -/
def strike1 (ls : List Ltr) (M : Lefts) (p : Text) : Lefts :=
  match markOf p with
  | some n => (match ls[n.toNat]? with | some a => if 0 ≤ n then delA M a else M | none => M)
  | none => M
/-- all marks -/
def strikes (ls : List Ltr) (M : Lefts) (ps : List Text) : Lefts := ps.foldl (strike1 ls) M

theorem strikes_snoc (ls : List Ltr) (M : Lefts) (ps : List Text) (p : Text) : strikes ls M (ps ++ [p]) = strike1 ls (strikes ls M ps) p := by
  unfold strikes
  rw [List.foldl_append]
  rfl

theorem suffix_dot (s : Text) : Lib.hasSuffix s [46] = decide (s.getLast? = some 46) := by
  unfold Lib.hasSuffix
  rw [Bool.eq_iff_iff, List.isSuffixOf_iff_suffix, decide_eq_true_iff]
  constructor
  · rintro ⟨t, rfl⟩
    simp
  · intro h
    obtain ⟨t, ht⟩ := List.getLast?_eq_some_iff.1 h
    exact ⟨t, ht.symm⟩

theorem trim_dot {s : Text} (h : s.getLast? = some 46) : Lib.trimSuffix s [46] = s.dropLast := by
  unfold Lib.trimSuffix
  rw [if_pos (by rw [suffix_dot, decide_eq_true_iff]; exact h), List.dropLast_eq_take]
  rfl

theorem strike_no {ls : List Ltr} {M : Lefts} {p : Text} (h : markOf p = none) : strike1 ls M p = M := by
  unfold strike1
  rw [h]

/-- between two pieces -/
structure StrSt (w : World) (m n bl bt base : Nat) (v : Value) (ls : List Ltr) (M : Lefts) (ps : List Text) (W : World) : Prop where
  l : W.heap[bl]? = some (.cells #[.map (some m)] 134 (0, 0))
  to : W.heap[bt]? = some (.cells #[v] 57 (0, 0))
  row : RowA W base v ls
  left : ∃ c, LeftAt W m n c (strikes ls M ps)
  k : Keeps (fun k => k = m) w W

theorem StrSt.kept {w : World} {m n bl bt base : Nat} {v : Value} {ls : List Ltr} {M : Lefts} {ps : List Text} {W W' : World} {S : Nat → Prop} (h : StrSt w m n bl bt base v ls M ps W) (k : Keeps S W W') (h1 : ¬ S bl) (h2 : ¬ S bt) (h3 : ∀ g, v.ownBlock = some g → ¬ S g) (h4 : ¬ S m) (h5 : ∀ i, i < w.heap.size → ¬ S i) : StrSt w m n bl bt base v ls M ps W' := by
  obtain ⟨c, hc⟩ := h.left
  exact ⟨k.heap h.l h1, k.heap h.to h2, k.owns h.row h3, ⟨c, k.leftAt hc h4⟩, h.k.then k (fun i hi e => absurd e (h5 i hi))⟩

theorem Keeps.ofGrown {W W' : World} {row : Option Nat} (h : W.grownBy W' row) : Keeps (fun k => row = some k) W W' := ⟨h.os, h.tape, h.output, h.size, fun k hk hn => h.block k hk (fun e => hn e.symm)⟩

end Go.Proofs.YtegbkpjcjlihmabGreatDoor

namespace Go.Proofs.YtegbkpjcjlihmabGreatDoor
open Go.RowKit Go.Maps Go.ChangeMaps Go.WideMaps Go.Sort Go.Shelf
attribute [local go_sem] Oper.semAt_some

set_option maxRecDepth 100000 in
set_option maxHeartbeats 4000000 in
theorem strike_any {M : Lefts} (hM : okM M) (w : World) (hG : Gl w) (m n c : Nat) (hL : LeftAt w m n c M) (hm8 : 8 ≤ m) (hn : n ≤ 1099511627776) (marks : ByteArray) (hs : marks.size ≤ 281474976710656) :
    Calls Tryz.prog 127 #[.map (some m), .string marks] w fun e w' => e = .returned (.tuple #[]) ∧ ∃ ls c', Ordered M ls ∧ LeftAt w' m n c' (strikes ls M (splits marks.data.toList)) ∧ Keeps (fun k => k = m) w w' := by
  refine (callsIn_wide (n := 6)).1 ?_
  have k1 : Fresh w (w.alloc (.cells #[.map (some m)] 134)) := (Keeps.refl _ _).alloc _
  have hlist := list_any hM (w.alloc (.cells #[.map (some m)] 134)) m n c (k1.leftAt hL (fun e => e)) hn
  have hml := hL.lt
  refine callsIn_of_wp_marks Tryz.func127 rfl trivial ?_ rfl
  simp only [Tryz.ntmps127, List.size_toArray, List.length_cons, List.length_nil, Nat.reduceAdd, Nat.reduceSub, Array.replicate_succ, Array.replicate_zero, List.push_toArray, List.append_toArray, List.nil_append, List.cons_append]
  gi_wp2_with (refine ⟨trivial, ?_⟩; gi_at_call 89; refine (callsIn_wide.2 hlist).mono ?_)
  rintro e w2 ⟨v, ls, rfl, hO, hls, hrow, k2⟩
  obtain ⟨ao, cap, rfl, hc1, hc2, hao⟩ := own_form hrow
  have hsq := splitSeq_any marks ⟨#[43]⟩ (w2.alloc (.cells #[.slice ao ls.length cap] 57))
  simp only [World.size_alloc] at hsq
  obtain ⟨W0, hW0⟩ : ∃ W0, (((w2.alloc (.cells #[.slice ao ls.length cap] 57)).alloc (.cells #[.string marks] 9)).alloc (.cells #[.string ⟨#[43]⟩] 9)).alloc (.cells #[.int .i64 0] 3) = W0 := ⟨_, rfl⟩
  rw [hW0] at hsq
  have a1 : Fresh w2 (w2.alloc (.cells #[.slice ao ls.length cap] 57)) := (Keeps.refl _ _).alloc _
  have a2 : Fresh (w2.alloc (.cells #[.slice ao ls.length cap] 57)) ((w2.alloc (.cells #[.slice ao ls.length cap] 57)).alloc (.cells #[.string marks] 9)) := (Keeps.refl _ _).alloc _
  have a3 : Fresh ((w2.alloc (.cells #[.slice ao ls.length cap] 57)).alloc (.cells #[.string marks] 9)) (((w2.alloc (.cells #[.slice ao ls.length cap] 57)).alloc (.cells #[.string marks] 9)).alloc (.cells #[.string ⟨#[43]⟩] 9)) := (Keeps.refl _ _).alloc _
  have a4 : Fresh (((w2.alloc (.cells #[.slice ao ls.length cap] 57)).alloc (.cells #[.string marks] 9)).alloc (.cells #[.string ⟨#[43]⟩] 9)) W0 := by rw [← hW0]; exact (Keeps.refl _ _).alloc _
  have t0 : W0.heap[w2.heap.size]? = some (.cells #[.slice ao ls.length cap] 57 (0, 0)) := ((a2.trans a3).trans a4).heap (heap_new _ _) (fun e => e)
  have b1 : W0.heap[w2.heap.size + 1]? = some (.cells #[.string marks] 9 (0, 0)) := by
    have := (a3.trans a4).heap (heap_new (w2.alloc (.cells #[.slice ao ls.length cap] 57)) (.cells #[.string marks] 9)) (fun e => e)
    rwa [World.size_alloc] at this
  have b2 : W0.heap[w2.heap.size + 2]? = some (.cells #[.string ⟨#[43]⟩] 9 (0, 0)) := by
    have := a4.heap (heap_new ((w2.alloc (.cells #[.slice ao ls.length cap] 57)).alloc (.cells #[.string marks] 9)) (.cells #[.string ⟨#[43]⟩] 9)) (fun e => e)
    rwa [World.size_alloc, World.size_alloc] at this
  have b3 : W0.heap[w2.heap.size + 3]? = some (.cells #[.int .i64 0] 3 (0, 0)) := by
    have := heap_new (((w2.alloc (.cells #[.slice ao ls.length cap] 57)).alloc (.cells #[.string marks] 9)).alloc (.cells #[.string ⟨#[43]⟩] 9)) (.cells #[.int .i64 0] 3)
    rwa [hW0, World.size_alloc, World.size_alloc, World.size_alloc] at this
  have hsz : W0.heap.size = w2.heap.size + 4 := by rw [← hW0]; simp
  have hsz2 := k2.size
  rw [World.size_alloc] at hsz2
  have kk : Fresh w W0 := (((k1.trans k2).trans a1).trans a2).trans (a3.trans a4)
  have l0 : W0.heap[w.heap.size]? = some (.cells #[.map (some m)] 134 (0, 0)) := ((((k2.trans a1).trans a2).trans a3).trans a4).heap (heap_new _ _) (fun e => e)
  have r0 : RowA W0 (w.alloc (.cells #[.map (some m)] 134)).heap.size (.slice ao ls.length cap) ls := (((a1.trans a2).trans a3).trans a4).owns hrow (fun _ _ e => e)
  have hown : ∀ g, (Value.slice ao ls.length cap).ownBlock = some g → w.heap.size + 1 ≤ g ∧ g < w2.heap.size := fun g hg => by
    have := hrow.lt g hg
    rw [World.size_alloc] at this
    exact this
  have S0 : StrSt w m n w.heap.size w2.heap.size (w.alloc (.cells #[.map (some m)] 134)).heap.size (.slice ao ls.length cap) ls M [] W0 := ⟨l0, t0, r0, ⟨c, kk.leftAt hL (fun e => e)⟩, kk.ofFresh⟩
  have HO : Hid (Ordered M ls) := hO
  clear hlist a1 a2 a3 a4 hW0 kk l0 t0 r0 hrow k2 k1 hO
  unfold ptr at *
  gi_wp2_with (refine ⟨trivial, ?_⟩; gi_at_call 144; refine (callsIn_wide.2 hsq).mono ?_)
  rintro e w3 ⟨rfl, hw3⟩
  obtain rfl : W0 = w3 := hw3.symm
  clear hsq
  gi_wp2
  refine rangeFunc_cell (n := 6) (by omega) (gf := 216) (lb := #[.pointer (some ⟨w2.heap.size + 2, 0, none⟩), .pointer (some ⟨w2.heap.size + 1, 0, none⟩), .pointer (some ⟨w2.heap.size + 3, 0, none⟩)]) rfl (enters_of Tryz.func216 (by kernel_rfl) rfl)
    (split_seq marks hs (w2.heap.size + 1) (w2.heap.size + 2) (w2.heap.size + 3) 5 W0 (by omega) b1 b2 b3 (by omega) (by omega)) rfl
    (fun h k => ⟨k.1.trans h.1, k.2.1.trans h.2.1, k.2.2.trans h.2.2⟩)
    (fun W l o o' hl _ _ _ => ⟨World.putObj_heap_other (by omega), World.putObj_heap_other (by omega), World.putObj_heap_other (by omega)⟩)
    (fun b hb => by omega)
    (fun xs W => StrSt w m n w.heap.size w2.heap.size (w.alloc (.cells #[.map (some m)] 134)).heap.size (.slice ao ls.length cap) ls M (xs.map txt) W ∧ W0.heap.size ≤ W.heap.size)
    (fun xs A B row hst hg hr => ⟨hst.1.kept (Keeps.ofGrown hg) (fun e => by have := (hr _ e).1; omega) (fun e => by have := (hr _ e).1; omega) (fun g hg' e => by have := (hr _ e).1; have := hown g hg'; omega) (fun e => by have := (hr _ e).1; omega) (fun i hi e => by have := (hr _ e).1; omega), Nat.le_trans hst.2 hg.size⟩)
    (fun b hb xs W u hst => by
      subst hb
      refine ⟨hst.1.kept ((Keeps.refl (fun k => k = w2.heap.size + 1) W).setCell (p := ⟨w2.heap.size + 1, 0, none⟩) (fun _ => rfl) u) (fun e => by omega) (fun e => by omega) (fun g hg' e => by have := hown g hg'; omega) (fun e => by omega) (fun i hi e => by omega), ?_⟩
      have := ((Keeps.refl (fun k => k = w2.heap.size + 1) W).setCell (p := ⟨w2.heap.size + 1, 0, none⟩) (fun _ => rfl) u).size
      exact Nat.le_trans hst.2 this)
    ⟨S0, Nat.le_refl _⟩
    (fun x a' _ => a' = { tmps := #[.map (some m), .string marks, .pointer (some ⟨w.heap.size, 0, none⟩), undef, .pointer (some ⟨w2.heap.size, 0, none⟩), .string x.1, undef, undef, undef, undef, .map (some m), .slice ao ls.length cap, .string marks, .func (.func 216) #[] #[.pointer (some ⟨w2.heap.size + 2, 0, none⟩), .pointer (some ⟨w2.heap.size + 1, 0, none⟩), .pointer (some ⟨w2.heap.size + 3, 0, none⟩)], .string x.1, undef, undef, undef, undef, undef, undef, undef, undef, undef, undef, undef, undef, undef, undef, undef, undef, undef, undef, undef, undef, undef, undef, undef, undef, undef, undef, undef, undef, undef, undef], defers := [] })
    (fun _ _ _ _ _ _ h _ _ => h)
    ?assign ?body ?done
  case assign =>
    rintro l pre ⟨x, hx⟩ W K hi hK
    unfold strV
    gi_wp2
    exact hK _ _ (KeepsFrom.refl _ _) ⟨rfl, rfl, rfl⟩ hi rfl
  case body =>
    rintro l pre ⟨x, hx⟩ a' W ⟨hi, hW0⟩ _ rfl
    have d1 := cell1 hi.l
    have d2 := cell1 hi.to
    obtain ⟨T, hT⟩ : ∃ T : ByteArray, T = ⟨(Lib.trimSuffix x.data.toList [46]).toArray⟩ := ⟨_, rfl⟩
    obtain ⟨b, hb⟩ : ∃ b : Bool, b = Lib.hasSuffix x.data.toList [46] := ⟨_, rfl⟩
    have hcs := Tryz.strings_CutSuffix x ⟨#[46]⟩ W (by omega)
    rw [show (⟨#[46]⟩ : ByteArray).data.toList = [46] from rfl, ← hT, ← hb] at hcs
    have hTs : T.size ≤ 281474976710656 := by
      have e1 : T.size = (Lib.trimSuffix x.data.toList [46]).length := by rw [hT]; simp [ByteArray.size]
      have e2 : (Lib.trimSuffix x.data.toList [46]).length ≤ x.data.toList.length := by
        unfold Lib.trimSuffix
        split
        · rw [List.length_take]; omega
        · omega
      have e3 : x.data.toList.length = x.size := rfl
      omega
    have hat := atoi_sat T hTs W (hG.keep hi.k (fun i hi' e => by omega))
    have HMk : Hid (∀ v, (b = true ∧ Lib.atoiAll T.data.toList = .ok v → markOf (txt ⟨x, hx⟩) = some v) ∧ (b = false ∨ (∀ v, Lib.atoiAll T.data.toList ≠ .ok v) → markOf (txt ⟨x, hx⟩) = none)) := by
      intro v
      unfold markOf
      have ex : txt ⟨x, hx⟩ = x.data.toList := rfl
      rw [ex]
      rw [suffix_dot] at hb
      by_cases hd : x.data.toList.getLast? = some 46
      · have eT : T.data.toList = x.data.toList.dropLast := by rw [hT, trim_dot hd]
        rw [decide_eq_true hd] at hb
        rw [if_pos hd, ← eT, hb]
        refine ⟨fun h => by rw [h.2], fun h => ?_⟩
        rcases h with h | h
        · cases h
        · split
          · rename_i n hn
            exact absurd hn (h n)
          · rfl
      · rw [decide_eq_false hd] at hb
        rw [if_neg hd, hb]
        exact ⟨fun h => absurd h.1 (by simp), fun _ => rfl⟩
    have HI : Hid (StrSt w m n w.heap.size w2.heap.size (w.alloc (.cells #[.map (some m)] 134)).heap.size (.slice ao ls.length cap) ls M (pre.map txt) W) := hi
    clear hT hb S0 b1 b2 b3 hi
    gi_wp2_with (refine ⟨trivial, ?_⟩; gi_at_call 145; refine (CallsIn.inRound l (callsIn_wide.2 hcs)).mono ?_)
    rintro e w' ⟨rfl, hw'⟩
    obtain rfl : W = w' := hw'.symm
    gi_wp2_with (refine ⟨trivial, ?_⟩; gi_at_call 126; refine (CallsIn.inRound l (callsIn_wide.2 hat)).mono ?_)
    rintro e w4 ⟨he, k4⟩
    clear hat hcs
    have d3 := cell_keeps k4 d1 (fun e => e)
    have d4 := cell_keeps k4 d2 (fun e => e)
    have HI4 : Hid (StrSt w m n w.heap.size w2.heap.size (w.alloc (.cells #[.map (some m)] 134)).heap.size (.slice ao ls.length cap) ls M (pre.map txt) w4) := HI.out.kept k4 (fun e => e) (fun e => e) (fun _ _ e => e) (fun e => e) (fun _ _ e => e)
    have HF : Hid (KeepsFrom W0.heap.size W w4 ∧ SplKp (w2.heap.size + 1) (w2.heap.size + 2) (w2.heap.size + 3) W w4) :=
      ⟨⟨k4.size, fun k o _ hk _ => k4.heap hk (fun e => e)⟩, k4.block _ (by omega) (fun e => e), k4.block _ (by omega) (fun e => e), k4.block _ (by omega) (fun e => e)⟩
    have HS4 : Hid (W0.heap.size ≤ w4.heap.size) := Nat.le_trans hW0 k4.size
    have HN : Hid ((∀ M', strike1 ls M' (txt ⟨x, hx⟩) = M') → StrSt w m n w.heap.size w2.heap.size (w.alloc (.cells #[.map (some m)] 134)).heap.size (.slice ao ls.length cap) ls M ((pre ++ [(⟨x, hx⟩ : TextK)]).map txt) w4) := fun hno => by
      have h := HI4.out
      obtain ⟨c', hc'⟩ := h.left
      refine ⟨h.l, h.to, h.row, ⟨c', ?_⟩, h.k⟩
      rw [List.map_append, List.map_cons, List.map_nil, strikes_snoc, hno]
      exact hc'
    rcases he with ⟨v, hv, rfl⟩ | ⟨v, ty, pv, hv, hb2, rfl⟩
    · by_cases hr : b = true ∧ 0 ≤ v ∧ v < ls.length
      · obtain ⟨hbt, hv0, hv1⟩ := hr
        subst hbt
        obtain ⟨k, rfl⟩ : ∃ k : Nat, v = k := ⟨v.toNat, by omega⟩
        have hkl : k < ls.length := by omega
        obtain ⟨g, rfl⟩ := hao (by omega)
        obtain ⟨a, ha⟩ : ∃ a, ls[k]? = some a := ⟨ls[k], List.getElem?_eq_getElem hkl⟩
        have ha! : ls[k]! = a := by
          rw [getElem!_pos ls k hkl]
          rw [List.getElem?_eq_getElem hkl] at ha
          exact Option.some.inj ha
        have hoa : okA a := ((HO.out.mem a).1 (List.mem_of_getElem? ha)).1
        have f0 := flat_at ls (k * 2) (by omega)
        have f1 := flat_at ls (k * 2 + 1) (by omega)
        have e0 : k * 2 / 2 = k := by omega
        have e1 : (k * 2 + 1) / 2 = k := by omega
        have e2 : k * 2 % 2 = 0 := by omega
        have e3 : (k * 2 + 1) % 2 = 1 := by omega
        rw [e0, e2, ha!] at f0
        rw [e1, e3, ha!] at f1
        have hrc := HI4.out.row.cells (g := g) rfl
        have hadd : ∀ j, (⟨g, 0, none⟩ : Addr).add j = ⟨g, j, none⟩ := fun j => by unfold Addr.add; split <;> simp_all
        have q0 : w4.cell? ⟨g, k * 2, none⟩ = some (.string ⟨a.1.toArray⟩) := by have := hrc _ _ f0; rw [hadd] at this; exact this
        have q1 : w4.cell? ⟨g, k * 2 + 1, none⟩ = some (.string ⟨a.2.toArray⟩) := by have := hrc _ _ f1; rw [hadd] at this; exact this
        obtain ⟨c4, hc4⟩ := HI4.out.left
        obtain ⟨w5, hrun, hL5, k5, hs5⟩ := (((Keeps.refl (fun _ => False) w4).drew).leftAt hc4 (fun e => e)).del a hoa 134 Tryz.underlying134 0
        obtain ⟨c5, hL5⟩ : ∃ c5, LeftAt w5 m n c5 (delA (strikes ls M (pre.map txt)) a) := ⟨_, hL5⟩
        have HL5 : Hid (∃ c, LeftAt w5 m n c (strikes ls M ((pre ++ [(⟨x, hx⟩ : TextK)]).map txt))) := by
          refine ⟨c5, ?_⟩
          rw [List.map_append, List.map_cons, List.map_nil, strikes_snoc]
          have hmk := (HMk.out k).1 ⟨rfl, hv⟩
          have : strike1 ls (strikes ls M (pre.map txt)) (txt ⟨x, hx⟩) = delA (strikes ls M (pre.map txt)) a := by
            unfold strike1
            rw [hmk]
            simp [ha]
          rw [this]
          exact hL5
        have K5 : Hid (Keeps (fun i => i = m) w4 w5 ∧ w5.heap.size = w4.heap.size) := ⟨⟨k5.os, k5.tape, k5.output, k5.size, k5.block⟩, hs5⟩
        have HE : Hid (KeepsFrom W0.heap.size W w5 ∧ SplKp (w2.heap.size + 1) (w2.heap.size + 2) (w2.heap.size + 3) W w5 ∧ StrSt w m n w.heap.size w2.heap.size (w.alloc (.cells #[.map (some m)] 134)).heap.size (.slice (some ⟨g, 0, none⟩) ls.length cap) ls M ((pre ++ [(⟨x, hx⟩ : TextK)]).map txt) w5 ∧ W0.heap.size ≤ w5.heap.size) := by
          obtain ⟨kk5, hs5'⟩ := K5.out
          have h := HI4.out
          have hs4 := HS4.out
          obtain ⟨p1, p2, p3⟩ := HF.out.2
          refine ⟨HF.out.1.trans ⟨kk5.size, fun i o hB hi _ => kk5.heap hi (fun e => by omega)⟩, ⟨(kk5.block _ (by omega) (fun e => by omega)).trans p1, (kk5.block _ (by omega) (fun e => by omega)).trans p2, (kk5.block _ (by omega) (fun e => by omega)).trans p3⟩, ⟨kk5.heap h.l (fun e => by omega), kk5.heap h.to (fun e => by omega), kk5.owns h.row (fun i hi e => by have := hown i hi; omega), HL5.out, h.k.trans kk5⟩, by omega⟩
        unfold addrV at hrun
        clear hL5 k5 hs5 hc4 HL5 K5
        clear f0 f1 e0 e1 e2 e3 hrc d1 d2 ha! hadd
        gi_wp2
        gi_region
        all_goals exact HE.out
      · have hst : ∀ M', strike1 ls M' (txt ⟨x, hx⟩) = M' := fun M' => by
          cases b with
          | false => exact strike_no ((HMk.out v).2 (.inl rfl))
          | true =>
            unfold strike1
            rw [(HMk.out v).1 ⟨rfl, hv⟩]
            by_cases h0 : 0 ≤ v
            · have : ls[v.toNat]? = none := List.getElem?_eq_none (by have : ¬ v < ls.length := fun h => hr ⟨rfl, h0, h⟩; omega)
              simp [this]
            · simp only [h0, if_false]
              split <;> rfl
        have HE := HN.out hst
        have HE2 : Hid (KeepsFrom W0.heap.size W w4 ∧ SplKp (w2.heap.size + 1) (w2.heap.size + 2) (w2.heap.size + 3) W w4 ∧ StrSt w m n w.heap.size w2.heap.size (w.alloc (.cells #[.map (some m)] 134)).heap.size (.slice ao ls.length cap) ls M ((pre ++ [(⟨x, hx⟩ : TextK)]).map txt) w4 ∧ W0.heap.size ≤ w4.heap.size) := ⟨HF.out.1, HF.out.2, HE, HS4.out⟩
        clear HE hst HMk HN
        cases b with
        | false =>
          clear hr
          gi_wp2
          exact HE2.out
        | true =>
          by_cases h0 : 0 ≤ v
          · have h1 : ¬ v < ls.length := fun h => hr ⟨rfl, h0, h⟩
            clear hr
            gi_wp2
            first
              | exact HE2.out
              | (have h := HE2.out
                 simp only [World.size_alloc, hsz] at h
                 exact h)
          · clear hr
            gi_wp2
            first
              | exact HE2.out
              | (have h := HE2.out
                 simp only [World.size_alloc, hsz] at h
                 exact h)
    · have HE := HN.out (fun M' => strike_no ((HMk.out v).2 (.inr hv)))
      have HE2 : Hid (KeepsFrom W0.heap.size W w4 ∧ SplKp (w2.heap.size + 1) (w2.heap.size + 2) (w2.heap.size + 3) W w4 ∧ StrSt w m n w.heap.size w2.heap.size (w.alloc (.cells #[.map (some m)] 134)).heap.size (.slice ao ls.length cap) ls M ((pre ++ [(⟨x, hx⟩ : TextK)]).map txt) w4 ∧ W0.heap.size ≤ w4.heap.size) := ⟨HF.out.1, HF.out.2, HE, HS4.out⟩
      clear HE HMk HN hv
      cases b with
      | false =>
        gi_wp2
        exact HE2.out
      | true =>
        gi_wp2
        exact HE2.out
  case done =>
    rintro D xs W hD hS ⟨hi, hW0⟩ hK
    have h2 := hi.kept (Keeps.ofGrown (grownBy_putObj' W D (.deferred none))) (fun e => by simp at e; omega) (fun e => by simp at e; omega) (fun g hg e => by simp at e; have := hown g hg; omega) (fun e => by simp at e; omega) (fun i hi' e => by simp at e; omega)
    obtain ⟨c', hc'⟩ := h2.left
    have HE : Hid (∃ ls c', Ordered M ls ∧ LeftAt (W.putObj D (.deferred none)) m n c' (strikes ls M (splits marks.data.toList)) ∧ Keeps (fun k => k = m) w (W.putObj D (.deferred none))) := ⟨ls, c', HO.out, by rw [← hS]; exact hc', h2.k⟩
    clear h2 hc' hi
    gi_wp2
    refine ⟨by simp, .inl ⟨_, _, rfl, run_takeDeferred hK, ?_⟩⟩
    exact ⟨_, results_none rfl _ _ _, rfl, HE.out⟩

end Go.Proofs.YtegbkpjcjlihmabGreatDoor
