/-
  The order of letters.
-/
import Derived.Test.YtegbkpjcjlihmabGreatDoorSrt
import Derived.Test.YtegbkpjcjlihmabGreatDoorBxb
import Derived.StillTailTactics
namespace Go.Proofs.YtegbkpjcjlihmabGreatDoor
open Go.RowKit Go.Sort Go.Lib

/-- cmp.Or of two -/
def or2 (x y : Int) : Int := if x = 0 then y else x

theorem cmpB_range : ∀ a b : List UInt8, compareBytes a b = -1 ∨ compareBytes a b = 0 ∨ compareBytes a b = 1
  | [], [] => .inr (.inl rfl)
  | [], _ :: _ => .inl rfl
  | _ :: _, [] => .inr (.inr rfl)
  | a :: xs, b :: ys => by
    unfold compareBytes
    split
    · exact .inl rfl
    · split
      · exact .inr (.inr rfl)
      · exact cmpB_range xs ys

theorem cmpB_refl : ∀ a : List UInt8, compareBytes a a = 0
  | [] => rfl
  | a :: xs => by
    unfold compareBytes
    rw [if_neg (by simp), if_neg (by simp)]
    exact cmpB_refl xs

theorem cmpB_eq : ∀ a b : List UInt8, compareBytes a b = 0 → a = b
  | [], [], _ => rfl
  | [], _ :: _, h => by simp [compareBytes] at h
  | _ :: _, [], h => by simp [compareBytes] at h
  | a :: xs, b :: ys, h => by
    unfold compareBytes at h
    split at h
    · omega
    · rename_i h1
      split at h
      · omega
      · rename_i h2
        have e : a = b := by
          rw [UInt8.lt_iff_toNat_lt] at h1 h2
          exact UInt8.toNat_inj.1 (by omega)
        rw [e, cmpB_eq xs ys h]

theorem cmpB_trans : ∀ a b c : List UInt8, compareBytes a b < 0 → compareBytes b c < 0 → compareBytes a c < 0
  | [], [], _, h, _ => by simp [compareBytes] at h
  | [], _ :: _, [], _, h => by simp [compareBytes] at h
  | [], _ :: _, _ :: _, _, _ => by simp [compareBytes]
  | _ :: _, [], _, h, _ => by simp [compareBytes] at h
  | _ :: _, _ :: _, [], _, h => by simp [compareBytes] at h
  | a :: xs, b :: ys, c :: zs, h1, h2 => by
    unfold compareBytes at h1 h2 ⊢
    simp only [UInt8.lt_iff_toNat_lt] at *
    split at h1
    · split at h2
      · rw [if_pos (by omega)]; omega
      · split at h2
        · omega
        · rw [if_pos (by omega)]; omega
    · split at h1
      · omega
      · split at h2
        · rw [if_pos (by omega)]; omega
        · split at h2
          · omega
          · rw [if_neg (by omega), if_neg (by omega)]
            exact cmpB_trans xs ys zs h1 h2

theorem cmpB_anti : ∀ a b : List UInt8, compareBytes b a = - compareBytes a b
  | [], [] => rfl
  | [], _ :: _ => rfl
  | _ :: _, [] => rfl
  | a :: xs, b :: ys => by
    have ih := cmpB_anti xs ys
    unfold compareBytes
    simp only [UInt8.lt_iff_toNat_lt]
    by_cases h1 : a.toNat < b.toNat
    · have h2 : ¬ b.toNat < a.toNat := by omega
      simp [h1, h2]
    · by_cases h2 : b.toNat < a.toNat
      · simp [h1, h2]
      · simp [h1, h2, ih]

abbrev Ltr := List UInt8 × List UInt8
/-- how letters are held against each other -/
def cmpL2 (x y : Ltr) : Int := or2 (compareBytes x.1 y.1) (compareBytes x.2 y.2)

theorem cmpL2_eq {x y : Ltr} (h : cmpL2 x y = 0) : x = y := by
  unfold cmpL2 or2 at h
  split at h
  · rename_i e
    exact Prod.ext (cmpB_eq _ _ e) (cmpB_eq _ _ h)
  · rename_i e; exact absurd h e

theorem cmpL2_anti (x y : Ltr) : cmpL2 y x = - cmpL2 x y := by
  unfold cmpL2 or2
  rw [cmpB_anti x.1 y.1, cmpB_anti x.2 y.2]
  by_cases h : compareBytes x.1 y.1 = 0
  · rw [if_pos (by omega), if_pos h]
  · rw [if_neg (by omega), if_neg h]

theorem cmpL2_trans {x y z : Ltr} (h1 : cmpL2 x y < 0) (h2 : cmpL2 y z < 0) : cmpL2 x z < 0 := by
  unfold cmpL2 or2 at *
  split at h1
  · rename_i e1
    rw [cmpB_eq _ _ e1]
    split at h2
    · rename_i e2
      rw [if_pos e2]; exact cmpB_trans _ _ _ h1 h2
    · rename_i e2
      rw [if_neg e2]; exact h2
  · rename_i e1
    split at h2
    · rename_i e2
      rw [← cmpB_eq _ _ e2, if_neg e1]; exact h1
    · have := cmpB_trans _ _ _ h1 h2
      rw [if_neg (by omega)]; exact this

theorem swoL : SWO (ltOf cmpL2) where
  irrefl x := by
    have : cmpL2 x x = 0 := by
      unfold cmpL2 or2
      rw [cmpB_refl, if_pos rfl, cmpB_refl]
    simp [ltOf, this]
  trans x y z h1 h2 := by
    simp only [ltOf, decide_eq_true_eq] at *
    exact cmpL2_trans h1 h2
  ntrans x y z h1 h2 := by
    simp only [ltOf, decide_eq_false_iff_not] at *
    intro h
    rcases Int.lt_trichotomy (cmpL2 x y) 0 with h3 | h3 | h3
    · exact h1 h3
    · rw [cmpL2_eq h3] at h
      exact h2 h
    · have h4 : cmpL2 y x < 0 := by rw [cmpL2_anti]; omega
      exact h2 (cmpL2_trans h4 h)

theorem totL (x y : Ltr) (h1 : ltOf cmpL2 x y = false) (h2 : ltOf cmpL2 y x = false) : x = y := by
  simp only [ltOf, decide_eq_false_iff_not] at *
  rw [cmpL2_anti] at h2
  exact cmpL2_eq (by omega)

set_option maxHeartbeats 1000000 in
theorem or_any (b : Nat) (x y : Int) (W : World) (h0 : W.cell? ⟨b, 0, none⟩ = some (.int .i64 x)) (h1 : W.cell? ⟨b, 1, none⟩ = some (.int .i64 y)) :
    Calls Tryz.prog 106 #[.slice (some ⟨b, 0, none⟩) 2 2] W fun e w' => e = .returned (.int .i64 (or2 x y)) ∧ w' = W := by
  go_enter Tryz.func106, Tryz.ntmps106
  go_wp2_with fail
  go_loopw [8] (fun t8 wr => ∃ i : Nat, i ≤ 2 ∧ t8 = .int .i64 i ∧ wr = W ∧ (1 ≤ i → x = 0) ∧ (2 ≤ i → y = 0)) (fun t8 _ => 2 - (intOf t8).toNat)
  case atStart => exact ⟨0, by omega, rfl, rfl, by omega, by omega⟩
  case round =>
    obtain ⟨i, hi, rfl, rfl, hx, hy⟩ := hrel
    match i, hi with
    | 0, _ =>
      clear hx hy
      by_cases hx0 : x = 0
      · subst hx0
        go_wp2
        go_roundw
        case rel => refine ⟨1, by omega, by go_num, ?_, ?_, ?_⟩ <;> simp
        case measure => simp [intOf]
      · have hx' : (x == 0) = false := beq_eq_false_iff_ne.2 hx0
        go_wp2
        go_ret
        exact ⟨by rw [or2, if_neg hx0]; rfl, rfl⟩
    | 1, _ =>
      have ex := hx (by omega)
      clear hx hy
      subst ex
      by_cases hy0 : y = 0
      · subst hy0
        go_wp2
        go_roundw
        case rel => refine ⟨2, by omega, by go_num, ?_, ?_, ?_⟩ <;> simp
        case measure => simp [intOf]
      · have hy' : (y == 0) = false := beq_eq_false_iff_ne.2 hy0
        go_wp2
        go_ret
        exact ⟨by rw [or2, if_pos rfl]; rfl, rfl⟩
    | 2, _ =>
      have ex := hx (by omega)
      have ey := hy (by omega)
      clear hx hy
      subst ex ey
      go_wp2
      go_ret
      exact ⟨rfl, rfl⟩

/-- a letter's two cells -/
def encL (x : Ltr) : List Value := [.string ⟨x.1.toArray⟩, .string ⟨x.2.toArray⟩]

set_option maxHeartbeats 4000000 in
set_option maxRecDepth 100000 in
theorem cmp_any (x y : Ltr) (W : World) : Calls Tryz.prog 105 #[.agg #[.string ⟨x.1.toArray⟩, .string ⟨x.2.toArray⟩], .agg #[.string ⟨y.1.toArray⟩, .string ⟨y.2.toArray⟩]] W fun e w' => e = .returned (.int .i64 (cmpL2 x y)) ∧ ∃ q os', w' = grow (W.drewN q) os' := by
  obtain ⟨a, ha⟩ : ∃ a : ByteArray, a = ⟨x.1.toArray⟩ := ⟨_, rfl⟩
  obtain ⟨b, hb⟩ : ∃ a : ByteArray, a = ⟨x.2.toArray⟩ := ⟨_, rfl⟩
  obtain ⟨c, hc⟩ : ∃ a : ByteArray, a = ⟨y.1.toArray⟩ := ⟨_, rfl⟩
  obtain ⟨d, hd⟩ : ∃ a : ByteArray, a = ⟨y.2.toArray⟩ := ⟨_, rfl⟩
  have H : Hid (cmpL2 x y = or2 (compareBytes a.data.toList c.data.toList) (compareBytes b.data.toList d.data.toList)) := by
    rw [ha, hb, hc, hd]; rfl
  rw [← ha, ← hb, ← hc, ← hd]
  have c1 := fun W' => Tryz.strings_Compare a c W'
  have c2 := fun W' => Tryz.strings_Compare b d W'
  generalize compareBytes a.data.toList c.data.toList = r1 at *
  generalize compareBytes b.data.toList d.data.toList = r2 at *
  clear ha hb hc hd
  have hm := mixed
  have e0 : ((W.alloc (.cells #[.string a, .string b] 142)).alloc (.cells #[.string c, .string d] 142)).heap[W.heap.size]? = some (.cells #[.string a, .string b] 142) := ((Keeps.refl (fun _ => False) _).alloc _).heap (heap_new W _) (fun e => e)
  have e1 : ((W.alloc (.cells #[.string a, .string b] 142)).alloc (.cells #[.string c, .string d] 142)).heap[W.heap.size + 1]? = some (.cells #[.string c, .string d] 142) := by
    have := heap_new (W.alloc (.cells #[.string a, .string b] 142)) (.cells #[.string c, .string d] 142)
    have e : (W.alloc (.cells #[.string a, .string b] 142)).heap.size = W.heap.size + 1 := by simp
    rwa [e] at this
  obtain ⟨q0, q1, _, _⟩ := cells2 e0
  obtain ⟨q2, q3, _, _⟩ := cells2 e1
  have HW : Hid (((W.alloc (.cells #[.string a, .string b] 142)).alloc (.cells #[.string c, .string d] 142)) = grow (W.drewN 0) #[.cells #[.string a, .string b] 142, .cells #[.string c, .string d] 142]) := by
    show _ = _
    rw [alloc_eq_grow, alloc_eq_grow, grow_grow]; rfl
  clear e0 e1
  go_enter Tryz.func105, Tryz.ntmps105
  go_wp2_with fail
  generalize (W.alloc (.cells #[.string a, .string b] 142)).alloc (.cells #[.string c, .string d] 142) = w2 at *
  refine wp_region_still_tail 10 hm (by kernel_rfl) ?_
  simp only [List.take_succ_cons, List.take_zero, List.drop_succ_cons, List.drop_zero]
  still_step
  still_step
  still_step
  still_step
  still_call (c1 _)
  still_step
  still_step
  still_step
  still_step
  still_call (c2 _)
  refine wpStill_nil ?_
  go_wp2_with fail
  obtain ⟨g0, g1, _, _⟩ := cells2 (heap_new w2 (.cells #[.int .i64 r1, .int .i64 r2] 3))
  refine (or_any w2.heap.size r1 r2 (w2.alloc (.cells #[.int .i64 r1, .int .i64 r2] 3)).drew g0 g1).mono ?_
  rintro e w' ⟨rfl, rfl⟩
  go_wp2_with fail
  go_ret
  refine ⟨by rw [H.out]; rfl, 1, #[.cells #[.string a, .string b] 142, .cells #[.string c, .string d] 142] ++ #[.cells #[.int .i64 r1, .int .i64 r2] 3], ?_⟩
  rw [HW.out, alloc_eq_grow, grow_grow]
  rfl

theorem cmpLays (blk off size : Nat) (w : World) : CmpLays Tryz.prog 105 #[] encL 2 cmpL2 blk off size w :=
  fun _ _ _ _ x y => cmp_any x y _

/-- letters, sorted -/
def sortL (l : List Ltr) : List Ltr := l.mergeSort fun x y => !(ltOf cmpL2) y x

theorem sort_any (blk cap : Nat) (l : List Ltr) (w : World) (hH : HoldsK encL 2 w blk 0 l.toArray) (hblk : blk < w.heap.size) (hsz : l.length < 4611686018427387904) :
    Calls Tryz.prog 104 #[.slice (some ⟨blk, 0, none⟩) l.length cap, .func (.func 105) #[] #[]] w fun e w' => e = .returned (.tuple #[]) ∧ ∃ n os, w' = sortWorldK encL 2 w blk 0 n (sortL l).toArray os := by
  have eg : ∀ args w, (callFunc 105 args).run Tryz.prog w = .ok (.enter 105 args) w := enters_of Tryz.func105 (by kernel_rfl) rfl
  have hcon := AnyQ.slices_SortFunc_total Tryz.sortL 2 Tryz.isAgg142 Tryz.sizeOf142 encL (fun _ => rfl) (fun x v hv => by simp [encL] at hv; rcases hv with rfl | rfl <;> rfl) cmpL2 swoL 105 #[] blk 0 cap l.toArray w eg (cmpLays blk 0 _ w) hH hblk (by simpa using hsz) totL
  change Calls Tryz.prog 104 _ _ _ at hcon
  simpa [sortL] using hcon

theorem sort_none (p : Option Addr) (cap : Nat) (fv : Value) (w : World) : Calls Tryz.prog 104 #[.slice p 0 cap, fv] w fun e w' => e = .returned (.tuple #[]) ∧ w' = w :=
  AnyF.slices_SortFunc_none Tryz.sortL p cap fv w

theorem owns_putRow {w : World} {base : Nat} {e : TypeId} {size g n cap q : Nat} {xs ys : List Value} (h : w.ownsRow base e size (.slice (some ⟨g, 0, none⟩) n cap) n xs) (hy : ys.length = n * size) :
    (putRow id (Sort.ahead w q) g 0 ys.toArray).ownsRow base e size (.slice (some ⟨g, 0, none⟩) n cap) n ys := by
  rcases h.2 with ⟨e0, _⟩ | ⟨g', cap', cur, e0, hb, hg, hn, hm, hs, ht⟩
  · cases e0
  · injection e0 with e1 _ e3
    injection e1 with e1
    injection e1 with e1
    subst e1; subst e3
    have hle : n * size ≤ cur.size := by rw [hs]; exact Nat.mul_le_mul_right _ hn
    refine ⟨hy, .inr ⟨g, cap, putCells id 0 ys.toArray cur, rfl, hb, ?_, hn, hm, by simpa [putCells] using hs, ?_⟩⟩
    · simp [putRow, mapBlock, Sort.ahead, Array.getElem?_modify, hg, onCells]
    · apply List.ext_getElem?
      intro j
      rw [List.getElem?_take, Array.getElem?_toList]
      by_cases hj : j < n * size
      · have hjc : j < cur.size := by omega
        simp only [if_pos hj, putCells, Array.getElem?_mapIdx, Array.getElem?_eq_getElem hjc, Option.map_some]
        rw [if_pos (by simp; omega), List.getElem?_eq_getElem (by omega)]
        simp [getElem!_pos, show j < ys.length by omega]
      · rw [if_neg hj, List.getElem?_eq_none (by omega)]

theorem flat_at : ∀ (l : List Ltr) (t : Nat), t < l.length * 2 → (l.flatMap encL)[t]? = some (encL l[t / 2]!)[t % 2]!
  | [], t, h => by simp at h
  | x :: l, 0, _ => by simp [encL]
  | x :: l, 1, _ => by simp [encL]
  | x :: l, t + 2, h => by
    have ih := flat_at l t (by simp at h; omega)
    have e1 : (t + 2) / 2 = t / 2 + 1 := by omega
    have e2 : (t + 2) % 2 = t % 2 := by omega
    rw [e1, e2]
    have e3 : ((x :: l).flatMap encL)[t + 2]? = (l.flatMap encL)[t]? := by simp [encL]
    rw [e3, ih]
    simp

theorem flat_len (l : List Ltr) : (l.flatMap encL).length = l.length * 2 := by
  induction l with
  | nil => rfl
  | cons x l ih => simp [encL] at *; omega

theorem flatK_eq (l : List Ltr) : flatK encL 2 l.toArray = (l.flatMap encL).toArray := by
  apply Array.ext
  · rw [size_flatK]
    show _ = (l.flatMap encL).length
    rw [flat_len]; rfl
  · intro i h1 h2
    have hi : i < l.length * 2 := by simpa using h1
    have := flat_at l i hi
    rw [List.getElem?_eq_getElem (by rw [flat_len]; exact hi)] at this
    have h3 := get_flatK encL 2 l.toArray i (by simpa using hi)
    rw [getElem!_pos _ i h1] at h3
    rw [h3]
    have h4 := Option.some.inj this
    simp only [List.getElem_toArray]
    rw [h4]
    simp

/-- a row of letters that was made -/
def RowL (w : World) (base : Nat) (v : Value) (l : List Ltr) : Prop := w.ownsRow base 142 2 v l.length (l.flatMap encL)

theorem holdsL {w : World} {base g n cap : Nat} {l : List Ltr} (h : w.ownsRow base 142 2 (.slice (some ⟨g, 0, none⟩) n cap) n (l.flatMap encL)) : HoldsK encL 2 w g 0 l.toArray := by
  unfold HoldsK
  rw [flatK_eq]
  intro j hj
  have hj' : j < (l.flatMap encL).length := by simpa using hj
  rcases h.2 with ⟨e0, _⟩ | ⟨g', cap', cur, e0, hb, hg, hn, hm, hs, ht⟩
  · cases e0
  · injection e0 with e1 _ e3
    injection e1 with e1
    injection e1 with e1
    subst e1; subst e3
    refine ⟨?_, by simp [World.frozen?, hg]⟩
    have e1 : (cur.toList.take (n * 2))[j]? = (l.flatMap encL)[j]? := by rw [ht]
    rw [List.getElem?_take, if_pos (by rw [← h.1]; exact hj'), Array.getElem?_toList, List.getElem?_eq_getElem hj'] at e1
    simp only [World.cell?, hg, Nat.zero_add]
    simp only [Option.isSome_none, Bool.false_eq_true, if_false]
    rw [e1]
    show some (l.flatMap encL)[j] = some (id ((l.flatMap encL).toArray[j]!))
    rw [getElem!_pos _ j hj]
    rfl

theorem sortL_length (l : List Ltr) : (sortL l).length = l.length := List.length_mergeSort l

theorem sorted_row {w : World} {base g cap q : Nat} {os : Array Obj} {l : List Ltr} (h : RowL w base (.slice (some ⟨g, 0, none⟩) l.length cap) l) (_hg : g < w.heap.size) :
    RowL (sortWorldK encL 2 w g 0 q (sortL l).toArray os) base (.slice (some ⟨g, 0, none⟩) l.length cap) (sortL l) ∧ Keeps (fun k => k = g) w (sortWorldK encL 2 w g 0 q (sortL l).toArray os) := by
  have hp : Keeps (fun k => k = g) w (putRowK encL 2 (Sort.ahead w q) g 0 (sortL l).toArray) :=
    ⟨rfl, rfl, rfl, by simp [putRowK, putRow, mapBlock, Sort.ahead], fun k hk hn => by simp [putRowK, putRow, mapBlock, Sort.ahead, Array.getElem?_modify, show g ≠ k from fun e => hn e.symm]⟩
  have hgr : Fresh (putRowK encL 2 (Sort.ahead w q) g 0 (sortL l).toArray) (sortWorldK encL 2 w g 0 q (sortL l).toArray os) := fresh_grow _ 0 os
  refine ⟨?_, hp.trans hgr.ofFresh⟩
  unfold RowL
  rw [sortL_length]
  have h1 : (putRowK encL 2 (Sort.ahead w q) g 0 (sortL l).toArray).ownsRow base 142 2 (.slice (some ⟨g, 0, none⟩) l.length cap) l.length ((sortL l).flatMap encL) := by
    unfold putRowK
    rw [flatK_eq]
    exact owns_putRow h (by rw [flat_len, sortL_length])
  exact hgr.owns h1 (fun _ _ e => e)

end Go.Proofs.YtegbkpjcjlihmabGreatDoor
