/-
  Who is left, in order: the walk. | Who is left, in order: list. | Who is left, in order: list. | list: who is left, in order.
-/
import Derived.Test.YtegbkpjcjlihmabGreatDoorGl
import Derived.Test.YtegbkpjcjlihmabGreatDoorRfl
import Derived.Maps.AppendAt
import Derived.Test.YtegbkpjcjlihmabGreatDoorGk
import Derived.Test.YtegbkpjcjlihmabGreatDoorGg
namespace Go.Proofs.YtegbkpjcjlihmabGreatDoor
open Go.RowKit Go.Maps Go.ChangeMaps Go.WideMaps Go.Sort Go.Shelf
attribute [local go_sem] Oper.semAt_some

set_option maxRecDepth 100000 in
set_option maxHeartbeats 1000000 in
theorem keysA_seq (Bm b nn n : Nat) (D0 : DataW Nat) (w : World) (hn : 1 ≤ n) (hBm : Bm < w.heap.size) (hm : w.cell? ⟨Bm, 0, none⟩ = some (.map (some b))) (hown : w.ownsMap Tryz.prog 56 placeR b nn D0) :
    SeqCell Tryz.prog n 140 #[.pointer (some ⟨Bm, 0, none⟩)] (fun x : AddrK => addrV x.1) (fun ss => CollA D0 (fun _ => false) ss) (fun pre => pre.length < Maps.size D0) (fun _ => False) KeepsWalks w := by
  intro l J W hW hJ _ hY h0
  have hown' : W.ownsMap Tryz.prog 56 placeR b nn D0 := by
    have hbl := hown.lt
    obtain ⟨es, clock, hb, Ft, hs, hD⟩ := hown
    exact ⟨es, clock, (hW.block b hbl).trans hb, Ft, hs, hD⟩
  have hm' : W.cell? ⟨Bm, 0, none⟩ = some (.map (some b)) := (hW.cell (p := ⟨Bm, 0, none⟩) hBm).trans hm
  clear hown hm
  have ok : (∀ v y, placeR v = some y → ∃ c : Int, v = .int .i64 c) := fun v y h => by
    unfold placeR at h
    split at h
    · exact ⟨_, rfl⟩
    · cases h
  refine callsIn_of_wp Tryz.func140 rfl trivial ?_ rfl
  simp only [Tryz.ntmps140, List.size_toArray, List.length_cons, List.length_nil, Nat.reduceAdd, Nat.reduceSub, Array.replicate_succ, Array.replicate_zero, List.push_toArray, List.append_toArray, List.nil_append, List.cons_append]
  gi_wp2_with (first
    | (gi_at_range; refine wpListIn_range_own _ rfl _ 134 rfl 56 3 law56 Tryz.underlying134 _ b nn _ rfl hown' ?_; intro w0 hrg0 hg0 hs0)
    | gi_in)
  try go_frame
  gi_loopw [3] (fun _ wr => ∃ (left : Lit → Bool) (cnt : Nat) (ss : List AddrK), wr.ranges Tryz.prog 56 placeR b W.heap.size nn D0 left cnt ∧ ss.length + cnt ≤ Maps.size D0 ∧ CollA D0 left ss ∧ J ss wr)
    (fun _ wr => wr.rangeLeft b W.heap.size)
  case atStart =>
    exact ⟨_, _, [], hrg0, by simp, CollA.start D0, hJ [] W w0 none h0 hg0 (fun r e => by cases e)⟩
  case round =>
    obtain ⟨left, cnt, ss, hrg, hcs, hC, hJs⟩ := hrel
    gi_wp2_with (first
      | (gi_at_next; refine wpListIn_next_ranges _ rfl _ rfl 56 law56 placeR (fun x : AddrK => addrV x.1) (fun c : Int => Value.int .i64 c) (fun key kl hk => by obtain ⟨x, hx, _⟩ := keyA_inv hk; exact ⟨x, hx⟩) ok b W.heap.size nn _ _ _ rfl hrg ?_ ?_)
      | gi_in)
    · intro hc0 hl0
      gi_wp2
      go_end0
      refine ⟨⟨_, rfl⟩, ss, ?_, hJs⟩
      refine ⟨hC.1, fun p hp => ?_⟩
      rw [hC.2 p hp, hl0]
    · intro xa xb hx c kl yd yp w2 cnt2 hkey hlk hv hat hrg2 hlt hg2 hs2 hen
      obtain rfl : keyA (xa, xb) = kl := Option.some.inj ((keyA_at (xa, xb) hx).symm.trans hkey)
      have hJ2 : J ss w2 := hJ ss wr w2 (some W.heap.size) hJs hg2 (fun r e => by cases e; exact ⟨Nat.le_refl _, hrg.iter_walk⟩)
      have hJ4 : J ss (w2.alloc (.cells #[.string ⟨xa.toArray⟩, .string ⟨xb.toArray⟩] 56)) := hJ ss w2 _ none hJ2 (World.grownBy_alloc _ _ none) (fun r e => by cases e)
      have hrg4 := hrg2.of_walks (KeepsWalks.alloc w2 (.cells #[.string ⟨xa.toArray⟩, .string ⟨xb.toArray⟩] 56))
      obtain ⟨fn, tmps, assign, body, hy, hR⟩ := hY ss ⟨(xa, xb), hx⟩ _ hJ4 (by show _ < _; omega)
      have hC2 := hC.step (x := ⟨(xa, xb), hx⟩) hlk hat
      clear hs2
      unfold addrV at *
      dsimp only at hy
      gi_wp2
      refine hR.mono ?_
      rintro e W3 ⟨rfl, hJ3, hk3⟩
      gi_wp2
      have hrg3 := hrg4.of_walks hk3
      go_roundw
      case rel => exact ⟨_, cnt2, ss ++ [⟨(xa, xb), hx⟩], hrg3, by simp; omega, hC2, hJ3⟩
      case measure => rw [hrg3.left_eq, hrg.left_eq]; exact hlt

/-- maps.Keys -/
theorem keysA_any (m : Option Nat) (w : World) : Calls Tryz.prog 121 #[.map m] w fun e w' => e = .returned (.func (.func 140) #[] #[.pointer (some ⟨w.heap.size, 0, none⟩)]) ∧ w' = w.alloc (.cells #[.map m] 134) := by
  go_enter Tryz.func121, Tryz.ntmps121
  go_wp2_with fail
  go_ret
  exact ⟨rfl, rfl⟩

/-- a row of addresses -/
def RowA (w : World) (base : Nat) (v : Value) (l : List Ltr) : Prop := w.ownsRow base 56 2 v l.length (l.flatMap encL)

theorem rowA_snoc {l : List Ltr} {x : Ltr} : (l ++ [x]).flatMap encL = l.flatMap encL ++ [.string ⟨x.1.toArray⟩, .string ⟨x.2.toArray⟩] := by
  rw [List.flatMap_append]; simp [encL]

end Go.Proofs.YtegbkpjcjlihmabGreatDoor

namespace Go.Proofs.YtegbkpjcjlihmabGreatDoor
open Go.RowKit Go.Maps Go.ChangeMaps Go.WideMaps Go.Sort Go.Shelf
attribute [local go_sem] Oper.semAt_some

def valsOf (ss : List AddrK) : List Ltr := ss.map (·.1)

theorem valsOf_snoc (ss : List AddrK) (x : AddrK) : valsOf (ss ++ [x]) = valsOf ss ++ [x.1] := by simp [valsOf]

set_option maxRecDepth 100000 in
set_option maxHeartbeats 2000000 in
theorem appendSeqA (w : World) (Bm b nn : Nat) (D0 : DataW Nat) (hN : Maps.size D0 ≤ 1099511627776) (hBm : Bm < w.heap.size) (hm : w.cell? ⟨Bm, 0, none⟩ = some (.map (some b))) (hown : w.ownsMap Tryz.prog 56 placeR b nn D0) :
    Calls Tryz.prog 177 #[.slice none 0 0, .func (.func 140) #[] #[.pointer (some ⟨Bm, 0, none⟩)]] w fun e w' => ∃ (v : Value) (ss : List AddrK), e = .returned v ∧ CollA D0 (fun _ => false) ss ∧ ss.length ≤ Maps.size D0 ∧ RowA w' w.heap.size v (valsOf ss) ∧ Below w.heap.size w w' := by
  refine (callsIn_wide (n := 5)).1 ?_
  obtain ⟨i0, z0, hi, hz0, hz3, hz1, hz2⟩ := info56'
  have bO := _root_.Go.Boxed.new w 57 (.slice none 0 0)
  have hB0 : Below w.heap.size w (w.alloc (.cells #[.slice none 0 0] 57)) := (Below.refl _ w).alloc (Nat.le_refl _) _
  have hown0 : (w.alloc (.cells #[.slice none 0 0] 57)).ownsMap Tryz.prog 56 placeR b nn D0 := by
    have hbl := hown.lt
    obtain ⟨es, clock, hb, Ft, hs, hD⟩ := hown
    exact ⟨es, clock, (hB0.block b hbl).trans hb, Ft, hs, hD⟩
  have hseq := keysA_seq Bm b nn 4 D0 (w.alloc (.cells #[.slice none 0 0] 57)) (by omega) (by simp; omega) ((hB0.cell (p := ⟨Bm, 0, none⟩) hBm).trans hm) hown0
  refine callsIn_of_wp_marks Tryz.func177 rfl trivial ?_ rfl
  simp only [Tryz.ntmps177, List.size_toArray, List.length_cons, List.length_nil, Nat.reduceAdd, Nat.reduceSub, Array.replicate_succ, Array.replicate_zero, List.push_toArray, List.append_toArray, List.nil_append, List.cons_append]
  gi_wp2
  generalize hW0 : w.alloc (.cells #[.slice none 0 0] 57) = W0 at *
  have hsz : W0.heap.size = w.heap.size + 1 := by rw [← hW0]; simp
  refine rangeFunc_cell (n := 5) (by omega) (gf := 140) (lb := #[.pointer (some ⟨Bm, 0, none⟩)]) rfl (enters_of Tryz.func140 (by kernel_rfl) rfl) hseq rfl walksK_t walksK_b (fun _ h => h.elim)
    (fun ss W => (∃ v, _root_.Go.Boxed W w.heap.size 57 v ∧ W.ownsRow w.heap.size 56 2 v (valsOf ss).length ((valsOf ss).flatMap encL) ∧ True) ∧ Below w.heap.size w W ∧ ss.length ≤ Maps.size D0)
    (OwnFrom.and (Own.from (holdsRow_own w.heap.size w.heap.size 57 56 2 (fun ss => (valsOf ss).length) (fun ss => (valsOf ss).flatMap encL) (fun _ _ => True)) _) (OwnFrom.and (ownFrom_below (Nat.le_refl _) (by omega)) (ownFrom_pure _ _)))
    (fun _ h => h.elim)
    ⟨⟨_, bO, World.ownsRow_nil _ _ _ _, trivial⟩, hB0, Nat.zero_le _⟩
    (fun x a' W => ∃ Bx, w.heap.size < Bx ∧ W.heap[Bx]? = some (.cells #[.string ⟨x.1.1.toArray⟩, .string ⟨x.1.2.toArray⟩] 56 (0, 0)) ∧ a' = { tmps := #[.slice none 0 0, .func (.func 140) #[] #[.pointer (some ⟨Bm, 0, none⟩)], .pointer (some ⟨w.heap.size, 0, none⟩), undef, .slice none 0 0, .pointer (some ⟨Bx, 0, none⟩), .func (.func 140) #[] #[.pointer (some ⟨Bm, 0, none⟩)], addrV x.1, undef, undef, undef, undef, undef], defers := [] })
    ?hAx ?assign ?body ?done
  case hAx =>
    rintro x a' W l o o' ⟨Bx, h1, h2, h3⟩ hl ho
    refine ⟨Bx, h1, ?_, h3⟩
    have hne : l ≠ Bx := fun e => by rw [e, h2] at ho; cases ho
    exact (World.putObj_heap_other (fun e => hne e.symm)).trans h2
  case assign =>
    rintro l pre ⟨⟨xa, xb⟩, hx⟩ W K ⟨⟨v, hv, hrow, _⟩, hB, hle⟩ hK
    unfold addrV at *
    gi_wp2
    exact hK _ _ ((KeepsOthers.alloc _ _).from _) (KeepsWalks.alloc _ _) ⟨⟨v, hv.alloc _, hrow.alloc _, trivial⟩, hB.alloc hB.size _, hle⟩ ⟨W.heap.size, hv.lt, heap_new _ _, rfl⟩
  case body =>
    rintro l pre ⟨⟨xa, xb⟩, hx⟩ a' W ⟨⟨v, hv, hrow, _⟩, hB, hle⟩ hlt ⟨Bx, hBx, hX, rfl⟩
    have hc := hv.cell
    obtain ⟨q0, q1, _, _⟩ := cells2 hX
    obtain ⟨n0, n1, _, _⟩ := cells2 (heap_new W (.cells #[.string ⟨xa.toArray⟩, .string ⟨xb.toArray⟩] 56))
    have hnews : ∀ j u, [Value.string ⟨xa.toArray⟩, Value.string ⟨xb.toArray⟩][j]? = some u → (W.alloc (.cells #[.string ⟨xa.toArray⟩, .string ⟨xb.toArray⟩] 56)).cell? ((⟨W.heap.size, 0, none⟩ : Addr).add j) = some u := fun j u hj => by
      match j, hj with
      | 0, hj => simp at hj; subst hj; exact n0
      | 1, hj => simp at hj; subst hj; exact n1
      | j + 2, hj => simp at hj
    have HVL : Hid ((valsOf pre).length = pre.length) := by show _ = _; simp [valsOf]
    have hvl : (valsOf pre).length ≤ pre.length := Nat.le_of_eq HVL.out
    have hlt' : pre.length < Maps.size D0 := hlt
    have HX : Hid (valsOf (pre ++ [⟨(xa, xb), hx⟩]) = valsOf pre ++ [(xa, xb)]) := valsOf_snoc pre _
    unfold addrV at *
    clear n0 n1
    gi_wp2_with (gi_at_builtin; refine wpListIn_append_own _ rfl _ _ 57 rfl w.heap.size 56 i0 z0 2 32 Tryz.underlying57 hi hz0 hz1 hz2 hz3 (by decide) _ _ _ rfl (hrow.alloc _) ⟨W.heap.size, 0, none⟩ 1 1 [.string ⟨xa.toArray⟩, .string ⟨xb.toArray⟩] rfl rfl hnews (by simp [Value.oneCell']) (by unfold maxLen; omega) (by omega) (by have := hB.size; simp; omega) ?_; intro v' w1 hown' hgrow _; obtain ⟨g', cap', rfl⟩ := ownsRow_succ hown'; obtain ⟨hv1, hv2, hr2, hk2, hb2⟩ := hv.appended (by decide) hrow hB.size (Nat.le_refl _) hown' hgrow; have hc1 := hv1.cell; have hf1 := hv1.frozen)
    refine ⟨hk2.from _, ⟨hk2.size, fun k o hk hw => hk2.same k o hk (Obj.not_cells_of_walk hw)⟩, ⟨_, hv2, ?_⟩, hB.trans hb2, ?_⟩
    · rw [HX.out, rowA_snoc, List.length_append]
      exact hr2
    · rw [List.length_append]
      exact hlt'
  case done =>
    rintro D xs W hD hS ⟨⟨v, hv, hrow, _⟩, hB, hle⟩ hK
    have hc := hv.cell
    gi_wp2
    refine ⟨by simp, .inl ⟨_, _, rfl, run_takeDeferred hK, ?_⟩⟩
    exact ⟨_, results_tmp rfl _ _ _, v, xs, rfl, hS, hle, ownsRow_putObj hrow _ hK rfl, hB.trans (belowK_b (w := w) (Nat.le_refl _) W D _ _ (by omega) hK rfl rfl)⟩

end Go.Proofs.YtegbkpjcjlihmabGreatDoor

namespace Go.Proofs.YtegbkpjcjlihmabGreatDoor
open Go.RowKit Go.Maps Go.ChangeMaps Go.WideMaps Go.Sort Go.Shelf

theorem collectA (w : World) (Bm b nn : Nat) (D0 : DataW Nat) (hN : Maps.size D0 ≤ 1099511627776) (hBm : Bm < w.heap.size) (hm : w.cell? ⟨Bm, 0, none⟩ = some (.map (some b))) (hown : w.ownsMap Tryz.prog 56 placeR b nn D0) :
    Calls Tryz.prog 138 #[.func (.func 140) #[] #[.pointer (some ⟨Bm, 0, none⟩)]] w fun e w' => ∃ (v : Value) (ss : List AddrK), e = .returned v ∧ CollA D0 (fun _ => false) ss ∧ ss.length ≤ Maps.size D0 ∧ RowA w' w.heap.size v (valsOf ss) ∧ Below w.heap.size w w' := by
  have hc := appendSeqA w Bm b nn D0 hN hBm hm hown
  go_enter Tryz.func138, Tryz.ntmps138
  go_wp2_with fail
  refine hc.mono ?_
  rintro e w1 ⟨v, ss, rfl, h1, h2, h3, h4⟩
  go_wp2_with fail
  go_ret
  exact ⟨v, ss, rfl, h1, h2, h3, h4⟩

/-- 'm[k]', whether it is there or not -/
theorem LeftAt.got {w : World} {m n c : Nat} {M : Lefts} (h : LeftAt w m n c M) (p : Ltr) (hp : okA p) (T : TypeId) (hT : Tryz.prog.underlying T = some (.map 56 3)) :
    (Instr.lookup T (.map (some m)) (addrV p) false).run Tryz.prog w = .ok (.int .i64 (plOf M p)) w := by
  cases hM : M p with
  | some x =>
    have := h.get p hp T hT x hM
    rw [this]
    unfold plOf
    rw [hM]
    rfl
  | none =>
    obtain ⟨D, ho, _, hk⟩ := h
    obtain ⟨v, ps, hr, hv⟩ := ho.lookup (t := T) (e := 3) law56 hT (zero3 w) (zd := .lit (.int .i64 0)) (zp := []) rfl (key := addrV p) (kl := keyA p) (keyA_at p hp)
    have h1 := (hk p hp).1
    rw [hM] at h1
    rw [atKey_of_not_has h1] at hv
    rw [hr, placeR_inv hv]
    unfold plOf
    rw [hM]
    rfl

set_option maxHeartbeats 1000000 in
set_option maxRecDepth 20000 in
theorem cmpA_any {M : Lefts} (hM : okM M) (x y : AddrK) (bx m n c : Nat) (W : World) (hb : W.cell? ⟨bx, 0, none⟩ = some (.map (some m))) (hL : LeftAt W m n c M) :
    Calls Tryz.prog 122 #[addrV x.1, addrV y.1, ptr bx] W fun e w' => e = .returned (.int .i64 (cmpA M x y)) ∧ ∃ q os', w' = grow (W.drewN q) os' := by
  have k1 : Fresh W ((W.alloc (.cells #[.string ⟨x.1.1.toArray⟩, .string ⟨x.1.2.toArray⟩] 56)).alloc (.cells #[.string ⟨y.1.1.toArray⟩, .string ⟨y.1.2.toArray⟩] 56)) := ((Keeps.refl _ _).alloc _).alloc _
  have g1 := fun w' (k : Fresh W w') => (k.leftAt hL (fun e => e)).got x.1 x.2 134 Tryz.underlying134
  have g2 := fun w' (k : Fresh W w') => (k.leftAt hL (fun e => e)).got y.1 y.2 134 Tryz.underlying134
  have rg : ∀ p, 0 ≤ plOf M p ∧ plOf M p < 1099511627776 := fun p => by
    unfold plOf
    cases hp : M p with
    | none => simp
    | some v => exact hM.rng p v hp
  have r1 := rg x.1
  have r2 := rg y.1
  have E : Hid (cmpA M x y = plOf M x.1 - plOf M y.1) := rfl
  generalize plOf M x.1 = px at *
  generalize plOf M y.1 = py at *
  obtain ⟨⟨xa, xb⟩, hx⟩ := x
  obtain ⟨⟨ya, yb⟩, hy⟩ := y
  unfold addrV ptr at *
  dsimp only at *
  have HW : Hid (((W.alloc (.cells #[.string ⟨xa.toArray⟩, .string ⟨xb.toArray⟩] 56)).alloc (.cells #[.string ⟨ya.toArray⟩, .string ⟨yb.toArray⟩] 56)) = grow (W.drewN 0) #[.cells #[.string ⟨xa.toArray⟩, .string ⟨xb.toArray⟩] 56, .cells #[.string ⟨ya.toArray⟩, .string ⟨yb.toArray⟩] 56]) := by
    show _ = _
    rw [alloc_eq_grow, alloc_eq_grow, grow_grow]; rfl
  have e0 : ((W.alloc (.cells #[.string ⟨xa.toArray⟩, .string ⟨xb.toArray⟩] 56)).alloc (.cells #[.string ⟨ya.toArray⟩, .string ⟨yb.toArray⟩] 56)).heap[W.heap.size]? = some (.cells #[.string ⟨xa.toArray⟩, .string ⟨xb.toArray⟩] 56) := ((Keeps.refl (fun _ => False) _).alloc _).heap (heap_new W _) (fun e => e)
  have e1 : ((W.alloc (.cells #[.string ⟨xa.toArray⟩, .string ⟨xb.toArray⟩] 56)).alloc (.cells #[.string ⟨ya.toArray⟩, .string ⟨yb.toArray⟩] 56)).heap[W.heap.size + 1]? = some (.cells #[.string ⟨ya.toArray⟩, .string ⟨yb.toArray⟩] 56) := by
    have := heap_new (W.alloc (.cells #[.string ⟨xa.toArray⟩, .string ⟨xb.toArray⟩] 56)) (.cells #[.string ⟨ya.toArray⟩, .string ⟨yb.toArray⟩] 56)
    have e : (W.alloc (.cells #[.string ⟨xa.toArray⟩, .string ⟨xb.toArray⟩] 56)).heap.size = W.heap.size + 1 := by simp
    rwa [e] at this
  obtain ⟨q0, q1, _, _⟩ := cells2 e0
  obtain ⟨q2, q3, _, _⟩ := cells2 e1
  have cb := cell_keeps k1 hb (fun e => e)
  have f1 := fun n => g1 _ (k1.drewN n)
  have f2 := fun n => g2 _ (k1.drewN n)
  have hmx := mixed
  clear e0 e1 g1 g2 rg hL hb
  go_enter Tryz.func122, Tryz.ntmps122
  go_wp2_with fail
  generalize (W.alloc (.cells #[.string ⟨xa.toArray⟩, .string ⟨xb.toArray⟩] 56)).alloc (.cells #[.string ⟨ya.toArray⟩, .string ⟨yb.toArray⟩] 56) = w2 at *
  clear k1
  go_quiet (fail)
  go_wp2_with fail
  go_ret
  exact ⟨by rw [E.out]; go_num, nq, _, by rw [HW.out]; rfl⟩

end Go.Proofs.YtegbkpjcjlihmabGreatDoor

namespace Go.Proofs.YtegbkpjcjlihmabGreatDoor
open Go.RowKit Go.Maps Go.ChangeMaps Go.WideMaps Go.Sort Go.Shelf

def encA (x : AddrK) : List Value := encL x.1

theorem okA_nil : okA ([], []) := by unfold okA maxLen; simp

section
variable [Inhabited AddrK]

theorem flatK_A (d : Array AddrK) : flatK encA 2 d = ((valsOf d.toList).flatMap encL).toArray := by
  rw [← flatK_eq]
  apply Array.ext
  · simp [valsOf]
  · intro i h1 h2
    have hi : i < d.size * 2 := by simpa using h1
    have a := get_flatK encA 2 d i hi
    have b := get_flatK encL 2 (valsOf d.toList).toArray i (by simpa [valsOf] using hi)
    rw [getElem!_pos _ i h1] at a
    rw [getElem!_pos _ i h2] at b
    rw [a, b]
    have hj : i / 2 < d.size := by omega
    have e1 : d[i / 2]! = d[i / 2] := getElem!_pos d (i / 2) hj
    have e2 : (valsOf d.toList).toArray[i / 2]! = d[i / 2].1 := by
      rw [getElem!_pos _ (i / 2) (by simp [valsOf]; exact hj)]
      simp [valsOf]
    rw [e1, e2]
    rfl

theorem holdsA {w : World} {base g n cap : Nat} {d : Array AddrK} (h : w.ownsRow base 56 2 (.slice (some ⟨g, 0, none⟩) n cap) n ((valsOf d.toList).flatMap encL)) : HoldsK encA 2 w g 0 d := by
  unfold HoldsK
  rw [flatK_A]
  intro j hj
  have hj' : j < ((valsOf d.toList).flatMap encL).length := by simpa using hj
  rcases h.2 with ⟨e0, _⟩ | ⟨g', cap', cur, e0, hb, hg, hn, hm, hs, ht⟩
  · cases e0
  · injection e0 with e1 _ e3
    injection e1 with e1
    injection e1 with e1
    subst e1; subst e3
    refine ⟨?_, by simp [World.frozen?, hg]⟩
    have e1 : (cur.toList.take (n * 2))[j]? = ((valsOf d.toList).flatMap encL)[j]? := by rw [ht]
    rw [List.getElem?_take, if_pos (by rw [← h.1]; exact hj'), Array.getElem?_toList, List.getElem?_eq_getElem hj'] at e1
    simp only [World.cell?, hg, Nat.zero_add]
    simp only [Option.isSome_none, Bool.false_eq_true, if_false]
    rw [e1]
    show some ((valsOf d.toList).flatMap encL)[j] = some (id (((valsOf d.toList).flatMap encL).toArray[j]!))
    rw [getElem!_pos _ j hj]
    rfl

theorem sortA_any {M : Lefts} (hM : okM M) (w : World) (base g cap bx m n c : Nat) (ss : List AddrK) (hrow : RowA w base (.slice (some ⟨g, 0, none⟩) ss.length cap) (valsOf ss)) (hb : w.cell? ⟨bx, 0, none⟩ = some (.map (some m))) (hL : LeftAt w m n c M) (hgb : g ≠ bx) (hgm : g ≠ m) (hsz : ss.length ≤ 1099511627776)
    (hn : (valsOf ss).Nodup) (hmem : ∀ p, p ∈ valsOf ss ↔ okA p ∧ (M p).isSome = true) :
    Calls Tryz.prog 139 #[.slice (some ⟨g, 0, none⟩) ss.length cap, .func (.func 122) #[] #[ptr bx]] w fun e w' => ∃ ls, e = .returned (.tuple #[]) ∧ Ordered M ls ∧ ls.length = ss.length ∧ RowA w' base (.slice (some ⟨g, 0, none⟩) ss.length cap) ls ∧ Keeps (fun k => k = g) w w' := by
  have hlen : (valsOf ss).length = ss.length := by simp [valsOf]
  have hrow' : w.ownsRow base 56 2 (.slice (some ⟨g, 0, none⟩) ss.length cap) ss.length ((valsOf ss.toArray.toList).flatMap encL) := by
    have := hrow
    unfold RowA at this
    rw [hlen] at this
    exact this
  have hgl : g < w.heap.size := by
    rcases hrow'.2 with ⟨e0, _⟩ | ⟨g', cap', cur, e0, hb, hg, _⟩
    · cases e0
    · injection e0 with e1 _ e3
      injection e1 with e1
      injection e1 with e1
      subst e1
      exact heap_lt hg
  have hk : ∀ q (d' : Array AddrK) (os : Array Obj), Keeps (fun k => k = g) w (sortWorldK encA 2 w g 0 q d' os) := fun q d' os => by
    have hp : Keeps (fun k => k = g) w (putRowK encA 2 (Sort.ahead w q) g 0 d') :=
      ⟨rfl, rfl, rfl, by simp [putRowK, putRow, mapBlock, Sort.ahead], fun k hk hn => by simp [putRowK, putRow, mapBlock, Sort.ahead, Array.getElem?_modify, show g ≠ k from fun e => hn e.symm]⟩
    exact hp.trans (fresh_grow _ 0 os).ofFresh
  have eg : ∀ args w, (callFunc 122 args).run Tryz.prog w = .ok (.enter 122 args) w := enters_of Tryz.func122 (by kernel_rfl) rfl
  have hcmp : CmpLays Tryz.prog 122 #[ptr bx] encA 2 (cmpA M) g 0 ss.toArray.size w := fun q os dk _ x y =>
    cmpA_any hM x y bx m n c _ (cell_keeps (hk q dk os) hb (fun e => hgb e.symm)) ((hk q dk os).leftAt hL (fun e => hgm e.symm))
  have hcon := AnyQ.slices_SortFunc Tryz.sortA 2 Tryz.isAgg56 Tryz.sizeOf56 encA (fun _ => rfl) (fun x v hv => by simp [encA, encL] at hv; rcases hv with rfl | rfl <;> rfl) (cmpA M) (swoA M) 122 #[ptr bx] g 0 cap ss.toArray w eg hcmp (holdsA hrow') hgl (by simp; omega)
  change Calls Tryz.prog 139 _ _ _ at hcon
  have e0 : (ss.toArray.size : Nat) = ss.length := by simp
  rw [e0] at hcon
  refine hcon.mono ?_
  rintro e w' ⟨rfl, d', q, os, hp, hs, rfl⟩
  obtain ⟨ho, hsz'⟩ := ordered_of_sorted (M := M) (d := ss.toArray) (by rw [e0]; exact hp) (by rw [e0]; exact hs) (by simpa [valsOf] using hn) (by simpa [valsOf] using hmem)
  have hl' : (valsOf d'.toList).length = ss.length := by simp [valsOf, hsz']
  refine ⟨valsOf d'.toList, rfl, ho, hl', ?_, hk q d' os⟩
  unfold RowA
  rw [hl']
  have h1 : (putRowK encA 2 (Sort.ahead w q) g 0 d').ownsRow base 56 2 (.slice (some ⟨g, 0, none⟩) ss.length cap) ss.length ((valsOf d'.toList).flatMap encL) := by
    unfold putRowK
    rw [flatK_A]
    exact owns_putRow hrow' (by rw [flat_len, hl'])
  exact (fresh_grow _ 0 os).owns h1 (fun _ _ e => e)
end

theorem sortA_none (p : Option Addr) (cap : Nat) (fv : Value) (w : World) : Calls Tryz.prog 139 #[.slice p 0 cap, fv] w fun e w' => e = .returned (.tuple #[]) ∧ w' = w :=
  AnyF.slices_SortFunc_none Tryz.sortA p cap fv w

set_option maxHeartbeats 2000000 in
set_option maxRecDepth 20000 in
theorem sortedA {M : Lefts} (hM : okM M) (w : World) (Bm bx m n c : Nat) (hL : LeftAt w m n c M) (hc : n ≤ 1099511627776) (hBm : w.cell? ⟨Bm, 0, none⟩ = some (.map (some m))) (hb : w.cell? ⟨bx, 0, none⟩ = some (.map (some m))) :
    Calls Tryz.prog 120 #[.func (.func 140) #[] #[.pointer (some ⟨Bm, 0, none⟩)], .func (.func 122) #[] #[ptr bx]] w fun e w' => ∃ v ls, e = .returned v ∧ Ordered M ls ∧ ls.length ≤ n ∧ RowA w' w.heap.size v ls ∧ Fresh w w' := by
  obtain ⟨D, ho, hsz, hk⟩ := hL
  have hle := ho.size_le
  have hlt := cell_lt hBm
  have hlt2 := cell_lt hb
  have hml := ho.lt
  have hcol := collectA w Bm m n D (by omega) hlt hBm ho
  have HM : Hid (∀ ss : List AddrK, CollA D (fun _ => false) ss → (valsOf ss).Nodup ∧ ∀ p, p ∈ valsOf ss ↔ okA p ∧ (M p).isSome = true) := fun ss h => by
    refine ⟨h.1, fun p => ⟨fun hp => ?_, fun hp => ?_⟩⟩
    · obtain ⟨x, hx, rfl⟩ := List.mem_map.1 hp
      refine ⟨x.2, ?_⟩
      rw [← (hk x.1 x.2).1]
      exact ((h.2 x.1 x.2).1 hp).1
    · refine (h.2 p hp.1).2 ⟨?_, rfl⟩
      rw [(hk p hp.1).1]
      exact hp.2
  have HL : Hid (LeftAt w m n c M) := ⟨D, ho, hsz, hk⟩
  clear hk hsz ho
  unfold ptr at *
  go_enter Tryz.func120, Tryz.ntmps120
  go_wp2_with fail
  refine hcol.mono ?_
  rintro e w1 ⟨v, ss, rfl, h1, h2, h3, h4⟩
  obtain ⟨hn, hmem⟩ := HM.out ss h1
  have k1 : Fresh w w1 := Keeps.ofBelow h4
  have hvl : (valsOf ss).length = ss.length := by simp [valsOf]
  have h3' : w1.ownsRow w.heap.size 56 2 v ss.length ((valsOf ss).flatMap encL) := by
    have := h3
    unfold RowA at this
    rwa [hvl] at this
  clear hcol
  by_cases h0 : ss = []
  · subst h0
    obtain ⟨ao, cap, rfl, _, _, _⟩ := own_form h3'
    have hs := sortA_none ao cap (.func (.func 122) #[] #[.pointer (some ⟨bx, 0, none⟩)]) w1
    have HO : Hid (Ordered M []) := ⟨List.nodup_nil, fun p => by rw [← hmem p]; rfl, List.Pairwise.nil⟩
    have HR : Hid (RowA w1 w.heap.size (.slice ao 0 cap) []) := h3
    clear h1 h3 h3' hn hmem HM HL h4 hvl
    go_wp2_with fail
    refine hs.mono ?_
    rintro e w2 ⟨rfl, rfl⟩
    clear hs
    go_wp2_with fail
    go_ret
    exact ⟨_, [], rfl, HO.out, Nat.zero_le _, HR.out, k1⟩
  · have hpos : 0 < ss.length := List.length_pos_iff.2 h0
    obtain ⟨g, cap, hv⟩ : ∃ g cap, v = .slice (some ⟨g, 0, none⟩) ss.length cap := by
      rcases h3'.2 with ⟨_, e⟩ | ⟨g, cap, _, rfl, _⟩
      · omega
      · exact ⟨g, cap, rfl⟩
    subst hv
    have hg : w.heap.size ≤ g := (h3'.lt g rfl).1
    haveI : Inhabited AddrK := ⟨⟨([], []), okA_nil⟩⟩
    have hs := sortA_any hM w1 w.heap.size g cap bx m n c ss h3 (cell_keeps k1 hb (fun e => e)) (k1.leftAt HL.out (fun e => e)) (by omega) (by omega) (by omega) hn hmem
    unfold ptr at hs
    clear h1 h3 h3' hn hmem HM HL h4 hvl h0
    go_wp2_with fail
    refine hs.mono ?_
    rintro e w2 ⟨ls, rfl, ho, hl, hr, k2⟩
    have HE : Hid (Ordered M ls ∧ ls.length ≤ n ∧ RowA w2 w.heap.size (.slice (some ⟨g, 0, none⟩) ss.length cap) ls ∧ Fresh w w2) := ⟨ho, by omega, hr, k1.then k2 (fun i hi e => by omega)⟩
    clear hs ho hr k2 hl
    go_wp2_with fail
    go_ret
    exact ⟨_, ls, rfl, HE.out⟩

set_option maxHeartbeats 2000000 in
set_option maxRecDepth 20000 in
/-- list -/
theorem list_any {M : Lefts} (hM : okM M) (w : World) (m n c : Nat) (hL : LeftAt w m n c M) (hc : n ≤ 1099511627776) :
    Calls Tryz.prog 89 #[.map (some m)] w fun e w' => ∃ v ls, e = .returned v ∧ Ordered M ls ∧ ls.length ≤ n ∧ RowA w' w.heap.size v ls ∧ Fresh w w' := by
  have k1 : Fresh w (w.alloc (.cells #[.map (some m)] 134)) := (Keeps.refl _ _).alloc _
  have k2 : Fresh w ((w.alloc (.cells #[.map (some m)] 134)).alloc (.cells #[.map (some m)] 134)) := k1.alloc _
  have c1 := cell1 (heap_new w (.cells #[.map (some m)] 134))
  have c2 := cell1 (heap_new (w.alloc (.cells #[.map (some m)] 134)) (.cells #[.map (some m)] 134))
  have es : (w.alloc (.cells #[.map (some m)] 134)).heap.size = w.heap.size + 1 := by simp
  rw [es] at c2
  have hk := keysA_any (some m) (w.alloc (.cells #[.map (some m)] 134))
  rw [es] at hk
  have c1' := cell_keeps ((Keeps.refl (fun _ => False) (w.alloc (.cells #[.map (some m)] 134))).alloc (.cells #[.map (some m)] 134)) c1 (fun e => e)
  have hs := sortedA hM _ (w.heap.size + 1) w.heap.size m n c (k2.leftAt hL (fun e => e)) hc c2 c1'
  have HK : Hid (Fresh w ((w.alloc (.cells #[.map (some m)] 134)).alloc (.cells #[.map (some m)] 134))) := k2
  clear k1 k2 hL c2 c1'
  unfold ptr at *
  go_enter Tryz.func89, Tryz.ntmps89
  go_wp2_with fail
  refine hk.mono ?_
  rintro e w1 ⟨rfl, rfl⟩
  go_wp2_with fail
  refine hs.mono ?_
  rintro e w2 ⟨v, ls, rfl, h1, h2, h3, h4⟩
  clear hs hk
  have HE : Hid (Ordered M ls ∧ ls.length ≤ n ∧ RowA w2 w.heap.size v ls ∧ Fresh w w2) := ⟨h1, h2, owns_base h3 (fun k hk => by have := (h3.lt k hk).1; simp at this; omega), HK.out.trans h4⟩
  clear h1 h2 h3 h4
  go_wp2_with fail
  go_ret
  exact ⟨v, ls, rfl, HE.out⟩

end Go.Proofs.YtegbkpjcjlihmabGreatDoor
