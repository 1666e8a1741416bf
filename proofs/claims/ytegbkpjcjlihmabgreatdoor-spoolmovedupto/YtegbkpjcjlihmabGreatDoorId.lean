/-
  DERIVED: THE SHELF's CONTRACTS AT THIS DUMP, IN PLAIN WORDS (tools/lay-plain.mjs out of 'YtegbkpjcjlihmabGreatDoorLaj.lean', which tools/lay-shelf.mjs wrote): THE SAME DECLARATIONS UNDER THE SAME NAMES: 'import', 'namespace', 'open', 'def', 'theorem' AND NOTHING ELSE: no command of the shelf's: FOR A HAND-IN. Each laying: the table of numbers ('.._ren') and one theorem, a field a fact of the dump's own or the kernel's comparison; each contract: ONE APPLICATION. | The numbers of mails that wait, in order: List. | The numbers of mails that wait, in order: Sort, Sorted, List. | Same, left: a mail, and who is left of it, held against the reference's; num.
-/
import Derived.Shelf.SlGeneric
import Derived.Shelf.SortM.Plain
import Derived.Shelf.SortM.SortNone
import Derived.Ground.SlgmProg
import Derived.Test.YtegbkpjcjlihmabGreatDoorProg
import Derived.Test.YtegbkpjcjlihmabGreatDoorGt
import Derived.Test.YtegbkpjcjlihmabGreatDoorGm
import Derived.Test.YtegbkpjcjlihmabGreatDoorGw
import Derived.Lib.OwnBridge
import Derived.Test.YtegbkpjcjlihmabGreatDoorIb
namespace Go.Proofs
open Go.Shelf
def Tryz.sort118_ren : Go.Shelf.Ren := ⟨fun | 5 => 118 | 8 => 132 | 7 => 137 | 19 => 156 | 20 => 157 | 10 => 168 | 11 => 169 | 12 => 170 | 13 => 171 | 14 => 172 | 15 => 173 | 16 => 174 | 17 => 175 | 18 => 176 | 30 => 201 | 31 => 193 | 32 => 194 | 33 => 202 | 34 => 203 | 35 => 204 | 40 => 230 | n => n, fun | 23 => 31 | 25 => 3 | 3 => 3 | 32 => 204 | 22 => 31 | 0 => 0 | 44 => 223 | 46 => 225 | 4 => 4 | 36 => 217 | 35 => 216 | 41 => 168 | 5 => 5 | 9 => 9 | 53 => 250 | 57 => 254 | 63 => 277 | 64 => 278 | n => n, fun | n => n⟩
theorem Tryz.sort118 : Go.Proofs.SlLaysM.n5 Tryz.prog Tryz.sort118_ren := {
  mixed := by kernel_rfl
  f5 := ⟨Tryz.f118.name, by decide, Tryz.func118.trans (congrArg some (by kernel_rfl))⟩
  f7 := ⟨Tryz.f137.name, by decide, Tryz.func137.trans (congrArg some (by kernel_rfl))⟩
  f8 := Tryz.func132.trans (congrArg some (by kernel_rfl))
  f10 := ⟨Tryz.f168.name, by decide, Tryz.func168.trans (congrArg some (by kernel_rfl))⟩
  f11 := ⟨Tryz.f169.name, by decide, Tryz.func169.trans (congrArg some (by kernel_rfl))⟩
  f12 := ⟨Tryz.f170.name, by decide, Tryz.func170.trans (congrArg some (by kernel_rfl))⟩
  f13 := ⟨Tryz.f171.name, by decide, Tryz.func171.trans (congrArg some (by kernel_rfl))⟩
  f14 := ⟨Tryz.f172.name, by decide, Tryz.func172.trans (congrArg some (by kernel_rfl))⟩
  f15 := ⟨Tryz.f173.name, by decide, Tryz.func173.trans (congrArg some (by kernel_rfl))⟩
  f16 := ⟨Tryz.f174.name, by decide, Tryz.func174.trans (congrArg some (by kernel_rfl))⟩
  f17 := ⟨Tryz.f175.name, by decide, Tryz.func175.trans (congrArg some (by kernel_rfl))⟩
  f18 := ⟨Tryz.f176.name, by decide, Tryz.func176.trans (congrArg some (by kernel_rfl))⟩
  f19 := Tryz.func156.trans (congrArg some (by kernel_rfl))
  f20 := Tryz.func157.trans (congrArg some (by kernel_rfl))
  f30 := ⟨Tryz.f201.name, by decide, Tryz.func201.trans (congrArg some (by kernel_rfl))⟩
  f31 := Tryz.func193.trans (congrArg some (by kernel_rfl))
  f32 := Tryz.func194.trans (congrArg some (by kernel_rfl))
  f33 := ⟨Tryz.f202.name, by decide, Tryz.func202.trans (congrArg some (by kernel_rfl))⟩
  f34 := ⟨Tryz.f203.name, by decide, Tryz.func203.trans (congrArg some (by kernel_rfl))⟩
  f35 := ⟨Tryz.f204.name, by decide, Tryz.func204.trans (congrArg some (by kernel_rfl))⟩
  f40 := ⟨Tryz.f230.name, by decide, Tryz.func230.trans (congrArg some (by kernel_rfl))⟩
  t0 := Tryz.underlying0
  a0 := Tryz.isAgg0
  z0 := Tryz.sizeOf0
  v0 := Tryz.zeroValue0
  t3 := Tryz.underlying3
  a3 := Tryz.isAgg3
  z3 := Tryz.sizeOf3
  v3 := Tryz.zeroValue3
  t4 := Tryz.underlying4
  a4 := Tryz.isAgg4
  z4 := Tryz.sizeOf4
  v4 := Tryz.zeroValue4
  t5 := Tryz.underlying5
  a5 := Tryz.isAgg5
  z5 := Tryz.sizeOf5
  v5 := Tryz.zeroValue5
  t9 := Tryz.underlying9
  a9 := Tryz.isAgg9
  z9 := Tryz.sizeOf9
  v9 := Tryz.zeroValue9
  t22 := Tryz.underlying31
  a22 := Tryz.isAgg31
  z22 := Tryz.sizeOf31
  v22 := Tryz.zeroValue31
  t23 := Tryz.underlying31
  a23 := Tryz.isAgg31
  z23 := Tryz.sizeOf31
  v23 := Tryz.zeroValue31
  t25 := Tryz.underlying3
  a25 := Tryz.isAgg3
  z25 := Tryz.sizeOf3
  v25 := Tryz.zeroValue3
  t32 := Tryz.underlying204
  a32 := Tryz.isAgg204
  z32 := Tryz.sizeOf204
  v32 := Tryz.zeroValue204
  t35 := Tryz.underlying216
  a35 := Tryz.isAgg216
  z35 := Tryz.sizeOf216
  v35 := Tryz.zeroValue216
  t36 := Tryz.underlying217
  a36 := Tryz.isAgg217
  z36 := Tryz.sizeOf217
  v36 := Tryz.zeroValue217
  t41 := Tryz.underlying168
  a41 := Tryz.isAgg168
  z41 := Tryz.sizeOf168
  v41 := Tryz.zeroValue168
  t44 := Tryz.underlying223
  a44 := Tryz.isAgg223
  z44 := Tryz.sizeOf223
  v44 := Tryz.zeroValue223
  t46 := Tryz.underlying225
  a46 := Tryz.isAgg225
  z46 := Tryz.sizeOf225
  v46 := Tryz.zeroValue225
  t53 := Tryz.underlying250
  a53 := Tryz.isAgg250
  z53 := Tryz.sizeOf250
  v53 := Tryz.zeroValue250
  t57 := Tryz.underlying254
  a57 := Tryz.isAgg254
  z57 := Tryz.sizeOf254
  v57 := Tryz.zeroValue254
  t63 := Tryz.underlying277
  a63 := Tryz.isAgg277
  z63 := Tryz.sizeOf277
  v63 := Tryz.zeroValue277
  t64 := Tryz.underlying278
  a64 := Tryz.isAgg278
  z64 := Tryz.sizeOf278
  v64 := Tryz.zeroValue278 }
end Go.Proofs

namespace Go.Proofs.YtegbkpjcjlihmabGreatDoor
open Go.RowKit Go.Maps Go.ChangeMaps Go.WideMaps Go.Sort Go.Shelf
attribute [local go_sem] Oper.semAt_some

abbrev IntK := { n : Int // okI n }
def intV (n : Int) : Value := .int .i64 n
def numsOf (ss : List IntK) : List Int := ss.map (·.1)

theorem keyI_inv {key : Value} {kl : Lit} (h : keyOf Tryz.prog 3 key = some kl) : ∃ x : IntK, key = intV x.1 ∧ kl = .int .i64 x.1 := by
  have h1 : IntKind.i64.min = -9223372036854775808 := by decide
  have h2 : IntKind.i64.max = 9223372036854775807 := by decide
  rw [keyOf_int Tryz.underlying3] at h
  unfold mapKey at h
  simp only [Tryz.underlying3] at h
  split at h
  · rename_i hf; cases hf
  · rename_i q q' a hf
    split at h
    · rename_i hw
      obtain ⟨rfl, hw⟩ := hw
      have e : IntKind.i64 = q' := by injection hf with hf; injection hf
      subst e
      refine ⟨⟨a, ?_⟩, rfl, (Option.some.inj h).symm⟩
      simp [Lit.wf, h1, h2] at hw
      exact hw
    · cases h
  · rename_i hf; cases hf
  · cases h

/-- a map's numbers, as far as they have come -/
def CollI (D0 : DataW Nat) (left : Lit → Bool) (ss : List IntK) : Prop := (numsOf ss).Nodup ∧ ∀ n, okI n → (n ∈ numsOf ss ↔ has D0 (.int .i64 n) = true ∧ left (.int .i64 n) = false)

theorem CollI.start (D0 : DataW Nat) : CollI D0 (has D0) [] := ⟨List.nodup_nil, fun p _ => by cases has D0 (.int .i64 p) <;> simp [numsOf]⟩

theorem CollI.step {D0 : DataW Nat} {left : Lit → Bool} {ss : List IntK} (h : CollI D0 left ss) {x : IntK} {y : DataW Nat} (hlk : left (.int .i64 x.1) = true) (hat : ∀ zd, D0.atKey (.int .i64 x.1) zd = y) : CollI D0 (fun z => left z && !z.sameKey (.int .i64 x.1)) (ss ++ [x]) := by
  have hhas : has D0 (.int .i64 x.1) = true := has_true_of_atKey hat
  have hnew : x.1 ∉ numsOf ss := fun hx => by
    have := ((h.2 x.1 x.2).1 hx).2
    rw [hlk] at this
    cases this
  have e0 : numsOf (ss ++ [x]) = numsOf ss ++ [x.1] := by simp [numsOf]
  refine ⟨?_, fun p hp => ?_⟩
  · rw [e0]
    exact List.nodup_append.2 ⟨h.1, by simp, fun a ha b hb => by simp at hb; subst hb; exact fun e => hnew (e ▸ ha)⟩
  · rw [e0, List.mem_append, h.2 p hp]
    show _ ↔ _ ∧ (left (.int .i64 p) && !(Lit.int .i64 p).sameKey (.int .i64 x.1)) = false
    have e1 : (Lit.int .i64 p).sameKey (.int .i64 x.1) = decide (p = x.1) := by simp [Lit.sameKey]
    rw [e1]
    by_cases e : p = x.1
    · subst e
      simp [hhas]
    · simp [e]

set_option maxRecDepth 100000 in
set_option maxHeartbeats 1000000 in
theorem keysI_seq (Bm b nn n : Nat) (D0 : DataW Nat) (w : World) (hn : 1 ≤ n) (hBm : Bm < w.heap.size) (hm : w.cell? ⟨Bm, 0, none⟩ = some (.map (some b))) (hown : w.ownsMap Tryz.prog 3 mapR b nn D0) :
    SeqCell Tryz.prog n 119 #[.pointer (some ⟨Bm, 0, none⟩)] (fun x : IntK => intV x.1) (fun ss => CollI D0 (fun _ => false) ss) (fun pre => pre.length < Maps.size D0) (fun _ => False) KeepsWalks w := by
  intro l J W hW hJ _ hY h0
  have hown' : W.ownsMap Tryz.prog 3 mapR b nn D0 := by
    have hbl := hown.lt
    obtain ⟨es, clock, hb, Ft, hs, hD⟩ := hown
    exact ⟨es, clock, (hW.block b hbl).trans hb, Ft, hs, hD⟩
  have hm' : W.cell? ⟨Bm, 0, none⟩ = some (.map (some b)) := (hW.cell (p := ⟨Bm, 0, none⟩) hBm).trans hm
  clear hown hm
  have ok : (∀ v y, mapR v = some y → ∃ c : Option Nat, v = .map c) := fun v y h => by
    unfold mapR at h
    split at h
    · exact ⟨_, rfl⟩
    · exact ⟨_, rfl⟩
    · cases h
  refine callsIn_of_wp Tryz.func119 rfl trivial ?_ rfl
  simp only [Tryz.ntmps119, List.size_toArray, List.length_cons, List.length_nil, Nat.reduceAdd, Nat.reduceSub, Array.replicate_succ, Array.replicate_zero, List.push_toArray, List.append_toArray, List.nil_append, List.cons_append]
  gi_wp2_with (first
    | (gi_at_range; refine wpListIn_range_own _ rfl _ 120 rfl 3 134 law3 Tryz.underlying120 _ b nn _ rfl hown' ?_; intro w0 hrg0 hg0 hs0)
    | gi_in)
  try go_frame
  gi_loopw [3] (fun _ wr => ∃ (left : Lit → Bool) (cnt : Nat) (ss : List IntK), wr.ranges Tryz.prog 3 mapR b W.heap.size nn D0 left cnt ∧ ss.length + cnt ≤ Maps.size D0 ∧ CollI D0 left ss ∧ J ss wr)
    (fun _ wr => wr.rangeLeft b W.heap.size)
  case atStart =>
    exact ⟨_, _, [], hrg0, by simp, CollI.start D0, hJ [] W w0 none h0 hg0 (fun r e => by cases e)⟩
  case round =>
    obtain ⟨left, cnt, ss, hrg, hcs, hC, hJs⟩ := hrel
    gi_wp2_with (first
      | (gi_at_next; refine wpListIn_next_ranges _ rfl _ rfl 3 law3 mapR (fun x : IntK => intV x.1) (fun c : Option Nat => Value.map c) (fun key kl hk => by obtain ⟨x, hx, _⟩ := keyI_inv hk; exact ⟨x, hx⟩) ok b W.heap.size nn _ _ _ rfl hrg ?_ ?_)
      | gi_in)
    · intro hc0 hl0
      gi_wp2
      go_end0
      refine ⟨⟨_, rfl⟩, ss, ?_, hJs⟩
      refine ⟨hC.1, fun p hp => ?_⟩
      rw [hC.2 p hp, hl0]
    · intro xa hx c kl yd yp w2 cnt2 hkey hlk hv hat hrg2 hlt hg2 hs2 hen
      obtain rfl : Lit.int .i64 xa = kl := Option.some.inj ((keyI_at xa hx).symm.trans hkey)
      have hJ2 : J ss w2 := hJ ss wr w2 (some W.heap.size) hJs hg2 (fun r e => by cases e; exact ⟨Nat.le_refl _, hrg.iter_walk⟩)
      obtain ⟨fn, tmps, assign, body, hy, hR⟩ := hY ss ⟨xa, hx⟩ _ hJ2 (by show _ < _; omega)
      have hC2 := hC.step (x := ⟨xa, hx⟩) hlk hat
      clear hs2
      unfold intV at *
      dsimp only at hy
      gi_wp2
      refine hR.mono ?_
      rintro e W3 ⟨rfl, hJ3, hk3⟩
      gi_wp2
      have hrg3 := hrg2.of_walks hk3
      go_roundw
      case rel => exact ⟨_, cnt2, ss ++ [⟨xa, hx⟩], hrg3, by simp; omega, hC2, hJ3⟩
      case measure => rw [hrg3.left_eq, hrg.left_eq]; exact hlt

/-- maps.Keys -/
theorem keysI_any (m : Option Nat) (w : World) : Calls Tryz.prog 88 #[.map m] w fun e w' => e = .returned (.func (.func 119) #[] #[.pointer (some ⟨w.heap.size, 0, none⟩)]) ∧ w' = w.alloc (.cells #[.map m] 120) := by
  go_enter Tryz.func88, Tryz.ntmps88
  go_wp2_with fail
  go_ret
  exact ⟨rfl, rfl⟩

/-- a row of numbers -/
def RowI (w : World) (base : Nat) (v : Value) (l : List Int) : Prop := w.ownsRow base 3 1 v l.length (l.map intV)

theorem infoI : (Tryz.prog.info? 3).map (fun i => (i.zero.map (fun z => z.cells.size), i.size, i.bytes)) = some (some 1, 1, 8) := by kernel_rfl
theorem infoI' : ∃ i z, Tryz.prog.info? 3 = some i ∧ i.zero = some z ∧ z.cells.size = 1 ∧ i.size = 1 ∧ i.bytes = 8 := by
  cases h : Tryz.prog.info? 3 with
  | none => have := infoI; rw [h] at this; cases this
  | some i =>
    have := infoI
    rw [h] at this
    simp at this
    obtain ⟨⟨z, h1, h2⟩, h3, h4⟩ := this
    exact ⟨i, z, rfl, h1, h2, h3, h4⟩

set_option maxRecDepth 100000 in
set_option maxHeartbeats 2000000 in
theorem appendSeqI (w : World) (Bm b nn : Nat) (D0 : DataW Nat) (hN : Maps.size D0 ≤ 1099511627776) (hBm : Bm < w.heap.size) (hm : w.cell? ⟨Bm, 0, none⟩ = some (.map (some b))) (hown : w.ownsMap Tryz.prog 3 mapR b nn D0) :
    Calls Tryz.prog 136 #[.slice none 0 0, .func (.func 119) #[] #[.pointer (some ⟨Bm, 0, none⟩)]] w fun e w' => ∃ (v : Value) (ss : List IntK), e = .returned v ∧ CollI D0 (fun _ => false) ss ∧ ss.length ≤ Maps.size D0 ∧ RowI w' w.heap.size v (numsOf ss) ∧ Below w.heap.size w w' := by
  refine (callsIn_wide (n := 5)).1 ?_
  obtain ⟨i0, z0, hi, hz0, hz3, hz1, hz2⟩ := infoI'
  have bO := _root_.Go.Boxed.new w 31 (.slice none 0 0)
  have hB0 : Below w.heap.size w (w.alloc (.cells #[.slice none 0 0] 31)) := (Below.refl _ w).alloc (Nat.le_refl _) _
  have hown0 : (w.alloc (.cells #[.slice none 0 0] 31)).ownsMap Tryz.prog 3 mapR b nn D0 := by
    have hbl := hown.lt
    obtain ⟨es, clock, hb, Ft, hs, hD⟩ := hown
    exact ⟨es, clock, (hB0.block b hbl).trans hb, Ft, hs, hD⟩
  have hseq := keysI_seq Bm b nn 4 D0 (w.alloc (.cells #[.slice none 0 0] 31)) (by omega) (by simp; omega) ((hB0.cell (p := ⟨Bm, 0, none⟩) hBm).trans hm) hown0
  refine callsIn_of_wp_marks Tryz.func136 rfl trivial ?_ rfl
  simp only [Tryz.ntmps136, List.size_toArray, List.length_cons, List.length_nil, Nat.reduceAdd, Nat.reduceSub, Array.replicate_succ, Array.replicate_zero, List.push_toArray, List.append_toArray, List.nil_append, List.cons_append]
  gi_wp2
  generalize hW0 : w.alloc (.cells #[.slice none 0 0] 31) = W0 at *
  have hsz : W0.heap.size = w.heap.size + 1 := by rw [← hW0]; simp
  refine rangeFunc_cell (n := 5) (by omega) (gf := 119) (lb := #[.pointer (some ⟨Bm, 0, none⟩)]) rfl (enters_of Tryz.func119 (by kernel_rfl) rfl) hseq rfl walksK_t walksK_b (fun _ h => h.elim)
    (fun ss W => (∃ v, _root_.Go.Boxed W w.heap.size 31 v ∧ W.ownsRow w.heap.size 3 1 v (numsOf ss).length ((numsOf ss).map intV) ∧ True) ∧ Below w.heap.size w W ∧ ss.length ≤ Maps.size D0)
    (OwnFrom.and (Own.from (holdsRow_own w.heap.size w.heap.size 31 3 1 (fun ss => (numsOf ss).length) (fun ss => (numsOf ss).map intV) (fun _ _ => True)) _) (OwnFrom.and (ownFrom_below (Nat.le_refl _) (by omega)) (ownFrom_pure _ _)))
    (fun _ h => h.elim)
    ⟨⟨_, bO, World.ownsRow_nil _ _ _ _, trivial⟩, hB0, Nat.zero_le _⟩
    (fun x a' _ => a' = { tmps := #[.slice none 0 0, .func (.func 119) #[] #[.pointer (some ⟨Bm, 0, none⟩)], .pointer (some ⟨w.heap.size, 0, none⟩), undef, .slice none 0 0, intV x.1, .func (.func 119) #[] #[.pointer (some ⟨Bm, 0, none⟩)], intV x.1, undef, undef, undef, undef, undef], defers := [] })
    ?hAx ?assign ?body ?done
  case hAx =>
    rintro x a' W l o o' h hl ho
    exact h
  case assign =>
    rintro l pre ⟨xa, hx⟩ W K ⟨⟨v, hv, hrow, _⟩, hB, hle⟩ hK
    unfold intV at *
    gi_wp2
    exact hK _ _ ((KeepsOthers.refl _).from _) (KeepsWalks.refl _) ⟨⟨v, hv, hrow, trivial⟩, hB, hle⟩ rfl
  case body =>
    rintro l pre ⟨xa, hx⟩ a' W ⟨⟨v, hv, hrow, _⟩, hB, hle⟩ hlt rfl
    have hc := hv.cell
    have n0 := cell1 (heap_new W (.cells #[.int .i64 xa] 3))
    have hnews : ∀ j u, [Value.int .i64 xa][j]? = some u → (W.alloc (.cells #[.int .i64 xa] 3)).cell? ((⟨W.heap.size, 0, none⟩ : Addr).add j) = some u := fun j u hj => by
      match j, hj with
      | 0, hj => simp at hj; subst hj; exact n0
      | j + 1, hj => simp at hj
    have HVL : Hid ((numsOf pre).length = pre.length) := by show _ = _; simp [numsOf]
    have hvl : (numsOf pre).length ≤ pre.length := Nat.le_of_eq HVL.out
    have hlt' : pre.length < Maps.size D0 := hlt
    have HX : Hid (numsOf (pre ++ [⟨xa, hx⟩]) = numsOf pre ++ [xa]) := by show _ = _; simp [numsOf]
    unfold intV at *
    clear n0
    gi_wp2_with (gi_at_builtin; refine wpListIn_append_own _ rfl _ _ 31 rfl w.heap.size 3 i0 z0 1 8 Tryz.underlying31 hi hz0 hz1 hz2 hz3 (by decide) _ _ _ rfl (hrow.alloc _) ⟨W.heap.size, 0, none⟩ 1 1 [.int .i64 xa] rfl rfl hnews (by simp [Value.oneCell']) (by unfold maxLen; omega) (by omega) (by have := hB.size; simp; omega) ?_; intro v' w1 hown' hgrow _; obtain ⟨g', cap', rfl⟩ := ownsRow_succ hown'; obtain ⟨hv1, hv2, hr2, hk2, hb2⟩ := hv.appended (by decide) hrow hB.size (Nat.le_refl _) hown' hgrow; have hc1 := hv1.cell; have hf1 := hv1.frozen)
    refine ⟨hk2.from _, ⟨hk2.size, fun k o hk hw => hk2.same k o hk (Obj.not_cells_of_walk hw)⟩, ⟨_, hv2, ?_⟩, hB.trans hb2, ?_⟩
    · rw [HX.out, List.map_append, List.length_append]
      exact hr2
    · rw [List.length_append]
      exact hlt'
  case done =>
    rintro D xs W hD hS ⟨⟨v, hv, hrow, _⟩, hB, hle⟩ hK
    have hc := hv.cell
    gi_wp2
    refine ⟨by simp, .inl ⟨_, _, rfl, run_takeDeferred hK, ?_⟩⟩
    exact ⟨_, results_tmp rfl _ _ _, v, xs, rfl, hS, hle, ownsRow_putObj hrow _ hK rfl, hB.trans (belowK_b (w := w) (Nat.le_refl _) W D _ _ (by omega) hK rfl rfl)⟩

theorem collectI (w : World) (Bm b nn : Nat) (D0 : DataW Nat) (hN : Maps.size D0 ≤ 1099511627776) (hBm : Bm < w.heap.size) (hm : w.cell? ⟨Bm, 0, none⟩ = some (.map (some b))) (hown : w.ownsMap Tryz.prog 3 mapR b nn D0) :
    Calls Tryz.prog 117 #[.func (.func 119) #[] #[.pointer (some ⟨Bm, 0, none⟩)]] w fun e w' => ∃ (v : Value) (ss : List IntK), e = .returned v ∧ CollI D0 (fun _ => false) ss ∧ ss.length ≤ Maps.size D0 ∧ RowI w' w.heap.size v (numsOf ss) ∧ Below w.heap.size w w' := by
  have hc := appendSeqI w Bm b nn D0 hN hBm hm hown
  go_enter Tryz.func117, Tryz.ntmps117
  go_wp2_with fail
  refine hc.mono ?_
  rintro e w1 ⟨v, ss, rfl, h1, h2, h3, h4⟩
  go_wp2_with fail
  go_ret
  exact ⟨v, ss, rfl, h1, h2, h3, h4⟩

theorem sortI_none (p : Option Addr) (cap : Nat) (w : World) : Calls Tryz.prog 118 #[.slice p 0 cap] w fun e w' => e = .returned (.tuple #[]) ∧ w' = w :=
  AnyM.slices_Sort_int_none Tryz.sort118 p cap w

end Go.Proofs.YtegbkpjcjlihmabGreatDoor

namespace Go.Proofs.YtegbkpjcjlihmabGreatDoor
open Go.RowKit Go.Maps Go.ChangeMaps Go.WideMaps Go.Sort Go.Shelf

def leI (x y : Int) : Bool := decide (x ≤ y)

/-- numbers that rise, and are those of W -/
structure Nums (W : Waits) (ns : List Int) : Prop where
  up : ns.Pairwise (· < ·)
  mem : ∀ n, n ∈ ns ↔ okI n ∧ (W n).isSome = true

theorem up_of_sort {zs : List Int} (hn : zs.Nodup) : (zs.mergeSort (fun x y => decide (x ≤ y))).Pairwise (· < ·) := by
  have h1 : (zs.mergeSort (fun x y => decide (x ≤ y))).Pairwise (fun x y => decide (x ≤ y) = true) :=
    List.pairwise_mergeSort (fun a b c h1 h2 => by simp at *; omega) (fun a b => by simp; omega) zs
  have h2 : (zs.mergeSort (fun x y => decide (x ≤ y))).Nodup := (List.mergeSort_perm zs _).nodup_iff.2 hn
  refine (List.Pairwise.and h1 h2).imp (fun {a b} h => ?_)
  have := of_decide_eq_true h.1
  have := h.2
  omega

set_option maxHeartbeats 2000000 in
set_option maxRecDepth 20000 in
theorem sortedI (W : Waits) (w : World) (Bm m n : Nat) (hL : WaitsAt w m n W) (hc : n ≤ 1099511627776) (hBm : w.cell? ⟨Bm, 0, none⟩ = some (.map (some m))) :
    Calls Tryz.prog 87 #[.func (.func 119) #[] #[.pointer (some ⟨Bm, 0, none⟩)]] w fun e w' => ∃ v ns, e = .returned v ∧ Nums W ns ∧ ns.length ≤ n ∧ RowI w' w.heap.size v ns ∧ Fresh w w' := by
  obtain ⟨D, ho, hk⟩ := hL
  have hle := ho.size_le
  have hlt := cell_lt hBm
  have hcol := collectI w Bm m n D (by omega) hlt hBm ho
  have HM : Hid (∀ ss : List IntK, CollI D (fun _ => false) ss → (numsOf ss).Nodup ∧ ∀ p, p ∈ numsOf ss ↔ okI p ∧ (W p).isSome = true) := fun ss h => by
    refine ⟨h.1, fun p => ⟨fun hp => ?_, fun hp => ?_⟩⟩
    · obtain ⟨x, hx, rfl⟩ := List.mem_map.1 hp
      refine ⟨x.2, ?_⟩
      rw [← (hk x.1 x.2).1]
      exact ((h.2 x.1 x.2).1 hp).1
    · refine (h.2 p hp.1).2 ⟨?_, rfl⟩
      rw [(hk p hp.1).1]
      exact hp.2
  clear hk ho
  go_enter Tryz.func87, Tryz.ntmps87
  go_wp2_with fail
  refine hcol.mono ?_
  rintro e w1 ⟨v, ss, rfl, h1, h2, h3, h4⟩
  obtain ⟨hn, hmem⟩ := HM.out ss h1
  have k1 : Fresh w w1 := Keeps.ofBelow h4
  have hvl : (numsOf ss).length = ss.length := by simp [numsOf]
  clear hcol
  by_cases h0 : v = .slice none 0 0
  · subst h0
    have hz : (numsOf ss).length = 0 := by
      have := h3
      unfold RowI at this
      rcases this.2 with ⟨_, e⟩ | ⟨g, cap, _, e, _⟩
      · omega
      · cases e
    have hz' : numsOf ss = [] := List.length_eq_zero_iff.1 hz
    have hs := sortI_none none 0 w1
    have HO : Hid (Nums W []) := ⟨List.Pairwise.nil, fun p => by rw [← hmem p, hz']⟩
    have HR : Hid (RowI w1 w.heap.size (.slice none 0 0) []) := by
      have := h3
      rw [hz'] at this
      exact this
    clear h1 h3 hn hmem HM h4 hvl hz hz'
    go_wp2_with fail
    refine hs.mono ?_
    rintro e w2 ⟨rfl, rfl⟩
    clear hs
    go_wp2_with fail
    go_ret
    exact ⟨_, [], rfl, HO.out, Nat.zero_le _, HR.out, k1⟩
  · obtain ⟨g, cap, rfl, hg1, hg2, _, _, hgl, hH⟩ := Lib.holds_of_ownsRow (enc := intV) h3 h0
    have hs := AnyM.slices_Sort_int Tryz.sort118 g 0 cap (numsOf ss) w1 hH hg2 (by omega)
    change Calls Tryz.prog 118 _ _ _ at hs
    have HO : Hid (Nums W ((numsOf ss).mergeSort (fun x y => decide (x ≤ y)))) := ⟨up_of_sort hn, fun p => by rw [← hmem p]; exact List.mem_mergeSort⟩
    have HR : Hid (∀ q (os : Array Obj), RowI (grow (putRow (Value.int .i64) (Sort.ahead w1 q) g 0 ((numsOf ss).mergeSort (fun x y => decide (x ≤ y))).toArray) os) w.heap.size (.slice (some ⟨g, 0, none⟩) (numsOf ss).length cap) ((numsOf ss).mergeSort (fun x y => decide (x ≤ y))) ∧ Fresh w (grow (putRow (Value.int .i64) (Sort.ahead w1 q) g 0 ((numsOf ss).mergeSort (fun x y => decide (x ≤ y))).toArray) os)) := fun q os => by
      have el : ((numsOf ss).mergeSort (fun x y => decide (x ≤ y))).length = (numsOf ss).length := List.length_mergeSort _
      have a1 := Lib.ownsRow_putRow (enc := intV) (q := q) (k := (numsOf ss).length) h3 el (Nat.le_refl _)
      rw [List.take_of_length_le (by omega)] at a1
      have hp : Keeps (fun k => k = g) w1 (putRow (Value.int .i64) (Sort.ahead w1 q) g 0 ((numsOf ss).mergeSort (fun x y => decide (x ≤ y))).toArray) :=
        ⟨rfl, rfl, rfl, by simp [putRow, mapBlock, Sort.ahead], fun k hk hn => by simp [putRow, mapBlock, Sort.ahead, Array.getElem?_modify, show g ≠ k from fun e => hn e.symm]⟩
      refine ⟨?_, (k1.then hp (fun i hi e => by omega)).trans (fresh_grow _ 0 os)⟩
      unfold RowI
      rw [el]
      exact (fresh_grow _ 0 os).owns a1 (fun _ _ e => e)
    have hml : ((numsOf ss).mergeSort (fun x y => decide (x ≤ y))).length = ss.length := by rw [List.length_mergeSort, hvl]
    have HL : Hid (((numsOf ss).mergeSort (fun x y => decide (x ≤ y))).length ≤ n) := by show _ ≤ _; omega
    clear h1 h3 hn hmem HM h4 hH h0 hml hvl
    go_wp2_with fail
    refine hs.mono ?_
    rintro e w2 ⟨rfl, q, os, rfl⟩
    have HE : Hid _ := HR.out q os
    clear hs HR
    go_wp2_with fail
    go_ret
    exact ⟨_, _, rfl, HO.out, HL.out, HE.out.1, HE.out.2⟩

section
variable {w wr w' : World} {A : Nat → Prop} {d s : Nat} {L : Nat} {mw N : Nat} {P : Int → Lefts → Prop} {lv : Int} {b : Bool} {W : Waits}

set_option maxHeartbeats 2000000 in
set_option maxRecDepth 20000 in
theorem list5 (S : SpAt w A d L s mw N P lv b W wr) (hN : N ≤ 1099511627776) :
    Calls Tryz.prog 44 #[ptr s] wr fun e w' => ∃ v ns, e = .returned v ∧ Nums W ns ∧ ns.length ≤ N ∧ RowI w' wr.heap.size v ns ∧ Fresh wr w' := by
  obtain ⟨_, _, c2, _, _, _, _, _⟩ := mcells S.sp
  have f0 : Fresh wr (wr.alloc (.cells #[.map (some mw)] 120)) := (Keeps.refl _ _).alloc _
  have c0 := cell1 (heap_new wr (.cells #[.map (some mw)] 120))
  have hk := keysI_any (some mw) wr
  have hs := sortedI W _ wr.heap.size mw N ((S.fresh f0).wt) hN c0
  have HF : Hid (Fresh wr (wr.alloc (.cells #[.map (some mw)] 120))) := f0
  clear S f0 c0
  unfold ptr at *
  go_enter Tryz.func44, Tryz.ntmps44
  go_wp2_with fail
  refine hk.mono ?_
  rintro e w1 ⟨rfl, rfl⟩
  go_wp2_with fail
  refine hs.mono ?_
  rintro e w2 ⟨v, ns, rfl, h1, h2, h3, k2⟩
  clear hs hk
  have HE : Hid (Nums W ns ∧ ns.length ≤ N ∧ RowI w2 wr.heap.size v ns ∧ Fresh wr w2) := ⟨h1, h2, owns_base h3 (fun k hk => by have := (h3.lt k hk).1; simp at this; omega), HF.out.trans k2⟩
  clear h1 h2 h3 k2
  go_wp2_with fail
  go_ret
  exact ⟨v, ns, rfl, HE.out⟩

end
end Go.Proofs.YtegbkpjcjlihmabGreatDoor

namespace Go.Proofs.YtegbkpjcjlihmabGreatDoor
open Go.RowKit Go.Maps Go.Sort Go.Lib

theorem num5 (k : Int) (w : World) : Calls Tryz.prog 19 #[.int .i64 k] w fun e w' => e = .returned (.int .i64 k) ∧ w' = w := by
  go_enter Tryz.func19, Tryz.ntmps19
  go_wp2_with fail
  go_ret
  exact ⟨rfl, rfl⟩

set_option maxHeartbeats 4000000 in
set_option maxRecDepth 100000 in
theorem left_true (ao bo : Option Addr) (ca cb : Nat) (l : List Ltr) (w : World) (hn : l.length ≤ 1099511627776) (ha : AdRd w ao l) (hb : AdRd w bo l) :
    Calls Tryz.prog 55 #[.slice ao l.length ca, .slice bo l.length cb] w fun e w' => e = .returned (.bool true) ∧ Fresh w w' := by
  have HA : Hid (AdRd w ao l) := ha
  have HB : Hid (AdRd w bo l) := hb
  clear ha hb
  go_enter Tryz.func55, Tryz.ntmps55
  go_wp2_with fail
  go_loopw [5] (fun t5 wr => ∃ i : Nat, i ≤ l.length ∧ t5 = .int .i64 i ∧ Fresh w wr) (fun t5 _ => l.length - (intOf t5).toNat)
  case atStart => exact ⟨0, Nat.zero_le _, rfl, Keeps.refl _ _⟩
  case round =>
    obtain ⟨i, h1, rfl, kk⟩ := hrel
    by_cases hlt : i < l.length
    · obtain ⟨x, hx⟩ : ∃ x, l[i]? = some x := ⟨l[i], List.getElem?_eq_getElem hlt⟩
      obtain ⟨g, off, rfl, hq⟩ := (HA.out.fresh kk) (by omega)
      obtain ⟨g2, off2, rfl, hq2⟩ := (HB.out.fresh kk) (by omega)
      obtain ⟨q0, q1⟩ := hq i x hx
      obtain ⟨r0, r1⟩ := hq2 i x hx
      obtain ⟨X1, hX1⟩ : ∃ X1 : ByteArray, X1 = ⟨x.1.toArray⟩ := ⟨_, rfl⟩
      obtain ⟨X2, hX2⟩ : ∃ X2 : ByteArray, X2 = ⟨x.2.toArray⟩ := ⟨_, rfl⟩
      rw [← hX1] at q0 r0
      rw [← hX2] at q1 r1
      have hadr := address_law X1 X2 wr.drew
      have HS : Hid (∀ W, Fresh wr W → W.cell? ⟨g, off + i * 2, none⟩ = some (.string X1) ∧ W.cell? ⟨g, off + i * 2 + 1, none⟩ = some (.string X2) ∧ W.cell? ⟨g2, off2 + i * 2, none⟩ = some (.string X1) ∧ W.cell? ⟨g2, off2 + i * 2 + 1, none⟩ = some (.string X2)) := fun W k => ⟨cell_keeps k q0 (fun e => e), cell_keeps k q1 (fun e => e), cell_keeps k r0 (fun e => e), cell_keeps k r1 (fun e => e)⟩
      have hb1 : (X1.toList == X1.toList) = true := by rw [beq_bytes]; simp
      have hb2 : (X2.toList == X2.toList) = true := by rw [beq_bytes]; simp
      have z0 : (0 : Int) ≤ (i : Int) := by omega
      have z1 : (i : Int) < (l.length : Int) := by omega
      clear hx hX1 hX2 hq hq2
      go_wp2_with fail
      go_region_held3 (fun W => W.cell? ⟨g, off + i * 2, none⟩ = some (.string X1) ∧ W.cell? ⟨g, off + i * 2 + 1, none⟩ = some (.string X2) ∧ W.cell? ⟨g2, off2 + i * 2, none⟩ = some (.string X1) ∧ W.cell? ⟨g2, off2 + i * 2 + 1, none⟩ = some (.string X2)) (first | exact HS.out _ ((Keeps.refl (fun _ => False) wr).drew) | exact HS.out _ kA) (first | (go_at_call 63; refine hadr.mono ?_; rintro e w3 ⟨rfl, k3⟩; have kA : Fresh wr w3 := ((Keeps.refl (fun _ => False) wr).drew).trans k3))
      have k9 : Fresh w w3 := kk.trans kA
      clear k3 kA hadr q0 q1 r0 r1
      go_wp2_with fail
      go_roundw
      case rel => exact ⟨i + 1, by omega, by go_num, k9⟩
      case measure => simp [intOf]; omega
    · have ei : i = l.length := by omega
      subst ei
      have z1 : ¬ (l.length : Int) < (l.length : Int) := by omega
      go_wp2_with fail
      go_ret
      exact ⟨rfl, kk⟩

set_option maxHeartbeats 8000000 in
set_option maxRecDepth 100000 in
theorem same_true (fa fb dd : ByteArray) (ao bo : Option Addr) (ca cb : Nat) (l : List Ltr) (w : World) (hn : l.length ≤ 1099511627776) (ha : AdRd w ao l) (hb : AdRd w bo l) :
    Calls Tryz.prog 54 #[mailV fa fb (.slice ao l.length ca) dd, mailV fa fb (.slice bo l.length cb) dd] w fun e w' => e = .returned (.bool true) ∧ Fresh w w' := by
  have f1 : Fresh w ((w.alloc (.cells #[.string fa, .string fb, .slice ao l.length ca, .string dd] 59)).alloc (.cells #[.string fa, .string fb, .slice bo l.length cb, .string dd] 30)) := ((Keeps.refl _ _).alloc _).alloc _
  obtain ⟨hx0, hy0⟩ := heap2 w (.cells #[.string fa, .string fb, .slice ao l.length ca, .string dd] 59) (.cells #[.string fa, .string fb, .slice bo l.length cb, .string dd] 30)
  have HA : Hid (AdRd w ao l) := ha
  have HB : Hid (AdRd w bo l) := hb
  clear ha hb
  unfold mailV at *
  go_enter Tryz.func54, Tryz.ntmps54
  go_upto_region 1 with fail
  generalize (w.alloc (.cells #[.string fa, .string fb, .slice ao l.length ca, .string dd] 59)).alloc (.cells #[.string fa, .string fb, .slice bo l.length cb, .string dd] 30) = w2 at *
  have HS : Hid (∀ W, Fresh w2 W → W.cell? ⟨w.heap.size, 0, none⟩ = some (.string fa) ∧ W.cell? ⟨w.heap.size, 1, none⟩ = some (.string fb) ∧ W.cell? ⟨w.heap.size, 2, none⟩ = some (.slice ao l.length ca) ∧ W.cell? ⟨w.heap.size, 3, none⟩ = some (.string dd) ∧ W.cell? ⟨w.heap.size + 1, 0, none⟩ = some (.string fa) ∧ W.cell? ⟨w.heap.size + 1, 1, none⟩ = some (.string fb) ∧ W.cell? ⟨w.heap.size + 1, 2, none⟩ = some (.slice bo l.length cb) ∧ W.cell? ⟨w.heap.size + 1, 3, none⟩ = some (.string dd)) := fun W k => by
    obtain ⟨a0, a1, a2, a3, _⟩ := mcells (k.heap hx0 (fun e => e))
    obtain ⟨b0, b1, b2, b3, _⟩ := mcells (k.heap hy0 (fun e => e))
    exact ⟨a0, a1, a2, a3, b0, b1, b2, b3⟩
  have hadr := address_law fa fb w2.drew
  have hb1 : (fa.toList == fa.toList) = true := by rw [beq_bytes]; simp
  have hb2 : (fb.toList == fb.toList) = true := by rw [beq_bytes]; simp
  have hb3 : (dd.toList == dd.toList) = true := by rw [beq_bytes]; simp
  go_region_held3 (fun W => W.cell? ⟨w.heap.size, 0, none⟩ = some (.string fa) ∧ W.cell? ⟨w.heap.size, 1, none⟩ = some (.string fb) ∧ W.cell? ⟨w.heap.size, 2, none⟩ = some (.slice ao l.length ca) ∧ W.cell? ⟨w.heap.size, 3, none⟩ = some (.string dd) ∧ W.cell? ⟨w.heap.size + 1, 0, none⟩ = some (.string fa) ∧ W.cell? ⟨w.heap.size + 1, 1, none⟩ = some (.string fb) ∧ W.cell? ⟨w.heap.size + 1, 2, none⟩ = some (.slice bo l.length cb) ∧ W.cell? ⟨w.heap.size + 1, 3, none⟩ = some (.string dd)) (first | exact HS.out _ ((Keeps.refl (fun _ => False) w2).drew) | exact HS.out _ kA) (first | (go_at_call 63; refine hadr.mono ?_; rintro e w3 ⟨rfl, k3⟩; have kA : Fresh w2 w3 := ((Keeps.refl (fun _ => False) w2).drew).trans k3))
  clear k3 hadr
  go_wp2_with fail
  go_loopw [5] (fun t5 wr => ∃ i : Nat, i ≤ l.length ∧ t5 = .int .i64 i ∧ Fresh w2 wr) (fun t5 _ => l.length - (intOf t5).toNat)
  case atStart => exact ⟨0, Nat.zero_le _, rfl, kA⟩
  case round =>
    obtain ⟨i, h1, rfl, kk⟩ := hrel
    obtain ⟨_, _, a2, _, _, _, b2, _⟩ := HS.out wr kk
    by_cases hlt : i < l.length
    · obtain ⟨x, hx⟩ : ∃ x, l[i]? = some x := ⟨l[i], List.getElem?_eq_getElem hlt⟩
      obtain ⟨g, off, rfl, hq⟩ := (HA.out.fresh (f1.trans kk)) (by omega)
      obtain ⟨g2, off2, rfl, hq2⟩ := (HB.out.fresh (f1.trans kk)) (by omega)
      obtain ⟨q0, q1⟩ := hq i x hx
      obtain ⟨r0, r1⟩ := hq2 i x hx
      obtain ⟨X1, hX1⟩ : ∃ X1 : ByteArray, X1 = ⟨x.1.toArray⟩ := ⟨_, rfl⟩
      obtain ⟨X2, hX2⟩ : ∃ X2 : ByteArray, X2 = ⟨x.2.toArray⟩ := ⟨_, rfl⟩
      rw [← hX1] at q0 r0
      rw [← hX2] at q1 r1
      have hadr := address_law X1 X2 wr.drew
      have HQ : Hid (∀ W, Fresh wr W → W.cell? ⟨w.heap.size, 2, none⟩ = some (.slice (some ⟨g, off, none⟩) l.length ca) ∧ W.cell? ⟨w.heap.size + 1, 2, none⟩ = some (.slice (some ⟨g2, off2, none⟩) l.length cb) ∧ W.cell? ⟨g, off + i * 2, none⟩ = some (.string X1) ∧ W.cell? ⟨g, off + i * 2 + 1, none⟩ = some (.string X2) ∧ W.cell? ⟨g2, off2 + i * 2, none⟩ = some (.string X1) ∧ W.cell? ⟨g2, off2 + i * 2 + 1, none⟩ = some (.string X2)) := fun W k => ⟨cell_keeps k a2 (fun e => e), cell_keeps k b2 (fun e => e), cell_keeps k q0 (fun e => e), cell_keeps k q1 (fun e => e), cell_keeps k r0 (fun e => e), cell_keeps k r1 (fun e => e)⟩
      have hc1 : (X1.toList == X1.toList) = true := by rw [beq_bytes]; simp
      have hc2 : (X2.toList == X2.toList) = true := by rw [beq_bytes]; simp
      have z0 : (0 : Int) ≤ (i : Int) := by omega
      have z1 : (i : Int) < (l.length : Int) := by omega
      clear hx hX1 hX2 hq hq2
      go_wp2_with fail
      go_region_held3 (fun W => W.cell? ⟨w.heap.size, 2, none⟩ = some (.slice (some ⟨g, off, none⟩) l.length ca) ∧ W.cell? ⟨w.heap.size + 1, 2, none⟩ = some (.slice (some ⟨g2, off2, none⟩) l.length cb) ∧ W.cell? ⟨g, off + i * 2, none⟩ = some (.string X1) ∧ W.cell? ⟨g, off + i * 2 + 1, none⟩ = some (.string X2) ∧ W.cell? ⟨g2, off2 + i * 2, none⟩ = some (.string X1) ∧ W.cell? ⟨g2, off2 + i * 2 + 1, none⟩ = some (.string X2)) (first | exact HQ.out _ ((Keeps.refl (fun _ => False) wr).drew) | exact HQ.out _ kB) (first | (go_at_call 63; refine hadr.mono ?_; rintro e w4 ⟨rfl, k4⟩; have kB : Fresh wr w4 := ((Keeps.refl (fun _ => False) wr).drew).trans k4))
      have k9 : Fresh w2 w4 := kk.trans kB
      clear k4 kB hadr q0 q1 r0 r1 a2 b2
      go_wp2_with fail
      go_roundw
      case rel => exact ⟨i + 1, by omega, by go_num, k9⟩
      case measure => simp [intOf]; omega
    · have ei : i = l.length := by omega
      subst ei
      have z1 : ¬ (l.length : Int) < (l.length : Int) := by omega
      go_wp2_with fail
      go_ret
      exact ⟨rfl, f1.trans kk⟩

end Go.Proofs.YtegbkpjcjlihmabGreatDoor
