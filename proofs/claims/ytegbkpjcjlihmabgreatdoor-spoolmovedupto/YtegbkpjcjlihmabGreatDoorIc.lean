/-
  The spool's Done. | The spool's Done, of somebody who is left.
-/
import Derived.Test.YtegbkpjcjlihmabGreatDoorIb
namespace Go.Proofs.YtegbkpjcjlihmabGreatDoor
open Go.RowKit Go.Maps Go.Sort Go.Lib Go.ChangeMaps Go.WideMaps

def markWs (id n : Int) : List Wr := [(1, mName id, markT n), (2, mName id, [])]
def dropWs (id : Int) : List Wr := [(3, mName id, []), (5, [], [])]

section
variable {w w0 : World} {A : Nat → Prop} {d s : Nat} {σ : Dk} {K : List Text} {C L : Nat}

theorem do_mark (h : Live w w0 A d K C L σ) (lv mv : Value) (b : Bool) (hsp : w0.heap[s]? = some (spoolCells d lv mv b)) (hsA : ¬ A s) (hsw : w.heap.size ≤ s) (NB MB : ByteArray) (hN : NB.size ≤ maxLen) (hM : MB.size ≤ 1099511627776) (hC : C + 2 ≤ 1099511627776) (hL : L + MB.size ≤ 1099511627776) (w1 : World) (k1 : Fresh w0 w1) :
    Calls Tryz.prog 52 #[ptr s, .slice (some ⟨w1.heap.size + 5, 0, none⟩) 2 2] ((((((w1.alloc (.cells #[meth 17 d] 49)).alloc (.cells #[.string NB] 9)).alloc (.cells #[.string MB] 9)).alloc (.cells #[meth 59 d] 48)).alloc (.cells #[.string NB] 9)).alloc (.cells #[c95 w1.heap.size, c94 (w1.heap.size + 3)] 128))
      (SDone w w0 A d s K (C + 2) (L + MB.size) lv mv (([(1, NB.data.toList, MB.data.toList), (2, NB.data.toList, [])] : List Wr).map Wr.rel) b σ) := by
  have f3 : Fresh w1 (((w1.alloc (.cells #[meth 17 d] 49)).alloc (.cells #[.string NB] 9)).alloc (.cells #[.string MB] 9)) := (((Keeps.refl _ _).alloc _).alloc _).alloc _
  have a1 := heap3 w1 (.cells #[meth 17 d] 49) (.cells #[.string NB] 9) (.cells #[.string MB] 9)
  have es3 : (((w1.alloc (.cells #[meth 17 d] 49)).alloc (.cells #[.string NB] 9)).alloc (.cells #[.string MB] 9)).heap.size = w1.heap.size + 3 := by simp
  generalize ((w1.alloc (.cells #[meth 17 d] 49)).alloc (.cells #[.string NB] 9)).alloc (.cells #[.string MB] 9) = w2 at *
  have a2 := heap2 w2 (.cells #[meth 59 d] 48) (.cells #[.string NB] 9)
  have f2 : Fresh w2 ((w2.alloc (.cells #[meth 59 d] 48)).alloc (.cells #[.string NB] 9)) := ((Keeps.refl _ _).alloc _).alloc _
  have es2 : ((w2.alloc (.cells #[meth 59 d] 48)).alloc (.cells #[.string NB] 9)).heap.size = w2.heap.size + 2 := by simp
  generalize (w2.alloc (.cells #[meth 59 d] 48)).alloc (.cells #[.string NB] 9) = w3 at *
  have kf : Fresh w3 (w3.alloc (.cells #[c95 w1.heap.size, c94 (w1.heap.size + 3)] 128)) := (Keeps.refl _ _).alloc _
  have hrow := row_built w3 128 [c95 w1.heap.size, c94 (w1.heap.size + 3)] 2 rfl (by omega)
  have e5 : w3.heap.size = w1.heap.size + 5 := by omega
  rw [e5] at hrow
  have g2 := f2.trans kf
  have p1 := g2.heap a1.1 (fun e => e)
  have q1 := g2.heap a1.2.1 (fun e => e)
  have r1 := g2.heap a1.2.2 (fun e => e)
  have p2 := kf.heap a2.1 (fun e => e)
  have q2 := kf.heap a2.2 (fun e => e)
  rw [es3] at p2 q2
  have kk : Fresh w0 (w3.alloc (.cells #[c95 w1.heap.size, c94 (w1.heap.size + 3)] 128)) := (k1.trans f3).trans g2
  have s1 := k1.size
  have hsl := heap_lt hsp
  have hA : ∀ i, A i → i < w0.heap.size := fun i hi => (h.1 i hi).2
  have h3 := h.fresh kk
  have hsp3 := kk.heap hsp (fun e => e)
  generalize w3.alloc (.cells #[c95 w1.heap.size, c94 (w1.heap.size + 3)] 128) = w9 at *
  have hB : ∀ {k : Nat} {o : Obj}, w9.heap[k]? = some o → w1.heap.size ≤ k → (fun k => w1.heap.size ≤ k ∧ k < w9.heap.size) k := fun hk hle => ⟨hle, heap_lt hk⟩
  refine (sdo_any h3 lv mv b hsp3 hsA hsw (B := fun k => w1.heap.size ≤ k ∧ k < w9.heap.size) (fun k hk => ⟨fun e => by have := hA k e; omega, by omega, hk.2⟩) (w1.heap.size + 5) _ [c95 w1.heap.size, c94 (w1.heap.size + 3)]
    (([(1, NB.data.toList, MB.data.toList), (2, NB.data.toList, [])] : List Wr).map Wr.rel) [MB.size, 0] hrow (fun k hk => ⟨by have := (hrow.lt k hk).1; omega, (hrow.lt k hk).2⟩) rfl rfl (fun i v R m h1 h2 h3 => ?_) (by simpa using hC) (by simpa using hL)).mono ?_
  · match i, h1, h2, h3 with
    | 0, h1, h2, h3 =>
      obtain rfl := Option.some.inj (show some (c95 w1.heap.size) = some v from h1)
      obtain rfl := Option.some.inj (show some (Wr.rel (1, NB.data.toList, MB.data.toList)) = some R from h2)
      obtain rfl := Option.some.inj (show some (MB.size) = some m from h3)
      exact doesW_append p1 (hB p1 (by omega)) q1 (hB q1 (by omega)) r1 (hB r1 (by omega)) hN hM
    | 1, h1, h2, h3 =>
      obtain rfl := Option.some.inj (show some (c94 (w1.heap.size + 3)) = some v from h1)
      obtain rfl := Option.some.inj (show some (Wr.rel (2, NB.data.toList, [])) = some R from h2)
      obtain rfl := Option.some.inj (show some (0) = some m from h3)
      exact doesW_sync p2 (hB p2 (by omega)) q2 (hB q2 (by omega)) hN
  · intro e w' hd
    have hd' : SDone w w9 A d s K (C + 2) (L + MB.size) lv mv (([(1, NB.data.toList, MB.data.toList), (2, NB.data.toList, [])] : List Wr).map Wr.rel) b σ e w' := by
      have := hd
      simpa using this
    exact hd'.elder (h3.mono (by omega) (by omega)) kk hA h.2.2.2.size

end

section
variable {w wr w' : World} {A : Nat → Prop} {d s : Nat} {L L' : Nat} {mw N : Nat} {P P' : Int → Lefts → Prop} {lv lv' : Int} {b b' : Bool} {W : Waits} {σ : Dk} {K : List Text} {C : Nat} {l : List Wg}

/-- what stands behind Done of somebody who is left -/
def DoneDone (w w0 : World) (A : Nat → Prop) (d : Nat) (K : List Text) (C L : Nat) (σ : Dk) (s mw N : Nat) (lv : Int) (W : Waits) (l : List Wg) (g : Wg) (p : Ltr) (e : Ending) (w' : World) : Prop :=
  ∃ (b' : Bool) (σ' : Dk) (A' : Nat → Prop) (W' : Waits), sdo ((if g.2.2 = [p] then dropWs g.1 else markWs g.1 ((once (mlTo g.2.1)).idxOf p : Int)).map Wr.rel) false σ b' σ' ∧ e = .returned (.int .i64 (if b' = true then 6 else 0)) ∧ Live w w' A' d K (C + 2) (L + 30) σ' ∧ (∀ i, A' i → A i ∨ w0.heap.size ≤ i) ∧
    (∀ n k, W' n = some k → W n = some k) ∧ Keeps (fun i => A i ∨ i = s ∨ i = mw ∨ ∃ n, W n = some i) w0 w' ∧
    ((b' = true ∧ W' = W ∧ SpAt w A' d L s mw N (Pm l) lv true W' w') ∨ (b' = false ∧ SpAt w A' d L s mw N (Pm (gone l g.1 p)) lv false W' w' ∧ Dom (gone l g.1 p) W'))

/-- what there is of a mail in memory -/
theorem SpAt.of (S : SpAt w A d L s mw N (Pm l) lv b W wr) (hD : Dom l W) (hW : Wgs l lv') {g : Wg} (hg : g ∈ l) (hto : ∀ q ∈ mlTo g.2.1, okA q) (hln : (mlTo g.2.1).length < 1099511627776) :
    ∃ k nn, W g.1 = some k ∧ w.heap.size ≤ k ∧ ¬ A k ∧ nn ≤ L ∧ LeftAt wr k nn g.2.2.length (leftM (mlTo g.2.1) g.2.2) ∧ okM (leftM (mlTo g.2.1) g.2.2) ∧ Ordered (leftM (mlTo g.2.1) g.2.2) g.2.2 := by
  obtain ⟨_, _, _, _, h5⟩ := hW.mem g hg
  have ho := leftM_ordered h5 (fun p hp => hto p (once_in (h5.subset hp)))
  obtain ⟨k, hk⟩ := Option.isSome_iff_exists.1 ((hD g.1).2 (List.mem_map_of_mem hg))
  obtain ⟨p1, p0, nn, c, M, p2, p3, p4, g', hg', e, rfl⟩ := S.lft g.1 k hk
  obtain rfl := ids_inj hW.up hg' hg e
  have hc := p3.count ho
  subst hc
  exact ⟨k, nn, hk, p1, p0, p2, p3, p4, ho⟩

theorem Dom.gone (hD : Dom l W) {id : Int} (h : id ∉ ids l) : W id = none := by
  cases e : W id with
  | none => rfl
  | some k => exact absurd ((hD id).1 (by rw [e]; rfl)) h

end

section
variable {w wr w' : World} {A : Nat → Prop} {d s : Nat} {L : Nat} {mw N : Nat} {lv lv' : Int} {b : Bool} {W : Waits} {σ : Dk} {K : List Text} {C : Nat} {l : List Wg}

set_option maxHeartbeats 8000000 in
set_option maxRecDepth 100000 in
theorem done_dead (S : SpAt w A d L s mw N (Pm l) lv true W wr) (id : Int) (ta tb : ByteArray) :
    Calls Tryz.prog 78 #[ptr s, .int .i64 id, .agg #[.string ta, .string tb]] wr fun e w' => e = .returned (.int .i64 6) ∧ Fresh wr w' := by
  have f0 : Fresh wr (wr.alloc (.cells #[.string ta, .string tb] 56)) := (Keeps.refl _ _).alloc _
  obtain ⟨c0, c1, c2, c3, _, _, _, _⟩ := mcells (S.fresh f0).sp
  clear S
  unfold ptr at *
  go_enter Tryz.func78, Tryz.ntmps78
  go_upto_region 1 with fail
  generalize wr.alloc (.cells #[.string ta, .string tb] 56) = w1 at *
  go_wp2_with fail
  go_ret
  exact ⟨rfl, f0⟩

set_option maxHeartbeats 8000000 in
set_option maxRecDepth 100000 in
theorem done_none (S : SpAt w A d L s mw N (Pm l) lv false W wr) (id : Int) (hid : okI id) (ta tb : ByteArray) (hok : okA (ta.data.toList, tb.data.toList)) (hno : ∀ g ∈ l, g.1 = id → (ta.data.toList, tb.data.toList) ∉ g.2.2) :
    Calls Tryz.prog 78 #[ptr s, .int .i64 id, .agg #[.string ta, .string tb]] wr fun e w' => e = .returned (.int .i64 4) ∧ Fresh wr w' := by
  have f0 : Fresh wr (wr.alloc (.cells #[.string ta, .string tb] 56)) := (Keeps.refl _ _).alloc _
  have hb0 := heap_new wr (.cells #[.string ta, .string tb] 56)
  have S1 := S.fresh f0
  obtain ⟨c0, c1, c2, c3, _, _, _, _⟩ := mcells S1.sp
  have hlook : ∃ mv : Value, (∀ n, (Instr.lookup 120 (.map (some mw)) (.int .i64 id) false).run Tryz.prog ((wr.alloc (.cells #[.string ta, .string tb] 56)).drewN n) = .ok mv ((wr.alloc (.cells #[.string ta, .string tb] 56)).drewN n)) ∧ ∀ n, (Instr.lookup 134 mv (.agg #[.string ta, .string tb]) true).run Tryz.prog ((wr.alloc (.cells #[.string ta, .string tb] 56)).drewN n) = .ok (.tuple #[.int .i64 0, .bool false]) ((wr.alloc (.cells #[.string ta, .string tb] 56)).drewN n) := by
    have e56 : addrV (ta.data.toList, tb.data.toList) = .agg #[.string ta, .string tb] := rfl
    cases hk : W id with
    | none =>
      refine ⟨.map none, fun n => ((S1.fresh ((Keeps.refl _ _).drewN n)).wt.get id hid).1 hk, fun n => ?_⟩
      have := Maps.look_nil (P := Tryz.prog) (k := 56) (w := (wr.alloc (.cells #[.string ta, .string tb] 56)).drewN n) (t := 134) (e := 3) true law56 Tryz.underlying134 (zero3 _) (keyA_at _ hok)
      rw [e56] at this
      exact this
    | some k =>
      obtain ⟨_, _, nn, c, M, _, p3, _, g', hg', e', rfl⟩ := S1.lft id k hk
      refine ⟨.map (some k), fun n => ((S1.fresh ((Keeps.refl _ _).drewN n)).wt.get id hid).2 k hk, fun n => ?_⟩
      have hM : leftM (mlTo g'.2.1) g'.2.2 (ta.data.toList, tb.data.toList) = none := if_neg (hno g' hg' e')
      have := ((((Keeps.refl (fun _ => False) _).drewN n).leftAt p3 (fun e => e)).look _ hok 134 Tryz.underlying134).1 hM
      rw [e56] at this
      exact this
  obtain ⟨mv, hl1, hl2⟩ := hlook
  obtain ⟨t0, t1, _, _⟩ := cells2 hb0
  clear S S1 hno
  unfold ptr at *
  go_enter Tryz.func78, Tryz.ntmps78
  go_upto_region 1 with fail
  generalize wr.alloc (.cells #[.string ta, .string tb] 56) = w1 at *
  go_wp2_with fail
  go_quiet (fail)
  go_wp2_with fail
  go_ret
  exact ⟨rfl, f0.drewN _⟩

end
end Go.Proofs.YtegbkpjcjlihmabGreatDoor

namespace Go.Proofs.YtegbkpjcjlihmabGreatDoor
open Go.RowKit Go.Maps Go.Sort Go.Lib Go.ChangeMaps Go.WideMaps

section
variable {w wr w' : World} {A : Nat → Prop} {d s : Nat} {L : Nat} {mw N : Nat} {P P' : Int → Lefts → Prop} {lv lv' : Int} {b b' : Bool} {W W' : Waits} {σ : Dk} {K : List Text} {C : Nat} {l : List Wg}

theorem SpAt.dropped (S : SpAt w A d L s mw N P lv b W wr) (hsp : w'.heap[s]? = some (spoolCells d (.int .i64 lv) (.map (some mw)) b')) (hwt : WaitsAt w' mw N W') (hsub : ∀ n k, W' n = some k → W n = some k) (kk : Keeps (fun i => A i ∨ i = s ∨ i = mw) wr w') (hP : ∀ n M, (W' n).isSome = true → P n M → P' n M) :
    SpAt w (ext A wr w') d L s mw N P' lv b' W' w' := by
  have hnA : ∀ i, i < wr.heap.size → ¬ A i → ¬ ext A wr w' i := fun i h1 h2 e => e.elim h2 (fun e => by omega)
  refine ⟨hsp, hwt, fun n n' k h1 h2 => S.inj n n' k (hsub _ _ h1) (hsub _ _ h2), fun n k hk => ?_, hnA _ S.lt S.nS, hnA _ S.wt.lt S.nM, S.wS, S.wM, S.ne, S.ok, fun n k hk => S.nW n k (hsub _ _ hk)⟩
  have hk' := hsub n k hk
  obtain ⟨p1, p0, nn, c, M, p2, p3, p4, p5⟩ := S.lft n k hk'
  exact ⟨p1, hnA k p3.lt p0, nn, c, M, p2, kk.leftAt p3 (fun e => e.elim p0 (fun e => e.elim (S.neS hk') (S.nW n k hk'))), p4, hP n M (by rw [hk]; rfl) p5⟩

theorem SpAt.marked (S : SpAt w A d L s mw N P lv b W wr) {id : Int} {k nn c : Nat} {M : Lefts} (hk : W id = some k) (hL : LeftAt w' k nn c M) (hnn : nn ≤ L) (hM : okM M) (kk : Keeps (fun i => i = k) wr w') (hP1 : ∀ n M, n ≠ id → P n M → P' n M) (hP2 : P' id M) :
    SpAt w A d L s mw N P' lv b W w' := by
  refine ⟨kk.heap S.sp (fun e => S.neS hk e.symm), kk.waitsAt S.wt (fun e => S.nW id k hk e.symm), S.inj, fun n j hj => ?_, S.nS, S.nM, S.wS, S.wM, S.ne, S.ok, S.nW⟩
  obtain ⟨p1, p0, nn', c', M', p2, p3, p4, p5⟩ := S.lft n j hj
  by_cases e : n = id
  · subst e
    obtain rfl : j = k := Option.some.inj (hj.symm.trans hk)
    exact ⟨p1, p0, nn, c, M, hnn, hL, hM, hP2⟩
  · exact ⟨p1, p0, nn', c', M', p2, kk.leftAt p3 (fun e2 => e (S.inj n id j hj (by rw [e2]; exact hk))), p4, hP1 n M' e p5⟩

set_option maxHeartbeats 8000000 in
set_option maxRecDepth 100000 in
theorem done_some (h : Live w wr A d K C L σ) (hG : Gl w) (S : SpAt w A d L s mw N (Pm l) lv false W wr) (hD : Dom l W) (hW : Wgs l lv') {g : Wg} (hg : g ∈ l) (hto : ∀ q ∈ mlTo g.2.1, okA q) (hln : (mlTo g.2.1).length < 1099511627776) (ta tb : ByteArray) (hp : (ta.data.toList, tb.data.toList) ∈ g.2.2)
    (hK : K.length ≤ 1099511627776) (hC : C + 2 ≤ 1099511627776) (hL : L + 30 ≤ 1099511627776) :
    Calls Tryz.prog 78 #[ptr s, .int .i64 g.1, .agg #[.string ta, .string tb]] wr (DoneDone w wr A d K C L σ s mw N lv W l g (ta.data.toList, tb.data.toList)) := by
  obtain ⟨g1, g2, g3, g4, g5⟩ := hW.mem g hg
  have hhi := hW.hi
  have hid : okI g.1 := ⟨by omega, by omega⟩
  have hok : okA (ta.data.toList, tb.data.toList) := hto _ (once_in (g5.subset hp))
  have f0 : Fresh wr (wr.alloc (.cells #[.string ta, .string tb] 56)) := (Keeps.refl _ _).alloc _
  have hb0 := heap_new wr (.cells #[.string ta, .string tb] 56)
  have S1 := S.fresh f0
  have h1 := h.fresh f0
  obtain ⟨k, nn, hk, hk1, hk2, hnn, hLk, hMk, hOk⟩ := S1.of hD hW hg hto hln
  have hx : leftM (mlTo g.2.1) g.2.2 (ta.data.toList, tb.data.toList) = some ((once (mlTo g.2.1)).idxOf (ta.data.toList, tb.data.toList) : Int) := if_pos hp
  obtain ⟨x, hxx⟩ : ∃ x : Nat, x = (once (mlTo g.2.1)).idxOf (ta.data.toList, tb.data.toList) := ⟨_, rfl⟩
  have hxl : x < 1099511627776 := by
    have := List.idxOf_lt_length_iff.2 (g5.subset hp)
    have := once_len (mlTo g.2.1)
    omega
  rw [← hxx] at hx
  have e56 : addrV (ta.data.toList, tb.data.toList) = .agg #[.string ta, .string tb] := rfl
  have hlook : ∀ W0, Fresh (wr.alloc (.cells #[.string ta, .string tb] 56)) W0 → (Instr.lookup 120 (.map (some mw)) (.int .i64 g.1) false).run Tryz.prog W0 = .ok (.map (some k)) W0 ∧ (Instr.lookup 134 (.map (some k)) (.agg #[.string ta, .string tb]) true).run Tryz.prog W0 = .ok (.tuple #[.int .i64 x, .bool true]) W0 ∧ ∀ ty, (Builtin.len_ #[134] ty #[.map (some k)]).run Tryz.prog W0 = .ok (.int .i64 g.2.2.length) W0 := fun W0 k0 => by
    refine ⟨((S1.fresh k0).wt.get g.1 hid).2 k hk, ?_, fun ty => (k0.leftAt hLk (fun e => e)).len 134 Tryz.underlying134 ty⟩
    have := ((k0.leftAt hLk (fun e => e)).look _ hok 134 Tryz.underlying134).2 _ hx
    rw [e56] at this
    exact this
  have HLK : Hid (∀ W0, Fresh (wr.alloc (.cells #[.string ta, .string tb] 56)) W0 → (Instr.lookup 120 (.map (some mw)) (.int .i64 g.1) false).run Tryz.prog W0 = .ok (.map (some k)) W0 ∧ (Instr.lookup 134 (.map (some k)) (.agg #[.string ta, .string tb]) true).run Tryz.prog W0 = .ok (.tuple #[.int .i64 x, .bool true]) W0 ∧ ∀ ty, (Builtin.len_ #[134] ty #[.map (some k)]).run Tryz.prog W0 = .ok (.int .i64 g.2.2.length) W0) := hlook
  have hl1 : ∀ n, (Instr.lookup 120 (.map (some mw)) (.int .i64 g.1) false).run Tryz.prog ((wr.alloc (.cells #[.string ta, .string tb] 56)).drewN n) = .ok (.map (some k)) ((wr.alloc (.cells #[.string ta, .string tb] 56)).drewN n) := fun n => (hlook _ ((Keeps.refl _ _).drewN n)).1
  have hl2 : ∀ n, (Instr.lookup 134 (.map (some k)) (.agg #[.string ta, .string tb]) true).run Tryz.prog ((wr.alloc (.cells #[.string ta, .string tb] 56)).drewN n) = .ok (.tuple #[.int .i64 x, .bool true]) ((wr.alloc (.cells #[.string ta, .string tb] 56)).drewN n) := fun n => (hlook _ ((Keeps.refl _ _).drewN n)).2.1
  have HS1 : Hid (SpAt w A d L s mw N (Pm l) lv false W (wr.alloc (.cells #[.string ta, .string tb] 56))) := S1
  have H1 : Hid (Live w (wr.alloc (.cells #[.string ta, .string tb] 56)) A d K C L σ) := h1
  have HLk : Hid (LeftAt (wr.alloc (.cells #[.string ta, .string tb] 56)) k nn g.2.2.length (leftM (mlTo g.2.1) g.2.2)) := hLk
  have HF0 : Hid (Fresh wr (wr.alloc (.cells #[.string ta, .string tb] 56))) := f0
  have hA : ∀ i, A i → i < wr.heap.size := fun i hi => (h.1 i hi).2
  have hsl := S.lt
  have hwr := f0.size
  have hst : g.2.2.length = 1 ↔ g.2.2 = [(ta.data.toList, tb.data.toList)] := by
    constructor
    · intro e
      obtain ⟨q, hq⟩ := List.length_eq_one_iff.1 e
      rw [hq] at hp ⊢
      simp at hp
      rw [hp]
    · intro e; rw [e]; rfl
  have HST : Hid (g.2.2.length = 1 ↔ g.2.2 = [(ta.data.toList, tb.data.toList)]) := hst
  have HX : Hid (x = (once (mlTo g.2.1)).idxOf (ta.data.toList, tb.data.toList)) := hxx
  obtain ⟨c0, c1, c2, c3, _, _, _, _⟩ := mcells S1.sp
  obtain ⟨t0, t1, _, _⟩ := cells2 hb0
  clear S h S1 h1 hlook hLk f0 hst hxx hx
  unfold ptr at *
  go_enter Tryz.func78, Tryz.ntmps78
  go_upto_region 1 with fail
  generalize wr.alloc (.cells #[.string ta, .string tb] 56) = w1 at *
  go_wp2_with fail
  go_quiet (fail)
  have k2 : Fresh w1 (w1.drewN nq) := (Keeps.refl _ _).drewN _
  obtain ⟨l1, _, l3⟩ := HLK.out _ k2
  have HS2 : Hid (SpAt w A d L s mw N (Pm l) lv false W (w1.drewN nq)) := HS1.out.fresh k2
  have H2 : Hid (Live w (w1.drewN nq) A d K C L σ) := H1.out.fresh k2
  have HK2 : Hid (Fresh w1 (w1.drewN nq)) := k2
  have b2 := k2.heap hb0 (fun e => e)
  clear hl1 hl2 c0 c1 c2 c3 t0 t1 hb0 k2
  generalize w1.drewN nq = w2 at *
  have HK02 : Hid (Fresh wr w2) := HF0.out.trans HK2.out
  have hw2 := HK02.out.size
  obtain ⟨c0, c1, c2, c3, _, _, _, _⟩ := mcells HS2.out.sp
  by_cases hone : g.2.2.length = 1
  · have hdrop := drop_any H2.out hG (.int .i64 lv) mw N W false HS2.out.sp HS2.out.nS HS2.out.wS HS2.out.wt HS2.out.nM HS2.out.wM HS2.out.ne g.1 hid hK hC (by omega)
    have hone' : ((g.2.2.length : Int) == 1) = true := by rw [hone]; rfl
    have HO : Hid (g.2.2 = [(ta.data.toList, tb.data.toList)]) := HST.out.1 hone
    clear hone HST
    unfold ptr at hdrop
    go_wp2_with fail
    refine hdrop.mono ?_
    rintro e w5 ⟨b', σ', rfl, hsd, hl5, hsp5, hwt5, k5⟩
    clear hdrop
    have hsub : ∀ n j, (if b' = true then W else delW W g.1) n = some j → W n = some j := fun n j hj => by
      split at hj
      · exact hj
      · unfold delW at hj
        split at hj
        · cases hj
        · exact hj
    have kk5 : Keeps (fun i => A i ∨ i = s ∨ i = mw ∨ ∃ n, W n = some i) wr w5 := (HK02.out.ofFresh).trans (k5.mono (fun i _ e => e.elim .inl (fun e => .inr (e.elim .inl (fun e => .inr (.inl e))))))
    have HE : Hid (DoneDone w wr A d K C L σ s mw N lv W l g (ta.data.toList, tb.data.toList) (.returned (.int .i64 (if b' = true then 6 else 0))) w5) := by
      refine ⟨b', σ', ext A w2 w5, _, ?_, rfl, hl5.mono (by omega) (by omega), fun i hi => hi.elim .inl (fun e => .inr (by omega)), hsub, kk5, ?_⟩
      · rw [if_pos HO.out]; exact hsd
      · cases b' with
        | true => exact .inl ⟨rfl, rfl, HS2.out.dropped hsp5 hwt5 hsub k5 (fun n M _ h => h)⟩
        | false =>
          refine .inr ⟨rfl, HS2.out.dropped hsp5 hwt5 hsub k5 (fun n M hn hP => ?_), hD.drop hW hg HO.out⟩
          refine Pm.other hW (fun e => ?_) hP
          have : delW W g.1 n = none := if_pos e
          have hn : (delW W g.1 n).isSome = true := hn
          rw [this] at hn
          cases hn
    clear hsd hl5 hsp5 hwt5 k5 hsub kk5
    cases b'
    all_goals (
      go_wp2_with fail
      go_ret
      exact HE.out)
  · have hone' : ((g.2.2.length : Int) == 1) = false := beq_eq_false_iff_ne.2 (by omega)
    have HO : Hid (¬ g.2.2 = [(ta.data.toList, tb.data.toList)]) := fun e => hone (HST.out.2 e)
    have hnum := numbered_any mailNoBB g.1 w2.drew (hG.fresh (H2.out.2.2.2.trans ((Keeps.refl _ _).drew))) (by decide) hid.1 hid.2
    obtain ⟨NB, hNB⟩ : ∃ NB, NB = numB mailNoBB g.1 := ⟨_, rfl⟩
    have hNs : NB.size ≤ maxLen := by rw [hNB]; exact numB_size g.1 hid
    have HN : Hid (NB.data.toList = mName g.1) := by rw [hNB]; exact mName_numB g.1
    rw [← hNB] at hnum
    have HC : Hid (∀ W0, Fresh w2 W0 → W0.cell? ⟨s, 0, none⟩ = some (.pointer (some ⟨d, 0, none⟩))) := fun W0 k0 => cell_keeps k0 c0 (fun e => e)
    clear hone HST hNB
    unfold mailNoBB at hnum
    go_wp2_with fail
    go_region_held3 (fun W1 => W1.cell? ⟨s, 0, none⟩ = some (.pointer (some ⟨d, 0, none⟩))) (first | exact HC.out _ ((Keeps.refl (fun _ => False) w2).drew) | exact HC.out _ kA) (first | (go_at_call 61; refine hnum.mono ?_; rintro e w3 ⟨rfl, k3⟩; have kA : Fresh w2 w3 := ((Keeps.refl (fun _ => False) w2).drew).trans k3))
    have HKA : Hid (Fresh w2 w3) := kA
    have HS3 : Hid (SpAt w A d L s mw N (Pm l) lv false W w3) := HS2.out.fresh kA
    have H3 : Hid (Live w w3 A d K C L σ) := H2.out.fresh kA
    have hmark := mark_any (x : Int) w3 (hG.fresh H3.out.2.2.2) (by omega) (by omega)
    obtain ⟨MB, hMB⟩ : ∃ MB, MB = markB (x : Int) := ⟨_, rfl⟩
    have HM : Hid (MB.data.toList = markT (x : Int)) := by rw [hMB]; rfl
    have hMs : MB.size ≤ 30 := by
      have := Lib.itoa_length_le (x : Int) (by omega) (by omega)
      have e1 : MB.size = MB.data.toList.length := rfl
      rw [e1, HM.out]
      unfold markT
      simp
      omega
    rw [← hMB] at hmark
    have hdo := do_mark H3.out (.int .i64 lv) (.map (some mw)) false HS3.out.sp HS3.out.nS HS3.out.wS NB MB hNs (by omega) hC (by omega)
    clear k3 kA hnum c0 c1 c2 c3 hMB
    unfold ptr at *
    go_wp2_with fail
    refine hmark.mono ?_
    rintro e w4 ⟨rfl, k4⟩
    have hdo' := hdo w4 k4
    have htwo := two_any 17 d NB MB w4
    have hone2 := fun W0 => one_any 59 d NB W0
    clear hdo hmark
    unfold ptr meth c94 c95 at *
    go_wp2_with fail
    refine htwo.mono ?_
    rintro e w5 ⟨rfl, rfl⟩
    clear htwo
    go_wp2_with fail
    refine (hone2 _).mono ?_
    rintro e w6 ⟨rfl, rfl⟩
    clear hone2
    go_wp2_with fail
    refine hdo'.mono ?_
    rintro e w7 ⟨b', σ', rfl, hsd, hl7, hsp7, k7⟩
    have hw34 := k4.size
    have hkA := HKA.out.size
    have k27 : Keeps (fun i => A i ∨ i = s) w2 w7 := HKA.out.ofFresh.trans k7
    have S7 := HS3.out.moved hsp7 k7
    have hnk : ¬ (A k ∨ k = s) := fun e => e.elim hk2 (HS3.out.neS hk)
    have L7 : LeftAt w7 k nn g.2.2.length (leftM (mlTo g.2.1) g.2.2) := k27.leftAt (HK2.out.leftAt HLk.out (fun e => e)) hnk
    have c27 := (mcells hsp7).2.2.1
    have b7 := k27.heap b2 (fun e => e.elim (fun e => by have := hA _ e; omega) (fun e => by omega))
    obtain ⟨t0, t1, _, _⟩ := cells2 b7
    have hsd' : sdo ((markWs g.1 ((once (mlTo g.2.1)).idxOf (ta.data.toList, tb.data.toList) : Int)).map Wr.rel) false σ b' σ' := by
      have e1 := HN.out
      have e2 := HM.out
      rw [HX.out] at e2
      rw [e1, e2] at hsd
      exact hsd
    have kk7 : Keeps (fun i => A i ∨ i = s ∨ i = mw ∨ ∃ n, W n = some i) wr w7 := (HK02.out.ofFresh).trans (k27.mono (fun i _ e => e.elim .inl (fun e => .inr (.inl e))))
    have HSD : Hid (sdo ((markWs g.1 ((once (mlTo g.2.1)).idxOf (ta.data.toList, tb.data.toList) : Int)).map Wr.rel) false σ b' σ') := hsd'
    have HS7 : Hid (SpAt w (ext A w3 w7) d L s mw N (Pm l) lv b' W w7) := S7
    have HL7 : Hid (LeftAt w7 k nn g.2.2.length (leftM (mlTo g.2.1) g.2.2)) := L7
    have H7 : Hid (Live w w7 (ext A w3 w7) d K (C + 2) (L + MB.size) σ') := hl7
    have HK7 : Hid (Keeps (fun i => A i ∨ i = s ∨ i = mw ∨ ∃ n, W n = some i) wr w7) := kk7
    have hk7 := k7.size
    have hkb : k ≠ wr.heap.size := ne_of_tag L7.tag (tag_cells b7) (by decide)
    have hks : k ≠ s := HS3.out.neS hk
    clear hdo' hsd hsd' hl7 hsp7 k7 k27 S7 L7 b7 kk7
    cases b' with
    | true =>
      go_wp2_with fail
      go_ret
      refine ⟨true, σ', ext A w3 w7, W, ?_, rfl, H7.out.mono (by omega) (by omega), fun i hi => hi.elim .inl (fun e => .inr (by omega)), fun n j hj => hj, HK7.out, .inl ⟨rfl, rfl, HS7.out⟩⟩
      rw [if_neg HO.out]
      exact HSD.out
    | false =>
      obtain ⟨w9, hrun, L9, k9, es9⟩ := (((Keeps.refl (fun _ => False) w7).drew).leftAt HL7.out (fun e => e)).del _ hok 134 Tryz.underlying134 0
      rw [e56] at hrun
      have hg7 := ((HS7.out.fresh ((Keeps.refl _ _).drew)).wt.get g.1 hid).2 k hk
      have HS9 : Hid (SpAt w (ext A w3 w7) d L s mw N (Pm (gone l g.1 (ta.data.toList, tb.data.toList))) lv false W w9) := by
        refine (HS7.out.fresh ((Keeps.refl _ _).drew)).marked hk L9 hnn (hMk.del _) k9 (fun n M hn hP => Pm.other hW hn hP) ?_
        exact Pm.mark hW hg HO.out
      have HK9 : Hid (Keeps (fun i => A i ∨ i = s ∨ i = mw ∨ ∃ n, W n = some i) wr w9) := (HK7.out.drew).then k9 (fun i _ e => .inr (.inr (.inr ⟨g.1, by rw [e]; exact hk⟩)))
      have H9 : Hid (Live w w9 (ext A w3 w7) d K (C + 2) (L + MB.size) σ') := by
        refine (H7.out.fresh ((Keeps.refl _ _).drew)).side k9 (fun i hi e => ?_) (fun i e => by omega)
        subst e
        obtain ⟨_, p0, _⟩ := HS7.out.lft g.1 i hk
        exact p0 hi
      have q9 : w9.cell? ⟨s, 2, none⟩ = some (.map (some mw)) ∧ w9.cell? ⟨wr.heap.size, 0, none⟩ = some (.string ta) ∧ w9.cell? ⟨wr.heap.size, 1, none⟩ = some (.string tb) := ⟨cell_keeps k9 (show w7.drew.cell? ⟨s, 2, none⟩ = _ from c27) (fun e => hks e.symm), cell_keeps k9 (show w7.drew.cell? ⟨wr.heap.size, 0, none⟩ = _ from t0) (fun e => hkb e.symm), cell_keeps k9 (show w7.drew.cell? ⟨wr.heap.size, 1, none⟩ = _ from t1) (fun e => hkb e.symm)⟩
      have HQ9 : Hid (w9.cell? ⟨s, 2, none⟩ = some (.map (some mw)) ∧ w9.cell? ⟨wr.heap.size, 0, none⟩ = some (.string ta) ∧ w9.cell? ⟨wr.heap.size, 1, none⟩ = some (.string tb)) := q9
      clear L9 k9 es9 q9
      go_wp2_with fail
      go_region_held3 (fun W1 => W1.cell? ⟨s, 2, none⟩ = some (.map (some mw)) ∧ W1.cell? ⟨wr.heap.size, 0, none⟩ = some (.string ta) ∧ W1.cell? ⟨wr.heap.size, 1, none⟩ = some (.string tb)) (first | exact ⟨c27, t0, t1⟩ | exact HQ9.out) (first | fail)
      clear hrun hg7
      go_wp2_with fail
      go_ret
      refine ⟨false, σ', ext A w3 w7, W, ?_, rfl, H9.out.mono (by omega) (by omega), fun i hi => hi.elim .inl (fun e => .inr (by omega)), fun n j hj => hj, HK9.out, .inr ⟨rfl, HS9.out, hD.mark hW hg HO.out⟩⟩
      rw [if_neg HO.out]
      exact HSD.out

end
end Go.Proofs.YtegbkpjcjlihmabGreatDoor
