/-
  The reference's lists of names: with.
-/
import Derived.Test.YtegbkpjcjlihmaaRb
namespace Go.Proofs.Ytegbkpjcjlihmaa
open Go.RowKit Go.Maps

/-- append(out, e) -/
theorem wpList_append_ent {ops : Array Oper} {rest : List Oper} {o : Oper} {a : Act} {wr : World} {Q : Exit → Act → World → Prop} (hgd : o.guard = none) (sx x : Operand)
    (ho : o.op = .call { callee := .builtin .append, args := #[sx, x], argTypes := #[109, 109] }) (base : Nat) (v : Value) (O : List Ent) (t : ByteArray) (n : Nat) (hs : a.eval sx = v) (hrow : EntsAt wr base v O) (hO : O.length ≤ 1099511627776) (hb : base ≤ wr.heap.size)
    (hx : a.eval x = .slice (some ⟨wr.heap.size, 0, none⟩) 1 1)
    (h : ∀ v' w', EntsAt w' base v' (O ++ [(t.data.toList, n)]) → Keeps (fun k => v.ownBlock = some k) wr w' → wpList Try.prog ops Q rest (a.put o.dst v') w') : wpList Try.prog ops Q (o :: rest) a (wr.alloc (.cells #[.string t, .int .i64 n] 115)) := by
  obtain ⟨i0, z0, hi0, hz0, hz1, hz2, hz3⟩ := info115'
  refine wpList_append_placed _ hgd sx x 109 ho base 115 i0 z0 2 24 Try.underlying109 hi0 hz0 hz2 hz3 hz1 (by decide) v O.length (rowOf O) hs (hrow.alloc _) ⟨wr.heap.size, 0, none⟩ 1 1 [.string t, .int .i64 n] hx rfl (cells_new2 _ _ _ _) (oneCell2 _ _) (by unfold maxLen; omega) (by omega) (by simp; omega) ?_
  intro v' w' hown hgrow _
  refine h v' w' ?_ (((Keeps.refl _ wr).alloc _).grown hgrow (fun k hk _ => hk))
  unfold EntsAt
  rw [rowOf_append, List.length_append]
  exact hown

theorem with_step (e a : Ent) (done : Bool) (O l R : List Ent) (h : O ++ withGo e done (a :: l) = R) :
    (O ++ (if !done && !decide (a.1 < e.1) then [e] else []) ++ (if a.1 = e.1 then [] else [a])) ++ withGo e (done || !decide (a.1 < e.1)) l = R := by
  rw [← h]
  simp only [withGo, List.append_assoc]

theorem with_length (e : Ent) : ∀ (d : Bool) (l : List Ent), (withGo e d l).length ≤ l.length + 1
  | d, [] => by cases d <;> simp [withGo]
  | d, a :: l => by
    have h1 := with_length e (d || !decide (a.1 < e.1)) l
    have h2 := with_done e l
    unfold withGo
    cases d with
    | true =>
      simp only [Bool.not_true, Bool.false_and, Bool.true_or, Bool.false_eq_true, if_false, List.nil_append, List.length_append, h2] at h1 ⊢
      have h3 := List.length_filter_le (fun a => decide (a.1 ≠ e.1)) l
      generalize (l.filter (fun a => decide (a.1 ≠ e.1))).length = q at h3 ⊢
      split <;> simp <;> omega
    | false =>
      by_cases hlt : a.1 < e.1
      · simp only [hlt, decide_true, Bool.not_true, Bool.and_false, Bool.or_false, Bool.false_eq_true, if_false, List.nil_append, List.length_append] at h1 ⊢
        split <;> simp <;> omega
      · simp only [hlt, decide_false, Bool.not_false, Bool.and_true, Bool.or_true, if_true, List.length_append, h2] at h1 ⊢
        have h3 := List.length_filter_le (fun a => decide (a.1 ≠ e.1)) l
        generalize (l.filter (fun a => decide (a.1 ≠ e.1))).length = q at h3 ⊢
        split <;> simp <;> omega

/-- i names are gone through; O is laid -/
structure WithAt (w wr : World) (l : List Ent) (s : ByteArray) (k i : Nat) (done : Bool) (t5 : Value) (O : List Ent) : Prop where
  row : EntsAt wr (w.heap.size + 1) t5 O
  eq : O ++ withGo (s.data.toList, k) done (l.drop i) = withE l (s.data.toList, k)
  fresh : Fresh w wr
  box : wr.heap[w.heap.size]? = some (.cells #[.string s, .int .i64 k] 115 (0, 0))

theorem WithAt.bound {w wr : World} {l : List Ent} {s : ByteArray} {k i : Nat} {done : Bool} {t5 : Value} {O : List Ent} (h : WithAt w wr l s k i done t5 O) (hl : l.length ≤ 1099511627) : O.length ≤ 1099511628 := by
  have h1 := with_length (s.data.toList, k) false l
  have h2 := congrArg List.length h.eq
  rw [List.length_append] at h2
  unfold withE at h2
  omega

theorem WithAt.over {w wr w1 : World} {l : List Ent} {s : ByteArray} {k i : Nat} {done : Bool} {t5 : Value} {O : List Ent} (h : WithAt w wr l s k i done t5 O) (f : Fresh wr w1) : WithAt w w1 l s k i done t5 O :=
  ⟨f.owns h.row (fun _ _ e => e), h.eq, h.fresh.trans f, f.heap h.box (fun e => e)⟩

/-- something is laid behind O -/
theorem WithAt.kept {w wr w1 : World} {l : List Ent} {s : ByteArray} {k i : Nat} {done : Bool} {t5 : Value} {O : List Ent} (h : WithAt w wr l s k i done t5 O) (f : Keeps (fun j => t5.ownBlock = some j) wr w1) : Fresh w w1 ∧ w1.heap[w.heap.size]? = some (.cells #[.string s, .int .i64 k] 115 (0, 0)) := by
  refine ⟨h.fresh.then f (fun j hj e => ?_), f.heap h.box (fun e => ?_)⟩
  · have := (h.row.lt j e).1; omega
  · have := (h.row.lt _ e).1; omega

theorem WithAt.next {w wr w1 : World} {l : List Ent} {s : ByteArray} {k i : Nat} {done : Bool} {t5 t5' : Value} {O : List Ent} {a : Ent} (h : WithAt w wr l s k i done t5 O) (ha : l[i]? = some a)
    (hrow : EntsAt w1 (w.heap.size + 1) t5' (O ++ (if !done && !decide (a.1 < s.data.toList) then [(s.data.toList, k)] else []) ++ (if a.1 = s.data.toList then [] else [a])))
    (hf : Fresh w w1) (hb : w1.heap[w.heap.size]? = some (.cells #[.string s, .int .i64 k] 115 (0, 0))) : ∃ O', WithAt w w1 l s k (i + 1) (done || !decide (a.1 < s.data.toList)) t5' O' := by
  have hdr : l.drop i = a :: l.drop (i + 1) := by
    obtain ⟨hlt, hx⟩ := List.getElem?_eq_some_iff.1 ha
    rw [List.drop_eq_getElem_cons hlt, hx]
  have h2 := h.eq
  rw [hdr] at h2
  exact ⟨_, hrow, with_step _ _ _ _ _ _ h2, hf, hb⟩

theorem less_text (a : Text) (s : ByteArray) : Op.bytesLess a s.toList = decide (a < s.data.toList) := by
  rw [bytesLess_eq, ByteArray.toList_eq]

set_option maxHeartbeats 8000000 in
set_option maxRecDepth 100000 in
theorem with_any (base : Nat) (v : Value) (l : List Ent) (s : ByteArray) (k : Nat) (w : World) (h : EntsAt w base v l) (hl : l.length ≤ 1099511627) :
    Calls Try.prog 76 #[v, .agg #[.string s, .int .i64 k]] w fun e w' => ∃ v', e = .returned v' ∧ EntsAt w' w.heap.size v' (withE l (s.data.toList, k)) ∧ Fresh w w' := by
  obtain ⟨ao, cap, rfl, hc1, hc2, hao⟩ := own_form' h
  unfold maxLen at hc1
  have H : Hid (EntsAt w base (.slice ao l.length cap) l) := h
  have k0 : Fresh w (w.alloc (.cells #[.string s, .int .i64 k] 115)) := (Keeps.refl _ w).alloc _
  have HB : Hid ((w.alloc (.cells #[.string s, .int .i64 k] 115)).heap[w.heap.size]? = some (.cells #[.string s, .int .i64 k] 115 (0, 0))) := heap_alloc_new w _
  clear h
  go_enter Try.func76, Try.ntmps76
  go_wp2_with fail
  go_loopw [5, 6, 7] (fun t5 t6 t7 wr => ∃ (i : Nat) (done : Bool), i ≤ l.length ∧ t7 = .int .i64 i ∧ t6 = .bool done ∧ ∃ O, WithAt w wr l s k i done t5 O) (fun _ _ t7 _ => l.length - (intOf t7).toNat)
  case atStart => exact ⟨0, false, Nat.zero_le _, rfl, rfl, [], World.ownsRow_nil _ _ _ _, rfl, k0, HB.out⟩
  case round =>
    obtain ⟨i, done, hi, rfl, rfl, O, hinv⟩ := hrel
    by_cases hlt : i < l.length
    · obtain ⟨g, rfl⟩ := hao (by omega)
      obtain ⟨a, ha⟩ : ∃ a, l[i]? = some a := ⟨l[i], List.getElem?_eq_getElem hlt⟩
      have hg := rowOf_get l i a ha
      have HI : Hid (WithAt w wr l s k i done u5 O) := hinv
      have hOb := hinv.bound hl
      have cs0 : ∀ W, Fresh w W → W.cell? ⟨g, i * 2, none⟩ = some (.string ⟨a.1.toArray⟩) := fun W f => f.cellOf (own_cell' H.out _ _ hg.1) (fun e => e)
      have cs1 : ∀ W, Fresh w W → W.cell? ⟨g, i * 2 + 1, none⟩ = some (.int .i64 a.2) := fun W f => f.cellOf (own_cell' H.out _ _ hg.2) (fun e => e)
      have bs : ∀ W : World, W.heap[w.heap.size]? = some (.cells #[.string s, .int .i64 k] 115 (0, 0)) → W.cell? ⟨w.heap.size, 0, none⟩ = some (.string s) ∧ W.cell? ⟨w.heap.size, 1, none⟩ = some (.int .i64 k) := fun W hW => by
        constructor <;> rw [Lib.cell_of_heap hW] <;> rfl
      have c0 := cs0 wr hinv.fresh
      obtain ⟨b0, b1⟩ := bs wr hinv.box
      have HA : Hid (l[i]? = some a) := ha
      have HC : Hid ((∀ W, Fresh w W → W.cell? ⟨g, i * 2, none⟩ = some (.string ⟨a.1.toArray⟩)) ∧ (∀ W, Fresh w W → W.cell? ⟨g, i * 2 + 1, none⟩ = some (.int .i64 a.2)) ∧ (∀ W : World, W.heap[w.heap.size]? = some (.cells #[.string s, .int .i64 k] 115 (0, 0)) → W.cell? ⟨w.heap.size, 0, none⟩ = some (.string s) ∧ W.cell? ⟨w.heap.size, 1, none⟩ = some (.int .i64 k))) := ⟨cs0, cs1, bs⟩
      have z1 : (0 : Int) ≤ (i : Int) := by omega
      have z2 : (i : Int) < (l.length : Int) := by omega
      have hbt := beq_text a.1 s
      have hls := less_text a.1 s
      have hsz := hinv.fresh.size
      have hbw : w.heap.size + 1 ≤ wr.heap.size := heap_lt hinv.box
      clear hg ha cs0 cs1 bs hinv hsz
      have hq : ∃ q : Bool, q = decide (a.1 = s.data.toList) := ⟨_, rfl⟩
      obtain ⟨q, hq⟩ := hq
      obtain ⟨lt, hlt'⟩ : ∃ lt : Bool, lt = decide (a.1 < s.data.toList) := ⟨_, rfl⟩
      have hb : ((⟨a.1.toArray⟩ : ByteArray).toList == s.toList) = q := by rw [hbt, hq]
      have hq' : (a.1 == s.toList) = q := by
        rw [hq, ByteArray.toList_eq]
        by_cases h' : a.1 = s.data.toList
        · simp [h']
        · simp [h']
      rw [← hlt'] at hls
      have HQ : Hid (q = decide (a.1 = s.data.toList)) := hq
      have HL : Hid (lt = decide (a.1 < s.data.toList)) := hlt'
      clear hbt hq hlt'
      cases done with
      | true =>
        cases q with
        | true =>
          clear hls HL
          go_wp2_with fail
          go_quiet (fail)
          have f1 : Fresh wr (wr.drewN nq) := (Keeps.refl _ _).drewN nq
          generalize wr.drewN nq = w1 at f1 ⊢
          have A1 := HI.out.over f1
          have s1 := f1.size
          have d0 := HC.out.1 w1 A1.fresh
          obtain ⟨e0, e1⟩ := HC.out.2.2 w1 A1.box
          clear c0 b0 b1 f1
          go_wp2_with fail
          go_quiet (fail)
          have f3 : Fresh w1 (w1.drewN nq) := (Keeps.refl _ _).drewN nq
          generalize w1.drewN nq = w3 at f3 ⊢
          have s3 := f3.size
          have A3 := A1.over f3
          have F3 : Fresh w w3 ∧ w3.heap[w.heap.size]? = some (.cells #[.string s, .int .i64 k] 115 (0, 0)) := ⟨A3.fresh, A3.box⟩
          have R3 : EntsAt w3 (w.heap.size + 1) u5 O := A3.row
          have d0 := HC.out.1 w3 F3.1
          have d1 := HC.out.2.1 w3 F3.1
          clear e0 e1 f3 A1 A3
          have hn := HI.out.next (w1 := w3) (t5' := u5) HA.out (by
              rw [if_pos (of_decide_eq_true HQ.out.symm)]
              simpa using R3) F3.1 F3.2
          have HNX : Hid _ := hn
          clear hn d0 d1
          go_wp2_with fail
          go_roundw
          case rel => exact ⟨i + 1, _, by omega, by go_num, rfl, HNX.out⟩
          case measure => simp [intOf]; omega
        | false =>
          clear hls HL
          go_wp2_with fail
          go_quiet (fail)
          have f1 : Fresh wr (wr.drewN nq) := (Keeps.refl _ _).drewN nq
          generalize wr.drewN nq = w1 at f1 ⊢
          have A1 := HI.out.over f1
          have s1 := f1.size
          have d0 := HC.out.1 w1 A1.fresh
          obtain ⟨e0, e1⟩ := HC.out.2.2 w1 A1.box
          clear c0 b0 b1 f1
          go_wp2_with fail
          go_quiet (fail)
          have f3 : Fresh w1 (w1.drewN nq) := (Keeps.refl _ _).drewN nq
          generalize w1.drewN nq = w3 at f3 ⊢
          have s3 := f3.size
          have A3 := A1.over f3
          have F3 : Fresh w w3 ∧ w3.heap[w.heap.size]? = some (.cells #[.string s, .int .i64 k] 115 (0, 0)) := ⟨A3.fresh, A3.box⟩
          have R3 : EntsAt w3 (w.heap.size + 1) u5 O := A3.row
          have d0 := HC.out.1 w3 F3.1
          have d1 := HC.out.2.1 w3 F3.1
          clear e0 e1 f3 A1 A3
          go_wp2_with (at_builtin; refine wpList_append_ent rfl _ _ rfl (w.heap.size + 1) u5 O ⟨a.1.toArray⟩ a.2 rfl R3 (by first | omega | (simp; omega)) (by omega) rfl ?_)
          intro v4 w4 hr4 hk4
          have F4 : Fresh w w4 ∧ w4.heap[w.heap.size]? = some (.cells #[.string s, .int .i64 k] 115 (0, 0)) := ⟨F3.1.then hk4 (fun j hj e => by have := (R3.lt j e).1; omega), hk4.heap F3.2 (fun e => by have := (R3.lt _ e).1; omega)⟩
          have hn := HI.out.next (w1 := w4) (t5' := v4) HA.out (by
              rw [if_neg (of_decide_eq_false HQ.out.symm)]
              simpa using hr4) F4.1 F4.2
          have HNX : Hid _ := hn
          clear hn hk4 R3 F3 d0 d1
          go_wp2_with fail
          go_roundw
          case rel => exact ⟨i + 1, _, by omega, by go_num, rfl, HNX.out⟩
          case measure => simp [intOf]; omega
      | false =>
        cases lt with
        | true =>
          cases q with
          | true => exact absurd (of_decide_eq_true HL.out.symm) (by rw [of_decide_eq_true HQ.out.symm]; exact lt_irrefl' _)
          | false =>
            go_wp2_with fail
            go_quiet (fail)
            have f1 : Fresh wr (wr.drewN nq) := (Keeps.refl _ _).drewN nq
            generalize wr.drewN nq = w1 at f1 ⊢
            have A1 := HI.out.over f1
            have s1 := f1.size
            have d0 := HC.out.1 w1 A1.fresh
            obtain ⟨e0, e1⟩ := HC.out.2.2 w1 A1.box
            clear c0 b0 b1 f1
            go_wp2_with fail
            go_quiet (fail)
            have f3 : Fresh w1 (w1.drewN nq) := (Keeps.refl _ _).drewN nq
            generalize w1.drewN nq = w3 at f3 ⊢
            have s3 := f3.size
            have A3 := A1.over f3
            have F3 : Fresh w w3 ∧ w3.heap[w.heap.size]? = some (.cells #[.string s, .int .i64 k] 115 (0, 0)) := ⟨A3.fresh, A3.box⟩
            have R3 : EntsAt w3 (w.heap.size + 1) u5 O := A3.row
            have d0 := HC.out.1 w3 F3.1
            have d1 := HC.out.2.1 w3 F3.1
            clear e0 e1 f3 A1 A3
            go_wp2_with (at_builtin; refine wpList_append_ent rfl _ _ rfl (w.heap.size + 1) u5 O ⟨a.1.toArray⟩ a.2 rfl R3 (by first | omega | (simp; omega)) (by omega) rfl ?_)
            intro v4 w4 hr4 hk4
            have F4 : Fresh w w4 ∧ w4.heap[w.heap.size]? = some (.cells #[.string s, .int .i64 k] 115 (0, 0)) := ⟨F3.1.then hk4 (fun j hj e => by have := (R3.lt j e).1; omega), hk4.heap F3.2 (fun e => by have := (R3.lt _ e).1; omega)⟩
            have hn := HI.out.next (w1 := w4) (t5' := v4) HA.out (by
                rw [← HL.out, if_neg (of_decide_eq_false HQ.out.symm)]
                simpa using hr4) F4.1 F4.2
            rw [← HL.out] at hn
            have HNX : Hid _ := hn
            clear hn hk4 R3 F3 d0 d1
            go_wp2_with fail
            go_roundw
            case rel => exact ⟨i + 1, _, by omega, by go_num, rfl, HNX.out⟩
            case measure => simp [intOf]; omega
        | false =>
          cases q with
          | true =>
            go_wp2_with fail
            go_quiet (fail)
            have f1 : Fresh wr (wr.drewN nq) := (Keeps.refl _ _).drewN nq
            generalize wr.drewN nq = w1 at f1 ⊢
            have A1 := HI.out.over f1
            have s1 := f1.size
            have d0 := HC.out.1 w1 A1.fresh
            obtain ⟨e0, e1⟩ := HC.out.2.2 w1 A1.box
            clear c0 b0 b1 f1
            have R1 := A1.row
            have K1 : Hid (WithAt w w1 l s k i false u5 O) := A1
            clear A1
            go_wp2_with (at_builtin; refine wpList_append_ent rfl _ _ rfl (w.heap.size + 1) u5 O s k rfl R1 (by omega) (by omega) rfl ?_)
            intro v2 w2 hr2 hk2
            have F2 := K1.out.kept hk2
            have s2 := hk2.size
            have d0 := HC.out.1 w2 F2.1
            obtain ⟨e0, e1⟩ := HC.out.2.2 w2 F2.2
            clear R1 hk2
            go_wp2_with fail
            go_quiet (fail)
            have f3 : Fresh w2 (w2.drewN nq) := (Keeps.refl _ _).drewN nq
            generalize w2.drewN nq = w3 at f3 ⊢
            have s3 := f3.size
            have F3 : Fresh w w3 ∧ w3.heap[w.heap.size]? = some (.cells #[.string s, .int .i64 k] 115 (0, 0)) := ⟨F2.1.trans f3, f3.heap F2.2 (fun e => e)⟩
            have R3 : EntsAt w3 (w.heap.size + 1) v2 (O ++ [(s.data.toList, k)]) := f3.owns hr2 (fun _ _ e => e)
            have d0 := HC.out.1 w3 F3.1
            have d1 := HC.out.2.1 w3 F3.1
            clear e0 e1 f3 hr2 F2
            have hn := HI.out.next (w1 := w3) (t5' := v2) HA.out (by
                rw [← HL.out, if_pos (of_decide_eq_true HQ.out.symm)]
                simpa using R3) F3.1 F3.2
            rw [← HL.out] at hn
            have HNX : Hid _ := hn
            clear hn d0 d1
            go_wp2_with fail
            go_roundw
            case rel => exact ⟨i + 1, _, by omega, by go_num, rfl, HNX.out⟩
            case measure => simp [intOf]; omega
          | false =>
            go_wp2_with fail
            go_quiet (fail)
            have f1 : Fresh wr (wr.drewN nq) := (Keeps.refl _ _).drewN nq
            generalize wr.drewN nq = w1 at f1 ⊢
            have A1 := HI.out.over f1
            have s1 := f1.size
            have d0 := HC.out.1 w1 A1.fresh
            obtain ⟨e0, e1⟩ := HC.out.2.2 w1 A1.box
            clear c0 b0 b1 f1
            have R1 := A1.row
            have K1 : Hid (WithAt w w1 l s k i false u5 O) := A1
            clear A1
            go_wp2_with (at_builtin; refine wpList_append_ent rfl _ _ rfl (w.heap.size + 1) u5 O s k rfl R1 (by omega) (by omega) rfl ?_)
            intro v2 w2 hr2 hk2
            have F2 := K1.out.kept hk2
            have s2 := hk2.size
            have d0 := HC.out.1 w2 F2.1
            obtain ⟨e0, e1⟩ := HC.out.2.2 w2 F2.2
            clear R1 hk2
            go_wp2_with fail
            go_quiet (fail)
            have f3 : Fresh w2 (w2.drewN nq) := (Keeps.refl _ _).drewN nq
            generalize w2.drewN nq = w3 at f3 ⊢
            have s3 := f3.size
            have F3 : Fresh w w3 ∧ w3.heap[w.heap.size]? = some (.cells #[.string s, .int .i64 k] 115 (0, 0)) := ⟨F2.1.trans f3, f3.heap F2.2 (fun e => e)⟩
            have R3 : EntsAt w3 (w.heap.size + 1) v2 (O ++ [(s.data.toList, k)]) := f3.owns hr2 (fun _ _ e => e)
            have d0 := HC.out.1 w3 F3.1
            have d1 := HC.out.2.1 w3 F3.1
            clear e0 e1 f3 hr2 F2
            go_wp2_with (at_builtin; refine wpList_append_ent rfl _ _ rfl (w.heap.size + 1) v2 (O ++ [(s.data.toList, k)]) ⟨a.1.toArray⟩ a.2 rfl R3 (by first | omega | (simp; omega)) (by omega) rfl ?_)
            intro v4 w4 hr4 hk4
            have F4 : Fresh w w4 ∧ w4.heap[w.heap.size]? = some (.cells #[.string s, .int .i64 k] 115 (0, 0)) := ⟨F3.1.then hk4 (fun j hj e => by have := (R3.lt j e).1; omega), hk4.heap F3.2 (fun e => by have := (R3.lt _ e).1; omega)⟩
            have hn := HI.out.next (w1 := w4) (t5' := v4) HA.out (by
                rw [← HL.out, if_neg (of_decide_eq_false HQ.out.symm)]
                simpa using hr4) F4.1 F4.2
            rw [← HL.out] at hn
            have HNX : Hid _ := hn
            clear hn hk4 R3 F3 d0 d1
            go_wp2_with fail
            go_roundw
            case rel => exact ⟨i + 1, _, by omega, by go_num, rfl, HNX.out⟩
            case measure => simp [intOf]; omega
    · have z2 : ¬ (i : Int) < (l.length : Int) := by omega
      have he := hinv.eq
      rw [List.drop_of_length_le (by omega)] at he
      have b0 : wr.cell? ⟨w.heap.size, 0, none⟩ = some (.string s) := by rw [Lib.cell_of_heap hinv.box]; rfl
      have b1 : wr.cell? ⟨w.heap.size, 1, none⟩ = some (.int .i64 k) := by rw [Lib.cell_of_heap hinv.box]; rfl
      have hOb := hinv.bound hl
      have R1 := hinv.row
      have hbw : w.heap.size + 1 ≤ wr.heap.size := heap_lt hinv.box
      have HI : Hid (WithAt w wr l s k i done u5 O) := hinv
      clear hinv
      cases done with
      | true =>
        have HE : Hid (O = withE l (s.data.toList, k)) := by
          show O = withE l (s.data.toList, k)
          simpa [withGo] using he
        clear he b0 b1
        go_wp2
        go_ret
        refine ⟨_, rfl, ?_, HI.out.fresh⟩
        rw [← HE.out]
        exact owns_base R1 (fun k' hk => by have := (R1.lt k' hk).1; omega)
      | false =>
        have HE : Hid (O ++ [(s.data.toList, k)] = withE l (s.data.toList, k)) := by
          show O ++ [(s.data.toList, k)] = withE l (s.data.toList, k)
          simpa [withGo] using he
        clear he
        go_wp2_with (at_builtin; refine wpList_append_ent rfl _ _ rfl (w.heap.size + 1) u5 O s k rfl R1 (by omega) (by omega) rfl ?_)
        intro v2 w2 hr2 hk2
        have F2 := HI.out.kept hk2
        clear R1 hk2 b0 b1
        go_wp2
        go_ret
        refine ⟨_, rfl, ?_, F2.1⟩
        rw [← HE.out]
        exact owns_base hr2 (fun k' hk => by have := (hr2.lt k' hk).1; omega)
end Go.Proofs.Ytegbkpjcjlihmaa
