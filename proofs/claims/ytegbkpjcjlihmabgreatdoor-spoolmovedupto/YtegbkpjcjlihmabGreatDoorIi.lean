/-
  The player of mails: done. | The player of mails: what open finds. | The player of mails: open. | The player of mails: its state moves on.
-/
import Derived.Test.YtegbkpjcjlihmabGreatDoorIh
namespace Go.Proofs.YtegbkpjcjlihmabGreatDoor
open Go.RowKit Go.Maps Go.Sort Go.Lib

section
variable {w we wa wb wc w' : World} {t p d C L : Nat} {A T : Nat → Prop} {σ : Dk} {stop : Bool} {s mw N : Nat} {W : Waits} {lv : Int} {b : Bool} {r : Nat} {ρ : Rs} {m : Ml} {id ev : Int} {q : Ltr}

theorem PS.lens (h : PS w t p d C L A σ stop s mw N W lv b r ρ we) : ∀ g ∈ ρ.l, g.2.2.length ≤ 1048576 := fun g hg => by
  obtain ⟨_, _, _, _, h5⟩ := h.wgs.mem g hg
  have h1 := h5.length_le
  have h2 := once_len (mlTo g.2.1)
  have h3 := toW_len g.2.1.2.2.1
  have h4 := h.sz g hg
  have h6 : mlTo g.2.1 = g.2.1.2.2.1 := rfl
  unfold mlW at h4
  rw [h6] at h1 h2
  omega

def DoneRes (w : World) (t d C L : Nat) (A : Nat → Prop) (σ : Dk) (stop : Bool) (s mw N : Nat) (W : Waits) (lv : Int) (ρ : Rs) (id : Int) (q : Ltr) (ev : Int) (we w' : World) : Prop :=
  (ρ.dead = true ∧ ev = 6 ∧ Fresh we w') ∨ (ρ.dead = false ∧ ¬ IsP ρ.l id q ∧ ev = 4 ∧ Fresh we w') ∨
  (ρ.dead = false ∧ IsP ρ.l id q ∧ ∃ A' σ' W', Live w w' A' d (K5 t) (C + 2) (L + 30) σ' ∧ (∀ i, A' i → A i ∨ we.heap.size ≤ i) ∧ (∀ n k, W' n = some k → W n = some k) ∧
    ((ev = 6 ∧ stop = true ∧ W' = W ∧ SpAt w A' d L s mw N (Pm ρ.l) lv true W w' ∧ Inv σ' ρ.l lv (.done id q)) ∨
     (ev = 0 ∧ (σ.left = none → σ'.left = none) ∧ SpAt w A' d L s mw N (Pm (gone ρ.l id q)) lv false W' w' ∧ Dom (gone ρ.l id q) W' ∧ Alive σ' (gone ρ.l id q) lv)))

theorem PS.done (h : PS w t p d C L A σ stop s mw N W lv b r ρ we) (hG : Gl w) (ht : t ≤ 1000000) (hC : C ≤ 1000000000) (hL : L ≤ 500000000000) (id : Int) (hid : okI id) (ta tb : ByteArray) (hok : okA (ta.data.toList, tb.data.toList)) :
    Calls Tryz.prog 78 #[ptr s, .int .i64 id, .agg #[.string ta, .string tb]] we fun e w' => ∃ ev, e = .returned (.int .i64 ev) ∧ DoneRes w t d C L A σ stop s mw N W lv ρ id (ta.data.toList, tb.data.toList) ev we w' ∧ Keeps (fun i => A i ∨ i = s ∨ i = mw ∨ ∃ n, W n = some i) we w' := by
  rcases h.st with c | c
  · have hb := c.b
    subst hb
    by_cases hi : IsP ρ.l id (ta.data.toList, tb.data.toList)
    · obtain ⟨g, hg, rfl, hq⟩ := hi
      have hK := K5_len t
      have hsz := h.sz g hg
      have hto : ∀ q ∈ mlTo g.2.1, okA q := fun q hq => by
        have := toW_mem (l := g.2.1.2.2.1) hq
        unfold mlW at hsz
        unfold okA maxLen
        omega
      have hln : (mlTo g.2.1).length < 1099511627776 := by
        have := toW_len g.2.1.2.2.1
        unfold mlW at hsz
        show g.2.1.2.2.1.length < _
        omega
      refine (done_some h.live hG h.sp c.dom h.wgs hg hto hln ta tb hq (by omega) (by omega) (by omega)).mono ?_
      rintro e w' ⟨b', σ', A', W', hs, rfl, hl, hA', hW', hk, hres⟩
      rcases hs with ⟨hb, _⟩ | ⟨_, kk, hr, hkk⟩
      · cases hb
      have hp : (kk ≠ 0 ∧ σ.left ≠ none ∧ Inv σ' ρ.l lv (.done g.1 (ta.data.toList, tb.data.toList))) ∨ (kk = 0 ∧ Alive σ' (gone ρ.l g.1 (ta.data.toList, tb.data.toList)) lv) := by
        by_cases e1 : g.2.2 = [(ta.data.toList, tb.data.toList)]
        · rw [if_pos e1] at hr
          exact c.al.drop h.live.2.2.1 hg e1 hr
        · rw [if_neg e1] at hr
          exact c.al.done h.live.2.2.1 hg hq e1 hr
      have hlf : σ.left = none → σ'.left = none := fun e => runs_left hr e
      rcases hres with ⟨rfl, rfl, hsp⟩ | ⟨rfl, hsp, hdom⟩
      · refine ⟨6, rfl, .inr (.inr ⟨c.dead, ⟨g, hg, rfl, hq⟩, A', σ', W', hl, hA', hW', .inl ⟨rfl, ?_, rfl, hsp, ?_⟩⟩), hk⟩
        · rcases hp with ⟨_, h2, _⟩ | ⟨h2, _⟩
          · cases hst : stop with
            | true => rfl
            | false => exact absurd (h.lft hst) h2
          · rcases hkk with ⟨e1, _⟩ | ⟨_, e1⟩
            · cases e1
            · exact absurd h2 e1
        · rcases hp with ⟨_, _, h3⟩ | ⟨h2, _⟩
          · exact h3
          · rcases hkk with ⟨e1, _⟩ | ⟨_, e1⟩
            · cases e1
            · exact absurd h2 e1
      · refine ⟨0, rfl, .inr (.inr ⟨c.dead, ⟨g, hg, rfl, hq⟩, A', σ', W', hl, hA', hW', .inr ⟨rfl, hlf, hsp, hdom, ?_⟩⟩), hk⟩
        rcases hp with ⟨h1, _⟩ | ⟨_, h3⟩
        · rcases hkk with ⟨_, e1⟩ | ⟨e1, _⟩
          · exact absurd e1 h1
          · cases e1
        · exact h3
    · refine (done_none h.sp id hid ta tb hok (fun g hg e e2 => hi ⟨g, hg, e, e2⟩)).mono ?_
      rintro e w' ⟨rfl, k⟩
      exact ⟨4, rfl, .inr (.inl ⟨c.dead, hi, rfl, k⟩), k.ofFresh⟩
  · have hb := c.b
    subst hb
    refine (done_dead h.sp id ta tb).mono ?_
    rintro e w' ⟨rfl, k⟩
    exact ⟨6, rfl, .inl ⟨c.dead, rfl, k⟩, k.ofFresh⟩

theorem DoneRes.elder (h : DoneRes w t d C L A σ stop s mw N W lv ρ id q ev wa wb) (k0 : Fresh we wa) : DoneRes w t d C L A σ stop s mw N W lv ρ id q ev we wb := by
  have hk0 := k0.size
  rcases h with ⟨h1, h2, h3⟩ | ⟨h1, h2, h3, h4⟩ | ⟨h1, h2, A', σ', W', h3, h4, h5, h6⟩
  · exact .inl ⟨h1, h2, k0.trans h3⟩
  · exact .inr (.inl ⟨h1, h2, h3, k0.trans h4⟩)
  · exact .inr (.inr ⟨h1, h2, A', σ', W', h3, fun i hi => (h4 i hi).elim .inl (fun e => .inr (by omega)), h5, h6⟩)

set_option maxHeartbeats 16000000 in
set_option maxRecDepth 100000 in
theorem doneP (h : PS w t p d C L A σ stop s mw N W lv b r ρ we) (hG : Gl w) (ht : t ≤ 1000000) (hC : C ≤ 1000000000) (hL : L ≤ 500000000000) (id : Int) (hid : okI id) (ta tb : ByteArray) (hok : okA (ta.data.toList, tb.data.toList)) :
    Calls Tryz.prog 35 #[ptr p, .int .i64 id, .agg #[.string ta, .string tb]] we fun e w' => e = .returned (.bool true) ∧ PNext5 w t p d (C + 2) (L + 30) stop w' ∧ Keeps (fun i => (A i ∨ i = s ∨ i = mw ∨ ∃ n, W n = some i) ∨ i = r ∨ ρ.av.ownBlock = some i) we w' := by
  have HP : Hid (PS w t p d C L A σ stop s mw N W lv b r ρ we) := h
  have f0 : Fresh we (we.alloc (.cells #[.string ta, .string tb] 27)) := (Keeps.refl _ _).alloc _
  have hx0 := heap_new we (.cells #[.string ta, .string tb] 27)
  have HF0 : Hid (Fresh we (we.alloc (.cells #[.string ta, .string tb] 27))) := f0
  have HP0 : Hid (PS w t p d C L A σ stop s mw N W lv b r ρ (we.alloc (.cells #[.string ta, .string tb] 27))) := h.fresh f0
  have hww := h.live.2.2.2
  have hwz := hww.size
  have hA : ∀ i, A i → i < we.heap.size := fun i hi => (h.live.1 i hi).2
  have hsl := h.sp.lt
  have hml := h.sp.wt.lt
  have hWl : ∀ n k, W n = some k → k < we.heap.size := fun n k hk => by
    obtain ⟨_, _, _, _, _, _, h3, _⟩ := h.sp.lft n k hk
    exact h3.lt
  have hpl := h.lt
  have hpS := h.pS
  have hpA := h.pA
  have hlens := h.lens
  have hup := h.wgs.up
  have hnum := h.num
  clear h
  unfold ptr at *
  go_enter Tryz.func35, Tryz.ntmps35
  go_upto_region 1 with fail
  generalize we.alloc (.cells #[.string ta, .string tb] 27) = w0 at *
  obtain ⟨x0, x1, _, _⟩ := cells2 hx0
  have hw0 := f0.size
  have hlt0 := heap_lt hx0
  have c1 := (mcells HP0.out.cell).2.1
  have hnbig : ∀ i, (A i ∨ i = s ∨ i = mw ∨ ∃ n, W n = some i) → i ≠ p ∧ i < we.heap.size := fun i e => by
    rcases e with e | e | e | ⟨n, e⟩
    · exact ⟨fun e2 => hpA (e2 ▸ e), hA i e⟩
    · exact ⟨fun e2 => hpS.1 (by omega), by omega⟩
    · exact ⟨fun e2 => hpS.2.1 (by omega), by omega⟩
    · exact ⟨fun e2 => hpS.2.2 n (e2 ▸ e), hWl n i e⟩
  have HC : Hid (∀ W1, Keeps (fun i => A i ∨ i = s ∨ i = mw ∨ ∃ n, W n = some i) w0 W1 → W1.cell? ⟨p, 1, none⟩ = some (.pointer (some ⟨s, 0, none⟩)) ∧ W1.cell? ⟨we.heap.size, 0, none⟩ = some (.string ta) ∧ W1.cell? ⟨we.heap.size, 1, none⟩ = some (.string tb)) := fun W1 k => by
    have hnp : ¬ (A p ∨ p = s ∨ p = mw ∨ ∃ n, W n = some p) := fun e => (hnbig p e).1 rfl
    have hnn : ¬ (A we.heap.size ∨ we.heap.size = s ∨ we.heap.size = mw ∨ ∃ n, W n = some we.heap.size) := fun e => by have := (hnbig _ e).2; omega
    exact ⟨cell_keeps k c1 hnp, cell_keeps k x0 hnn, cell_keeps k x1 hnn⟩
  clear c1 x0 x1 f0
  go_wp2_with fail
  go_region_held3 (fun W1 => W1.cell? ⟨p, 1, none⟩ = some (.pointer (some ⟨s, 0, none⟩)) ∧ W1.cell? ⟨we.heap.size, 0, none⟩ = some (.string ta) ∧ W1.cell? ⟨we.heap.size, 1, none⟩ = some (.string tb)) (first | exact HC.out _ ((Keeps.refl _ w0).drew) | exact HC.out _ k4 | exact HC.out _ (kA.ofFresh)) (first | (go_at_call 63; refine (address_law ta tb _).mono ?_; rintro e w1 ⟨rfl, k1⟩; have kA : Fresh w0 w1 := ((Keeps.refl _ w0).drew).trans k1) | (go_at_call 78; refine ((HP0.out.fresh kA).done hG ht hC hL id hid ta tb hok).mono ?_; rintro e w4 ⟨ev, rfl, hres, k4'⟩; have k4 : Keeps (fun i => A i ∨ i = s ∨ i = mw ∨ ∃ n, W n = some i) w0 w4 := (kA.ofFresh).trans k4'))
  have HRES : Hid (DoneRes w t d C L A σ stop s mw N W lv ρ id (ta.data.toList, tb.data.toList) ev we w4) := hres.elder (HF0.out.trans kA)
  have HK4 : Hid (Keeps (fun i => A i ∨ i = s ∨ i = mw ∨ ∃ n, W n = some i) we w4) := (HF0.out.ofFresh).trans k4
  have HX4 : Hid (w4.cell? ⟨we.heap.size, 0, none⟩ = some (.string ta) ∧ w4.cell? ⟨we.heap.size, 1, none⟩ = some (.string tb)) := (HC.out w4 k4).2
  have hz4 := k4.size
  have hnps : ¬ (A p ∨ p = s ∨ p = mw ∨ ∃ n, W n = some p) := fun e => (hnbig p e).1 rfl
  have HC4 : Hid (w4.heap[p]? = some (pCells5 d s r stop)) := HK4.out.heap HP.out.cell hnps
  clear hres kA k4 k4' k1 HC HP0 HF0 hx0
  have hke := HK4.out.size
  rcases HRES.out with ⟨a1, a2, a3⟩ | ⟨a1, a2, a3, a4⟩ | ⟨a1, a2, A', σ', W', al, aA, aW, acase⟩
  · have HP4 : Hid (PS w t p d C L A σ stop s mw N W lv b r ρ w4) := HP.out.fresh a3
    have r2 : w4.cell? ⟨r, 2, none⟩ = some (.bool ρ.dead) := HP4.out.ref.at 2 _ rfl
    obtain ⟨p0, p1, p2, p3, _⟩ := mcells HC4.out
    unfold ptr at p0 p1 p2
    rw [a1] at r2
    subst a2
    have HF : Hid (PNext5 w t p d (C + 2) (L + 30) stop w4) := ⟨_, _, _, _, _, _, _, _, _, _, HP4.out.mono (by omega) (by omega)⟩
    have HKF : Hid (Keeps (fun i => (A i ∨ i = s ∨ i = mw ∨ ∃ n, W n = some i) ∨ i = r ∨ ρ.av.ownBlock = some i) we w4) := HK4.out.mono (fun i _ e => .inl e)
    clear a1 a3 HP4
    go_wp2_with (go_at_call 19; refine (num5 _ _).mono ?_; rintro e w' ⟨rfl, hw'⟩; have hw' := hw'.symm; subst hw')
    go_ret
    exact ⟨rfl, HF.out, HKF.out⟩
  · have HP4 : Hid (PS w t p d C L A σ stop s mw N W lv b r ρ w4) := HP.out.fresh a4
    have r2 : w4.cell? ⟨r, 2, none⟩ = some (.bool ρ.dead) := HP4.out.ref.at 2 _ rfl
    obtain ⟨p0, p1, p2, p3, _⟩ := mcells HC4.out
    obtain ⟨x0, x1⟩ := HX4.out
    unfold ptr at p0 p1 p2
    rw [a1] at r2
    subst a3
    have his := is5 (HP4.out.ref.fresh ((Keeps.refl (fun _ => False) w4).drew)) id ta tb (by omega) (fun g hg => by have := hlens g hg; omega) hup
    have HN : Hid (¬ IsP ρ.l id (ta.data.toList, tb.data.toList)) := a2
    have HC5 : Hid (∀ W1, Fresh w4 W1 → W1.cell? ⟨p, 2, none⟩ = some (.pointer (some ⟨r, 0, none⟩)) ∧ W1.cell? ⟨we.heap.size, 0, none⟩ = some (.string ta) ∧ W1.cell? ⟨we.heap.size, 1, none⟩ = some (.string tb)) := fun W1 k => ⟨cell_keeps k p2 (fun e => e), cell_keeps k x0 (fun e => e), cell_keeps k x1 (fun e => e)⟩
    clear a1 a2 a4 p3 p0 p1
    unfold ptr at his
    go_wp2_with fail
    go_region_held3 (fun W1 => W1.cell? ⟨p, 2, none⟩ = some (.pointer (some ⟨r, 0, none⟩)) ∧ W1.cell? ⟨we.heap.size, 0, none⟩ = some (.string ta) ∧ W1.cell? ⟨we.heap.size, 1, none⟩ = some (.string tb)) (first | exact HC5.out _ ((Keeps.refl (fun _ => False) w4).drew) | exact HC5.out _ kA) (first | (go_at_call 79; refine his.mono ?_; rintro e w5 ⟨⟨bb, rfl, hbb⟩, k5⟩; have kA : Fresh w4 w5 := ((Keeps.refl (fun _ => False) w4).drew).trans k5))
    have hbt : bb = false := by
      cases bb with
      | false => rfl
      | true => exact absurd (hbb.1 rfl) HN.out
    subst hbt
    have HF : Hid (PNext5 w t p d (C + 2) (L + 30) stop w5) := ⟨_, _, _, _, _, _, _, _, _, _, (HP4.out.fresh kA).mono (by omega) (by omega)⟩
    have HKF : Hid (Keeps (fun i => (A i ∨ i = s ∨ i = mw ∨ ∃ n, W n = some i) ∨ i = r ∨ ρ.av.ownBlock = some i) we w5) := (HK4.out.trans kA.ofFresh).mono (fun i _ e => .inl e)
    clear hbb his k5 kA
    go_wp2_with (go_at_call 19; refine (num5 _ _).mono ?_; rintro e w' ⟨rfl, hw'⟩; have hw' := hw'.symm; subst hw')
    go_ret
    exact ⟨rfl, HF.out, HKF.out⟩
  · have HRS : Hid (RefAt (SS A' s mw W' p) r w.heap.size ρ w4) := HP.out.ref.keep HK4.out (fun i _ hn e => hn (by
        rcases e with e | e | e | e
        · exact .inl e
        · exact .inr (.inl e)
        · exact .inr (.inr (.inl e))
        · exact .inr (.inr (.inr (.inl e))))) (fun i hi e => by
        rcases e with e | e | e | ⟨n, e⟩ | e
        · exact (aA i e).elim .inl (fun e => by omega)
        · exact .inr (.inl e)
        · exact .inr (.inr (.inl e))
        · exact .inr (.inr (.inr (.inl ⟨n, aW n i e⟩)))
        · exact .inr (.inr (.inr (.inr e))))
    have r2 : w4.cell? ⟨r, 2, none⟩ = some (.bool ρ.dead) := HRS.out.at 2 _ rfl
    obtain ⟨p0, p1, p2, p3, _⟩ := mcells HC4.out
    obtain ⟨x0, x1⟩ := HX4.out
    unfold ptr at p0 p1 p2
    rw [a1] at r2
    have HD0 : Hid (ρ.dead = false) := a1
    have his := is5 (HRS.out.fresh ((Keeps.refl (fun _ => False) w4).drew)) id ta tb (by omega) (fun g hg => by have := hlens g hg; omega) hup
    have HN : Hid (IsP ρ.l id (ta.data.toList, tb.data.toList)) := a2
    have HC5 : Hid (∀ W1, Fresh w4 W1 → W1.cell? ⟨p, 2, none⟩ = some (.pointer (some ⟨r, 0, none⟩)) ∧ W1.cell? ⟨we.heap.size, 0, none⟩ = some (.string ta) ∧ W1.cell? ⟨we.heap.size, 1, none⟩ = some (.string tb)) := fun W1 k => ⟨cell_keeps k p2 (fun e => e), cell_keeps k x0 (fun e => e), cell_keeps k x1 (fun e => e)⟩
    have HAL : Hid (Live w w4 A' d (K5 t) (C + 2) (L + 30) σ') := al
    have HCASE : Hid ((ev = 6 ∧ stop = true ∧ W' = W ∧ SpAt w A' d L s mw N (Pm ρ.l) lv true W w4 ∧ Inv σ' ρ.l lv (.done id (ta.data.toList, tb.data.toList))) ∨ (ev = 0 ∧ (σ.left = none → σ'.left = none) ∧ SpAt w A' d L s mw N (Pm (gone ρ.l id (ta.data.toList, tb.data.toList))) lv false W' w4 ∧ Dom (gone ρ.l id (ta.data.toList, tb.data.toList)) W' ∧ Alive σ' (gone ρ.l id (ta.data.toList, tb.data.toList)) lv)) := acase
    have hpA' : ¬ A' p := fun e => (aA p e).elim hpA (fun e => by omega)
    have hpW' : ∀ n, W' n ≠ some p := fun n e => hpS.2.2 n (aW n p e)
    clear a1 a2 al acase aA aW p3 p0 p1 HRES
    unfold ptr at his
    go_wp2_with fail
    go_region_held3 (fun W1 => W1.cell? ⟨p, 2, none⟩ = some (.pointer (some ⟨r, 0, none⟩)) ∧ W1.cell? ⟨we.heap.size, 0, none⟩ = some (.string ta) ∧ W1.cell? ⟨we.heap.size, 1, none⟩ = some (.string tb)) (first | exact HC5.out _ ((Keeps.refl (fun _ => False) w4).drew) | exact HC5.out _ kA) (first | (go_at_call 79; refine his.mono ?_; rintro e w5 ⟨⟨bb, rfl, hbb⟩, k5⟩; have kA : Fresh w4 w5 := ((Keeps.refl (fun _ => False) w4).drew).trans k5))
    have hbt : bb = true := hbb.2 HN.out
    subst hbt
    have HK5 : Hid (Fresh w4 w5) := kA
    have HKG : Hid (Keeps (fun i => (A i ∨ i = s ∨ i = mw ∨ ∃ n, W n = some i) ∨ i = r ∨ ρ.av.ownBlock = some i) we w5) := (HK4.out.trans kA.ofFresh).mono (fun i _ e => .inl e)
    have HRS5 : Hid (RefAt (SS A' s mw W' p) r w.heap.size ρ w5) := HRS.out.fresh kA
    have HAL5 : Hid (Live w w5 A' d (K5 t) (C + 2) (L + 30) σ') := HAL.out.fresh kA
    have HC55 : Hid (w5.heap[p]? = some (pCells5 d s r stop)) := kA.heap HC4.out (fun e => e)
    obtain ⟨u2, u0, u1⟩ := HC5.out w5 kA
    have hz5 := kA.size
    clear hbb his k5 kA p2 x0 x1 r2 HC5 HX4
    have hown := HRS5.out.own
    obtain ⟨_, _, _, v3, _⟩ := mcells HC55.out
    rcases HCASE.out with ⟨b1, b2, b3, b4, b5⟩ | ⟨b1, b2, b3, b4, b5⟩
    · subst b1 b2 b3
      have HB5 : Hid (SpAt w A' d L s mw N (Pm ρ.l) lv true W' w5) := b4.fresh HK5.out
      have HIV : Hid (Inv σ' ρ.l lv (.done id (ta.data.toList, tb.data.toList))) := b5
      clear b4 b5 HCASE
      obtain ⟨ρ', hρ'⟩ : ∃ ρ' : Rs, ρ' = { ρ with dead := true, hd := true, id := id, ta := ta, tb := tb } := ⟨_, rfl⟩
      have k7 : Keeps (fun q => q = r) w5 (((((w5.setCell ⟨r, 2, none⟩ (.bool true)).setCell ⟨r, 8, none⟩ (.bool true)).setCell ⟨r, 9, none⟩ (.int .i64 id)).setCell ⟨r, 10, none⟩ (.string ta)).setCell ⟨r, 11, none⟩ (.string tb)) := (((((Keeps.refl (fun q => q = r) w5).setCell (p := ⟨r, 2, none⟩) (fun _ => rfl) _).setCell (p := ⟨r, 8, none⟩) (fun _ => rfl) _).setCell (p := ⟨r, 9, none⟩) (fun _ => rfl) _).setCell (p := ⟨r, 10, none⟩) (fun _ => rfl) _).setCell (p := ⟨r, 11, none⟩) (fun _ => rfl) _
      have hr7 : (((((w5.setCell ⟨r, 2, none⟩ (.bool true)).setCell ⟨r, 8, none⟩ (.bool true)).setCell ⟨r, 9, none⟩ (.int .i64 id)).setCell ⟨r, 10, none⟩ (.string ta)).setCell ⟨r, 11, none⟩ (.string tb)).heap[r]? = some (rCells ρ') := by
        rw [hρ']
        exact heap_setCell_at (heap_setCell_at (heap_setCell_at (heap_setCell_at (heap_setCell_at HRS5.out.cell 2 _) 8 _) 9 _) 10 _) 11 _
      have R7 : RefAt (SS A' s mw W' p) r w.heap.size ρ' (((((w5.setCell ⟨r, 2, none⟩ (.bool true)).setCell ⟨r, 8, none⟩ (.bool true)).setCell ⟨r, 9, none⟩ (.int .i64 id)).setCell ⟨r, 10, none⟩ (.string ta)).setCell ⟨r, 11, none⟩ (.string tb)) := HRS5.out.upd hr7 k7 (by rw [hρ']) (by rw [hρ']) (by rw [hρ']) (by rw [hρ']; exact HRS5.out.put)
      have hnr : ∀ q, q = r → ¬ SS A' s mw W' p q ∧ w.heap.size ≤ q := fun q e => hown q (.inl e)
      have HF : Hid (PNext5 w t p d (C + 2) (L + 30) true (((((w5.setCell ⟨r, 2, none⟩ (.bool true)).setCell ⟨r, 8, none⟩ (.bool true)).setCell ⟨r, 9, none⟩ (.int .i64 id)).setCell ⟨r, 10, none⟩ (.string ta)).setCell ⟨r, 11, none⟩ (.string tb))) := by
        have hl' : ρ'.l = ρ.l := by rw [hρ']
        refine ⟨A', σ', s, mw, N, W', lv, true, r, ρ', HAL5.out.side k7 (fun q hq e => (hnr q e).1 (.inl hq)) (fun q e => (hnr q e).2), k7.heap HC55.out (fun e => (hnr p e).1 (.inr (.inr (.inr (.inr rfl))))), hpA', HP.out.pw, ?_, ⟨hpS.1, hpS.2.1, hpW'⟩, R7, (fun e => by cases e), by rw [hρ']; exact HP.out.top, HP.out.lvt, by rw [hl']; exact HP.out.num, by rw [hl']; exact HP.out.sz, .inr ⟨by rw [hρ'], rfl, .inr ⟨?_, by rw [hρ'], ?_⟩⟩⟩
        · rw [hl']
          exact (HB5.out.side k7 (fun q e => ⟨fun e2 => (hnr q e).1 (.inr (.inl e2)), fun e2 => (hnr q e).1 (.inr (.inr (.inl e2))), fun n e2 => (hnr q e).1 (.inr (.inr (.inr (.inl ⟨n, e2⟩))))⟩)).monoL (by omega)
        · rcases HP.out.st with c | c
          · rw [hρ']; exact c.hp
          · exact absurd c.dead (by rw [HD0.out]; decide)
        · rw [hl', hρ']; exact HIV.out
      have HKF : Hid (Keeps (fun i => (A i ∨ i = s ∨ i = mw ∨ ∃ n, W' n = some i) ∨ i = r ∨ ρ.av.ownBlock = some i) we (((((w5.setCell ⟨r, 2, none⟩ (.bool true)).setCell ⟨r, 8, none⟩ (.bool true)).setCell ⟨r, 9, none⟩ (.int .i64 id)).setCell ⟨r, 10, none⟩ (.string ta)).setCell ⟨r, 11, none⟩ (.string tb)).drew) := (HKG.out.then k7 (fun i _ e => .inr (.inl e))).drew
      clear k7 hr7 R7 hnr hown
      have r2 : w5.cell? ⟨r, 2, none⟩ = some (.bool ρ.dead) := HRS5.out.at 2 _ rfl
      have r8 : w5.cell? ⟨r, 8, none⟩ = some (.bool ρ.hd) := HRS5.out.at 8 _ rfl
      have r9 : w5.cell? ⟨r, 9, none⟩ = some (.int .i64 ρ.id) := HRS5.out.at 9 _ rfl
      have r10 : w5.cell? ⟨r, 10, none⟩ = some (.string ρ.ta) := HRS5.out.at 10 _ rfl
      have r11 : w5.cell? ⟨r, 11, none⟩ = some (.string ρ.tb) := HRS5.out.at 11 _ rfl
      have rf2 := HRS5.out.fz 2
      have rf8 := HRS5.out.fz 8
      have rf9 := HRS5.out.fz 9
      have rf10 := HRS5.out.fz 10
      have rf11 := HRS5.out.fz 11
      have hrp : r ≠ p := fun e => HRS5.out.nS (.inr (.inr (.inr (.inr e))))
      have hrx : r ≠ we.heap.size := by
        have := HP.out.ref.lt
        omega
      clear hρ'
      go_wp2_with (go_at_call 19; refine (num5 _ _).mono ?_; rintro e w' ⟨rfl, hw'⟩; have hw' := hw'.symm; subst hw')
      go_region
      go_wp2_with fail
      go_ret
      exact ⟨rfl, HF.out.fresh ((Keeps.refl (fun _ => False) _).drew), HKF.out⟩
    · subst b1
      have HB5 : Hid (SpAt w A' d L s mw N (Pm (gone ρ.l id (ta.data.toList, tb.data.toList))) lv false W' w5) := b3.fresh HK5.out
      have HB4 : Hid (Dom (gone ρ.l id (ta.data.toList, tb.data.toList)) W') := b4
      have HB6 : Hid (Alive σ' (gone ρ.l id (ta.data.toList, tb.data.toList)) lv) := b5
      have HB2 : Hid (σ.left = none → σ'.left = none) := b2
      have hSl : ∀ q, SS A' s mw W' p q → q < w5.heap.size := fun q hq => by
        rcases hq with e | e | e | ⟨n, e⟩ | e
        · exact (HAL5.out.1 q e).2
        · omega
        · omega
        · obtain ⟨h1, _, _, _, _, _, h3, _⟩ := HB5.out.lft n q e
          exact h3.lt
        · omega
      have hgone := gone5 (HRS5.out.fresh ((Keeps.refl (fun _ => False) w5).drew)) hSl id ta tb (by omega) (fun g hg => by have := hlens g hg; omega)
      have HC7 : Hid (∀ W1, Keeps (fun q => q = r ∨ ρ.av.ownBlock = some q) w5 W1 → W1.cell? ⟨p, 2, none⟩ = some (.pointer (some ⟨r, 0, none⟩)) ∧ W1.cell? ⟨we.heap.size, 0, none⟩ = some (.string ta) ∧ W1.cell? ⟨we.heap.size, 1, none⟩ = some (.string tb)) := fun W1 k => by
        have hnp : ¬ (p = r ∨ ρ.av.ownBlock = some p) := fun e => (hown p e).1 (.inr (.inr (.inr (.inr rfl))))
        have hnn : ¬ (we.heap.size = r ∨ ρ.av.ownBlock = some we.heap.size) := fun e => by
          have h1 := HP.out.ref.lt
          rcases e with e | e
          · omega
          · have := (HP.out.ref.row.lt _ e).2; omega
        exact ⟨cell_keeps k u2 hnp, cell_keeps k u0 hnn, cell_keeps k u1 hnn⟩
      clear b2 b3 b4 b5 hSl HCASE
      unfold ptr at hgone
      have h06 : ((0 : Int) == 6) = false := rfl
      go_wp2_with (go_at_call 19; refine (num5 _ _).mono ?_; rintro e w' ⟨rfl, hw'⟩; have hw' := hw'.symm; subst hw')
      go_region_held3 (fun W1 => W1.cell? ⟨p, 2, none⟩ = some (.pointer (some ⟨r, 0, none⟩)) ∧ W1.cell? ⟨we.heap.size, 0, none⟩ = some (.string ta) ∧ W1.cell? ⟨we.heap.size, 1, none⟩ = some (.string tb)) (first | exact HC7.out _ ((Keeps.refl _ w5).drew) | exact HC7.out _ kA) (first | (go_at_call 80; refine hgone.mono ?_; rintro e w7 ⟨rfl, ⟨av, xs, hr7⟩, k7⟩; have kA : Keeps (fun q => q = r ∨ ρ.av.ownBlock = some q) w5 w7 := ((Keeps.refl _ w5).drew).trans k7))
      have HF : Hid (PNext5 w t p d (C + 2) (L + 30) stop w7) := by
        refine ⟨A', σ', s, mw, N, W', lv, false, r, ρ.went av xs id (ta.data.toList, tb.data.toList), HAL5.out.side kA (fun q hq e => (hown q e).1 (.inl hq)) (fun q e => (hown q e).2), kA.heap HC55.out (fun e => (hown p e).1 (.inr (.inr (.inr (.inr rfl))))), hpA', HP.out.pw, (HB5.out.side kA (fun q e => ⟨fun e2 => (hown q e).1 (.inr (.inl e2)), fun e2 => (hown q e).1 (.inr (.inr (.inl e2))), fun n e2 => (hown q e).1 (.inr (.inr (.inr (.inl ⟨n, e2⟩))))⟩)).monoL (by omega), ⟨hpS.1, hpS.2.1, hpW'⟩, hr7, fun e => HB2.out (HP.out.lft e), HP.out.top, HP.out.lvt, ⟨hnum.1, ?_⟩, ?_, .inl ⟨HD0.out, rfl, ?_, ?_, HB4.out, HB6.out⟩⟩
        · show (gone ρ.l _ _).length ≤ t
          have h1 := (ids_gone_sub ρ.l id (ta.data.toList, tb.data.toList)).length_le
          unfold ids at h1
          rw [List.length_map, List.length_map] at h1
          omega
        · intro g hg
          obtain ⟨_, g0, hg0, rfl⟩ := mem_gone.1 hg
          rw [(gone1_id _ _ g0).2]
          exact HP.out.sz g0 hg0
        · rcases HP.out.st with c | c
          · exact c.hp
          · exact absurd c.dead (by rw [HD0.out]; decide)
        · rcases HP.out.st with c | c
          · exact c.hd
          · exact absurd c.dead (by rw [HD0.out]; decide)
      have HKF : Hid (Keeps (fun i => (A i ∨ i = s ∨ i = mw ∨ ∃ n, W n = some i) ∨ i = r ∨ ρ.av.ownBlock = some i) we w7) := HKG.out.then kA (fun i _ e => .inr e)
      clear hgone hr7 k7 kA
      go_wp2_with (go_at_call 19; refine (num5 _ _).mono ?_; rintro e w' ⟨rfl, hw'⟩; have hw' := hw'.symm; subst hw')
      go_ret
      exact ⟨rfl, HF.out, HKF.out⟩

end

end Go.Proofs.YtegbkpjcjlihmabGreatDoor

namespace Go.Proofs.YtegbkpjcjlihmabGreatDoor
open Go.RowKit Go.Maps Go.Sort Go.Lib

theorem AdAt.addMaps {w : World} {S S' : Nat → Prop} {v : Value} {l : List Ltr} (h : AdAt w S v l) (hm : ∀ i, S' i → S i ∨ ∀ off, w.cell? ⟨i, off, none⟩ = none) : AdAt w S' v l := by
  obtain ⟨ao, cap, e, h1, h2⟩ := h
  refine ⟨ao, cap, e, h1, fun b off e hn => ⟨fun hb => ?_, (h2 b off e hn).2⟩⟩
  rcases hm b hb with hb | hb
  · exact (h2 b off e hn).1 hb
  · obtain ⟨b', off', e', hc⟩ := h1 hn
    rw [e] at e'
    injection e' with e'
    injection e' with e1 e2
    subst e1 e2
    obtain ⟨x, hx⟩ : ∃ x, l[0]? = some x := ⟨l[0]'(by omega), List.getElem?_eq_getElem (by omega)⟩
    have := (hc 0 x hx).1
    rw [hb] at this
    cases this

theorem RefAt.addMaps {S S' : Nat → Prop} {r base : Nat} {ρ : Rs} {w : World} (h : RefAt S r base ρ w) (hm : ∀ i, S' i → S i ∨ ∃ n c M, LeftAt w i n c M) : RefAt S' r base ρ w := by
  have hr : ¬ S' r := fun e => by
    rcases hm r e with e | ⟨n, c, M, e⟩
    · exact h.nS e
    · have t1 := e.tag
      have t2 := tag_cells (cs := #[ρ.av, .int .i64 ρ.top, .bool ρ.dead, .bool ρ.hp, .string ρ.pa, .string ρ.pb, ρ.pt, .string ρ.pd, .bool ρ.hd, .int .i64 ρ.id, .string ρ.ta, .string ρ.tb]) h.cell
      rw [t1] at t2
      exact absurd (Option.some.inj t2) (by decide)
  have ha : ∀ k, ρ.av.ownBlock = some k → ¬ S' k := fun k hk e => by
    rcases hm k e with e | ⟨n, c, M, e⟩
    · exact h.nR k hk e
    · have t1 := e.tag
      have t2 := owns_tag h.row hk
      rw [t1] at t2
      exact absurd (Option.some.inj t2) (by decide)
  have hA : ∀ v l, AdAt w (fun b => S b ∨ b = r ∨ ρ.av.ownBlock = some b) v l → AdAt w (fun b => S' b ∨ b = r ∨ ρ.av.ownBlock = some b) v l := fun v l ha => ha.addMaps (fun b e => by
    rcases e with e | e
    · rcases hm b e with e | ⟨n, c, M, e⟩
      · exact .inl (.inl e)
      · exact .inr (map_cell e)
    · exact .inl (.inr e))
  exact ⟨h.cell, h.row, h.len, fun i x g hx hg => let o := h.raw i x g hx hg; ⟨o.id, o.fa, o.fb, hA _ _ o.tt, o.dd, hA _ _ o.lf⟩, hA _ _ h.put, hr, ha, h.bs⟩

def nothT : Text := [110, 111, 116, 104, 105, 110, 103, 32, 111, 102, 32, 116, 104, 105, 115, 32, 110, 97, 109, 101]

section
variable {w we wr w' : World} {t p d C L : Nat} {A T : Nat → Prop} {σ σ' : Dk} {stop : Bool} {s mw N : Nat} {W : Waits} {lv lv' : Int} {b : Bool} {r : Nat} {ρ : Rs} {l l' : List Wg} {may : May} {k : Int} {K : List Text}

theorem syncs_dead {x : Text} (h : σ.syncs x 6 σ') : σ'.dead = true := by
  rcases h with ⟨h1, _, rfl⟩ | ⟨_, _, h1, _⟩ | ⟨_, _, _, h1, _⟩
  · unfold Dk.dead at *
    unfold Dk.tick
    have : σ.left = some 0 := by simpa using h1
    simp [this]
  · cases h1
  · cases h1

set_option maxHeartbeats 4000000 in
set_option maxRecDepth 100000 in
theorem stopped5 (h : Live w we A d K C L σ) (hc : we.heap[p]? = some (pCells5 d s r stop)) :
    Calls Tryz.prog 41 #[ptr p] we fun e w' => ∃ k σ', e = .returned (.bool (k == 6)) ∧ σ.syncs nothT k σ' ∧ Live w w' (ext A we w') d K C L σ' ∧ Keeps A we w' := by
  have hs := h.sync ⟨nothT.toArray⟩ (by decide)
  obtain ⟨p0, _, _, _, _⟩ := mcells hc
  unfold ptr at *
  unfold nothT at hs
  clear h
  go_enter Tryz.func41, Tryz.ntmps41
  go_wp2_with fail
  refine hs.mono ?_
  rintro e w1 ⟨k, σ', rfl, h1, h2, h3⟩
  have HE : Hid (∃ σ', σ.syncs nothT k σ' ∧ Live w w1 (ext A we w1) d K C L σ' ∧ Keeps A we w1) := ⟨σ', h1, h2, h3⟩
  clear hs h1 h2 h3 hc
  go_wp2_with (go_at_call 19; refine (num5 _ _).mono ?_; rintro e w' ⟨rfl, hw'⟩; have hw' := hw'.symm; subst hw')
  go_ret
  obtain ⟨σ', h1, h2, h3⟩ := HE.out
  exact ⟨k, σ', rfl, h1, h2, h3⟩

/-- what Open gives -/
def OpenRes (w : World) (t d C L : Nat) (A : Nat → Prop) (σ : Dk) (l : List Wg) (lv : Int) (may : May) (we : World) (sv : Value) (ev : Int) (w' : World) : Prop :=
  ∃ σ' A', Live w w' A' d (K5 t) (C + 2) L σ' ∧ (∀ i, A' i → A i ∨ we.heap.size ≤ i) ∧ Keeps A we w' ∧ (σ.left = none → σ'.left = none) ∧
    ((sv = .pointer none ∧ ev = 6 ∧ σ.left ≠ none ∧ Inv σ' l lv may) ∨
     (σ.dead = false ∧ ev = 0 ∧ ∃ s mw N W l' lv', sv = ptr s ∧ we.heap.size ≤ s ∧ we.heap.size ≤ mw ∧ N ≤ 2 * t + 5 ∧ Seen l lv may l' lv' ∧ SpAt w A' d L s mw N (Pm l') lv' false W w' ∧ Dom l' W ∧ Alive σ' l' lv'))

theorem open5 (h : Live w we A d (K5 t) C L σ) (hG : Gl w) (h8 : 8 ≤ w.heap.size) (ht : t ≤ 1000000) (hC : C ≤ 1000000000) (hL : L ≤ 500000000) (hI : Inv σ l lv may) (hlt : lv ≤ t) :
    Calls Tryz.prog 18 #[ptr d] we fun e w' => ∃ sv ev, e = .returned (.tuple #[sv, .int .i64 ev]) ∧ OpenRes w t d C L A σ l lv may we sv ev w' := by
  have hK := K5_len t
  refine (open_any h hG h8 (by omega) (K5_size ht) (by omega) (by omega) (K5_l (n := 0) (by omega) (by omega))).mono ?_
  rintro e w' ⟨ks, k, σ', A', hso, hr, hl, hA, hk, hc⟩
  obtain ⟨q1, q2, q3, q4⟩ := open_plain hI h.2.2.1 (by omega) hso hr
  have hlf : σ.left = none → σ'.left = none := fun e => runs_left hr e
  rcases hc with ⟨c1, rfl⟩ | ⟨c1, s, mw, N, W, rfl, c2, c3, c4, c5, c6⟩
  · exact ⟨_, 6, rfl, σ', A', hl, hA, hk, hlf, .inl ⟨rfl, rfl, q2 c1, q1⟩⟩
  · obtain ⟨l', lv', u1, u2, u3, u4, u5⟩ := q4 c1
    rw [u3] at c6
    refine ⟨_, 0, rfl, σ', A', hl, hA, hk, hlf, .inr ⟨?_, rfl, s, mw, N, W, l', lv', rfl, c3, c4, by omega, u1, c6.monoP (fun n M hP => u4 n M hP), fun n => ?_, u2⟩⟩
    · cases hd : σ.dead with
      | false => rfl
      | true => exact absurd c1 (q3 hd)
    · rw [← u5 n]
      constructor
      · intro e
        obtain ⟨b, hb⟩ := Option.isSome_iff_exists.1 e
        exact c5.1 n b hb
      · rintro ⟨s, hs, hn⟩
        exact c5.2 s hs n hn

/-- what may have been done, as the reference has it -/
def MayAs (ρ : Rs) (may : May) : Prop :=
  (ρ.hp = false ∧ ρ.hd = false ∧ may = .no) ∨ (ρ.hp = true ∧ ρ.hd = false ∧ mlW (pml ρ) ≤ 1048576 ∧ may = .put (pml ρ)) ∨ (ρ.hp = false ∧ ρ.hd = true ∧ may = .done ρ.id (ρ.ta.data.toList, ρ.tb.data.toList))

/-- the player before an Open -/
structure OS (w : World) (t p d C L : Nat) (A : Nat → Prop) (σ : Dk) (stop : Bool) (s r : Nat) (ρ : Rs) (lv : Int) (may : May) (wr : World) : Prop where
  live : Live w wr A d (K5 t) C L σ
  cell : wr.heap[p]? = some (pCells5 d s r stop)
  pA : ¬ A p
  pw : w.heap.size ≤ p
  ref : RefAt (fun i => A i ∨ i = p) r w.heap.size ρ wr
  lft : stop = false → σ.left = none
  top : ρ.top ≤ lv
  lvt : lv + 1 ≤ t
  num : ρ.l.length + 1 ≤ t
  sz : ∀ g ∈ ρ.l, mlW g.2.1 ≤ 1048576
  mas : MayAs ρ may
  inv : Inv σ ρ.l lv may

theorem PS.os (h : PS w t p d C L A σ stop s mw N W lv b r ρ wr) (hlt : lv + 1 ≤ t) (hln : ρ.l.length + 1 ≤ t) : ∃ may, OS w t p d C L A σ stop s r ρ lv may wr := by
  have hr : RefAt (fun i => A i ∨ i = p) r w.heap.size ρ wr := h.ref.less (fun i _ e => e.elim .inl (fun e => .inr (.inr (.inr (.inr e)))))
  rcases h.st with c | c
  · exact ⟨.no, h.live, h.cell, h.pA, h.pw, hr, h.lft, h.top, hlt, hln, h.sz, .inl ⟨c.hp, c.hd, rfl⟩, c.al.inv⟩
  · rcases c.may with ⟨m1, m2, m3, m4⟩ | ⟨m1, m2, m3⟩
    · exact ⟨_, h.live, h.cell, h.pA, h.pw, hr, h.lft, h.top, hlt, hln, h.sz, .inr (.inl ⟨m1, m2, m3, rfl⟩), m4⟩
    · exact ⟨_, h.live, h.cell, h.pA, h.pw, hr, h.lft, h.top, hlt, hln, h.sz, .inr (.inr ⟨m1, m2, rfl⟩), m3⟩

theorem OS.fresh (h : OS w t p d C L A σ stop s r ρ lv may wr) (k : Fresh wr w') : OS w t p d C L A σ stop s r ρ lv may w' :=
  ⟨h.live.fresh k, k.heap h.cell (fun e => e), h.pA, h.pw, h.ref.fresh k, h.lft, h.top, h.lvt, h.num, h.sz, h.mas, h.inv⟩

/-- a call of the disk lies behind it -/
theorem OS.next {A' : Nat → Prop} {C' L' : Nat} {w1 : World} (h : OS w t p d C L A σ stop s r ρ lv may wr) (hl : Live w w1 A' d (K5 t) C' L' σ') (k : Keeps A wr w1) (hA : ∀ i, A' i → A i ∨ wr.heap.size ≤ i) (hlf : stop = false → σ'.left = none) (hI : Inv σ' ρ.l lv may) : OS w t p d C' L' A' σ' stop s r ρ lv may w1 := by
  have hpl := heap_lt h.cell
  refine ⟨hl, k.heap h.cell h.pA, fun e => (hA p e).elim h.pA (fun e => by omega), h.pw, h.ref.keep k (fun i _ hn e => hn (.inl e)) (fun i hi e => ?_), hlf, h.top, h.lvt, h.num, h.sz, h.mas, hI⟩
  rcases e with e | e
  · exact (hA i e).elim .inl (fun e => by omega)
  · exact .inr e

/-- Stop is stored -/
theorem OS.setStop {b' : Bool} (h : OS w t p d C L A σ stop s r ρ lv may wr) (hlf : b' = false → σ.left = none) : OS w t p d C L A σ b' s r ρ lv may (wr.setCell ⟨p, 3, none⟩ (.bool b')) := by
  have k : Keeps (fun i => i = p) wr (wr.setCell ⟨p, 3, none⟩ (.bool b')) := (Keeps.refl (fun i => i = p) wr).setCell (p := ⟨p, 3, none⟩) (fun _ => rfl) _
  exact ⟨h.live.side k (fun i hi e => h.pA (e ▸ hi)) (fun i e => by have := h.pw; omega), heap_setCell_at h.cell 3 _, h.pA, h.pw, h.ref.keep k (fun i _ hn e => hn (.inr e)) (fun _ _ e => e), hlf, h.top, h.lvt, h.num, h.sz, h.mas, h.inv⟩

/-- a player that is calm -/
def PCalm5 (w : World) (t p d C L : Nat) (stop : Bool) (wr : World) : Prop := ∃ A σ s mw N W lv r ρ, PS w t p d C L A σ stop s mw N W lv false r ρ wr ∧ Calm ρ σ false lv W

theorem PCalm5.any (h : PCalm5 w t p d C L stop wr) : PNext5 w t p d C L stop wr := by
  obtain ⟨A, σ, s, mw, N, W, lv, r, ρ, h, _⟩ := h
  exact ⟨A, σ, s, mw, N, W, lv, false, r, ρ, h⟩

theorem PCalm5.mono {C' L' : Nat} (h : PCalm5 w t p d C L stop wr) (hC : C ≤ C') (hL : L ≤ L') : PCalm5 w t p d C' L' stop wr := by
  obtain ⟨A, σ, s, mw, N, W, lv, r, ρ, h, c⟩ := h
  exact ⟨A, σ, s, mw, N, W, lv, r, ρ, h.mono hC hL, c⟩

/-- behind found -/
theorem OS.found {A' : Nat → Prop} {C' : Nat} {w1 : World} {s' : Nat} (h : OS w t p d C L A σ stop s r ρ lv may wr) (hG : Gl w) (h8 : 8 ≤ w.heap.size) (ht : t ≤ 1000000) (hL : L ≤ 500000000)
    (hl : Live w w1 A' d (K5 t) C' L σ') (k : Keeps A wr w1) (hA : ∀ i, A' i → A i ∨ wr.heap.size ≤ i) (hlf : stop = false → σ'.left = none) (hs1 : wr.heap.size ≤ s') (hs2 : wr.heap.size ≤ mw) (hN : N ≤ 2 * t + 5) (hsn : Seen ρ.l lv may l' lv') (hsp : SpAt w A' d L s' mw N (Pm l') lv' false W w1) (hdm : Dom l' W) (hal : Alive σ' l' lv') :
    Calls Tryz.prog 42 #[ptr s', ptr r] ((w1.setCell ⟨p, 1, none⟩ (ptr s')).drew) fun e w' => e = .returned (.bool true) ∧ w'.heap[p]? = some (pCells5 d s' r stop) ∧ PCalm5 w t p d C' L stop w' := by
  have hpl := heap_lt h.cell
  have hpA' : ¬ A' p := fun e => (hA p e).elim h.pA (fun e => by omega)
  have kp : Keeps (fun i => i = p) w1 ((w1.setCell ⟨p, 1, none⟩ (ptr s')).drew) := ((Keeps.refl (fun i => i = p) w1).setCell (p := ⟨p, 1, none⟩) (fun _ => rfl) _).drew
  have hpW : ∀ n, W n ≠ some p := fun n e => by
    obtain ⟨_, _, _, _, _, _, h3, _⟩ := hsp.lft n p e
    have t1 := h3.tag
    have t2 := tag_cells (cs := #[ptr d, ptr s, ptr r, .bool stop]) (k.heap h.cell h.pA)
    rw [t1] at t2
    exact absurd (Option.some.inj t2) (by decide)
  have hps : p ≠ s' := by omega
  have hpm : p ≠ mw := by omega
  have hc2 : ((w1.setCell ⟨p, 1, none⟩ (ptr s')).drew).heap[p]? = some (pCells5 d s' r stop) := heap_setCell_at (k.heap h.cell h.pA) 1 _
  have hl2 := hl.side kp (fun i hi e => hpA' (e ▸ hi)) (fun i e => by have := h.pw; omega)
  have hsp2 := hsp.side kp (fun i e => ⟨by omega, by omega, fun n e2 => hpW n (e ▸ e2)⟩)
  have R1 : RefAt (fun i => A' i ∨ i = s' ∨ i = mw ∨ i = p) r w.heap.size ρ w1 := h.ref.keep k (fun i _ hn e => hn (.inl e)) (fun i hi e => by
    rcases e with e | e | e | e
    · exact (hA i e).elim .inl (fun e => by omega)
    · omega
    · omega
    · exact .inr e)
  have R2 : RefAt (SS A' s' mw W p) r w.heap.size ρ w1 := R1.addMaps (fun i e => by
    rcases e with e | e | e | ⟨n, e⟩ | e
    · exact .inl (.inl e)
    · exact .inl (.inr (.inl e))
    · exact .inl (.inr (.inr (.inl e)))
    · obtain ⟨_, _, nn, c, M, _, h3, _⟩ := hsp.lft n i e
      exact .inr ⟨nn, c, M, h3⟩
    · exact .inl (.inr (.inr (.inr e))))
  have R3 : RefAt (SS A' s' mw W p) r w.heap.size ρ ((w1.setCell ⟨p, 1, none⟩ (ptr s')).drew) := R2.keep kp (fun i _ hn e => hn (.inr (.inr (.inr (.inr e))))) (fun _ _ e => e)
  have hnum := h.num
  have hlvt := h.lvt
  have htop := h.top
  -- what is told
  have key : lv' ≤ t ∧ l'.length ≤ t ∧ (∀ g ∈ l', mlW g.2.1 ≤ 1048576) := by
    rcases h.mas with ⟨_, _, rfl⟩ | ⟨_, _, m3, rfl⟩ | ⟨_, _, rfl⟩
    · obtain ⟨rfl, rfl⟩ := (show l' = ρ.l ∧ lv' = lv from hsn)
      exact ⟨by omega, by omega, h.sz⟩
    · rcases (show (l' = ρ.l ++ [(lv + 1, pml ρ, once (mlTo (pml ρ)))] ∧ lv' = lv + 1) ∨ (l' = ρ.l ∧ (lv' = lv ∨ lv' = lv + 1)) from hsn) with ⟨rfl, rfl⟩ | ⟨rfl, e⟩
      · refine ⟨by omega, by rw [List.length_append]; simpa using hnum, fun g hg => ?_⟩
        rcases List.mem_append.1 hg with e | e
        · exact h.sz g e
        · rw [List.mem_singleton.1 e]; exact m3
      · exact ⟨by omega, by omega, h.sz⟩
    · obtain ⟨e, rfl⟩ := (show (l' = ρ.l ∨ l' = gone ρ.l ρ.id (ρ.ta.data.toList, ρ.tb.data.toList)) ∧ lv' = lv from hsn)
      rcases e with rfl | rfl
      · exact ⟨by omega, by omega, h.sz⟩
      · refine ⟨by omega, ?_, fun g hg => ?_⟩
        · have h1 := (ids_gone_sub ρ.l ρ.id (ρ.ta.data.toList, ρ.tb.data.toList)).length_le
          unfold ids at h1
          rw [List.length_map, List.length_map] at h1
          omega
        · obtain ⟨_, g0, hg0, rfl⟩ := mem_gone.1 hg
          rw [(gone1_id _ _ g0).2]
          exact h.sz g0 hg0
  obtain ⟨key1, key2, key3⟩ := key
  have hT : Tells w A' d (K5 t) C' L σ' s' mw N W lv' false l' lv' ((w1.setCell ⟨p, 1, none⟩ (ptr s')).drew) := ⟨hl2, hsp2, hdm, hal, key3, by omega, by omega, by omega⟩
  have hpl2 : p < ((w1.setCell ⟨p, 1, none⟩ (ptr s')).drew).heap.size := heap_lt hc2
  have hfound : Calls Tryz.prog 42 #[ptr s', ptr r] ((w1.setCell ⟨p, 1, none⟩ (ptr s')).drew) (Found5 w A' d (K5 t) C' L σ' s' mw N W lv' false l' lv' p r ρ ((w1.setCell ⟨p, 1, none⟩ (ptr s')).drew)) := by
    rcases h.mas with ⟨m1, m2, rfl⟩ | ⟨m1, m2, m3, rfl⟩ | ⟨m1, m2, rfl⟩
    · obtain ⟨rfl, rfl⟩ := (show l' = ρ.l ∧ lv' = lv from hsn)
      exact found_no hT hG h8 R3 rfl htop m1 m2
    · rcases (show (l' = ρ.l ++ [(lv + 1, pml ρ, once (mlTo (pml ρ)))] ∧ lv' = lv + 1) ∨ (l' = ρ.l ∧ (lv' = lv ∨ lv' = lv + 1)) from hsn) with ⟨rfl, rfl⟩ | ⟨rfl, e⟩
      · exact found_put1 hT hpl2 hG h8 R3 (by omega) m1 m2
      · exact found_put0 hT hG h8 R3 rfl (by omega) m1 m2
    · obtain ⟨e, rfl⟩ := (show (l' = ρ.l ∨ l' = gone ρ.l ρ.id (ρ.ta.data.toList, ρ.tb.data.toList)) ∧ lv' = lv from hsn)
      obtain ⟨g, hg, g1, g2⟩ : ∃ g ∈ ρ.l, g.1 = ρ.id ∧ (ρ.ta.data.toList, ρ.tb.data.toList) ∈ g.2.2 := h.inv.ok
      refine found_done hT hpl2 hG h8 R3 htop m1 m2 h.inv.wgs hg g1 g2 e (by omega) (fun g hg => ?_)
      obtain ⟨_, _, _, _, h5⟩ := h.inv.wgs.mem g hg
      have h1 := h5.length_le
      have h2 := once_len (mlTo g.2.1)
      have h3 := toW_len g.2.1.2.2.1
      have h4 := h.sz g hg
      have h6 : mlTo g.2.1 = g.2.1.2.2.1 := rfl
      unfold mlW at h4
      rw [h6] at h1 h2
      omega
  refine hfound.mono ?_
  rintro e w' ⟨rfl, ρ', f1, f2, f3, f4, f5, f6, f7, f8⟩
  have hownp : ¬ (A' p ∨ p = r ∨ ρ.av.ownBlock = some p) := fun e => by
    rcases e with e | e
    · exact hpA' e
    · exact (R3.own p e).1 (.inr (.inr (.inr (.inr rfl))))
  have hcalm : Calm ρ' σ' false lv' W := ⟨f2, rfl, f3, f4, by rw [f1]; exact hdm, by rw [f1]; exact hal⟩
  exact ⟨rfl, f8.heap hc2 hownp, A', σ', s', mw, N, W, lv', r, ρ', ⟨f7.live, f8.heap hc2 hownp, hpA', h.pw, by rw [f1]; exact f7.sp, ⟨hps, hpm, hpW⟩, f6, hlf, f5, key1, ⟨hN, by rw [f1]; exact key2⟩, by rw [f1]; exact key3, .inl hcalm⟩, hcalm⟩

end

end Go.Proofs.YtegbkpjcjlihmabGreatDoor

namespace Go.Proofs.YtegbkpjcjlihmabGreatDoor
open Go.RowKit Go.Maps Go.Sort Go.Lib

def opV5 (kind : Int) (fa fb : ByteArray) (tv : Value) (dd : ByteArray) (nn mm : Int) (sv : Value) : Value := .agg #[.int .i64 kind, .string fa, .string fb, tv, .string dd, .int .i64 nn, .int .i64 mm, sv]
def opC5 (kind : Int) (fa fb : ByteArray) (tv : Value) (dd : ByteArray) (nn mm : Int) (sv : Value) : Obj := .cells #[.int .i64 kind, .string fa, .string fb, tv, .string dd, .int .i64 nn, .int .i64 mm, sv] 33

section
variable {w we wr w' : World} {t p d C L : Nat} {A T : Nat → Prop} {σ σ' : Dk} {stop : Bool} {s mw N : Nat} {W : Waits} {lv lv' : Int} {b : Bool} {r : Nat} {ρ : Rs} {l l' : List Wg} {may : May} {k : Int} {K : List Text}

theorem ext_new {w w' : World} {A : Nat → Prop} : ∀ i, ext A w w' i → A i ∨ w.heap.size ≤ i := fun _ hi => hi.elim .inl (fun e => .inr e.1)

set_option maxHeartbeats 16000000 in
set_option maxRecDepth 100000 in
theorem openC (h : OS w t p d C L A σ stop s r ρ lv may we) (hG : Gl w) (h8 : 8 ≤ w.heap.size) (ht : t ≤ 1000000) (hC : C ≤ 900000000) (hL : L ≤ 500000000) (kind : Int) (fa fb dd : ByteArray) (tv : Value) (nn mm : Int) (sv : Value) (ts : List Int) (hints : ∀ A : Nat → Prop, (∀ i, A i → w.heap.size ≤ i) → Ints w A sv ts) :
    Calls Tryz.prog 11 #[ptr p, opV5 kind fa fb tv dd nn mm sv] we fun e w' => e = .returned (.bool true) ∧ ∃ stop', (stop = false → stop' = false) ∧ PCalm5 w t p d (C + 4) L stop' w' := by
  have f0 : Fresh we (we.alloc (opC5 kind fa fb tv dd nn mm sv)) := (Keeps.refl _ _).alloc _
  have hx0 := heap_new we (opC5 kind fa fb tv dd nn mm sv)
  have HP0 : Hid (OS w t p d C L A σ stop s r ρ lv may (we.alloc (opC5 kind fa fb tv dd nn mm sv))) := h.fresh f0
  have hA : ∀ i, A i → i < we.heap.size := fun i hi => (h.live.1 i hi).2
  have hpl := heap_lt h.cell
  have hwz := h.live.2.2.2.size
  have hK5 := K5_len t
  have HI : Hid (∀ A : Nat → Prop, (∀ i, A i → w.heap.size ≤ i) → Ints w A sv ts) := hints
  obtain ⟨tao, tcap, hsv, _, _, _⟩ := hints (fun _ => False) (fun _ e => e.elim)
  clear h hints
  unfold opC5 opV5 ptr at *
  subst hsv
  go_enter Tryz.func11, Tryz.ntmps11
  go_upto_region 1 with fail
  generalize we.alloc (.cells #[.int .i64 kind, .string fa, .string fb, tv, .string dd, .int .i64 nn, .int .i64 mm, .slice tao ts.length tcap] 33) = w0 at *
  have hw0 := f0.size
  have hlt0 := heap_lt hx0
  have hst := stopped5 HP0.out.live HP0.out.cell
  unfold ptr at hst
  clear f0
  go_wp2_with fail
  refine hst.mono ?_
  rintro e w1 ⟨k0, σ1, rfl, hsy, hl1, k1⟩
  have HP1 : Hid (OS w t p d C L (ext A w0 w1) σ1 stop s r ρ lv may w1) := HP0.out.next hl1 k1 ext_new (fun e => Wr.leftN (2, nothT, []) (HP0.out.lft e) hsy) (HP0.out.inv.offm HP0.out.live.2.2.1 (x := (2, nothT, [])) ⟨fun _ e => e.elim, fun _ e => e.elim, fun e => by cases e⟩ hsy)
  have HX1 : Hid (w1.heap[we.heap.size]? = some (.cells #[.int .i64 kind, .string fa, .string fb, tv, .string dd, .int .i64 nn, .int .i64 mm, .slice tao ts.length tcap] 33)) := k1.heap hx0 (fun e => by have := hA _ e; omega)
  have hx1A : ¬ ext A w0 w1 we.heap.size := fun e => by
    rcases e with e | e
    · have := hA _ e; omega
    · omega
  have hk1 := k1.size
  have HSY : Hid (σ.syncs nothT k0 σ1) := hsy
  clear hst hsy hl1 k1 hx0 HP0
  have p0 := (mcells HP1.out.cell).1
  have hop := open5 HP1.out.live hG h8 ht (by omega) hL HP1.out.inv (by have := HP1.out.lvt; omega)
  unfold ptr at hop p0
  go_wp2_with fail
  refine hop.mono ?_
  rintro e w2 ⟨sv2, ev2, rfl, σ2, A2, hl2, hA2, k2, hlf2, hcase⟩
  clear hop p0
  rcases hcase with ⟨rfl, rfl, c1, c2⟩ | ⟨c1, rfl, s', mw', N', W', l', lv', hsv2, c2, c3, c4, c5, c6, c7, c8⟩
  · have hstop : stop = true := by
      cases hst : stop with
      | true => rfl
      | false => exact absurd (HP1.out.lft hst) c1
    subst hstop
    have HP2 : Hid (OS w t p d (C + 2) L A2 σ2 true s r ρ lv may w2) := HP1.out.next hl2 k2 hA2 (fun e => by cases e) c2
    have HX2 : Hid (w2.heap[we.heap.size]? = some (.cells #[.int .i64 kind, .string fa, .string fb, tv, .string dd, .int .i64 nn, .int .i64 mm, .slice tao ts.length tcap] 33)) := k2.heap HX1.out hx1A
    have hx2A : ¬ A2 we.heap.size := fun e => (hA2 _ e).elim hx1A (fun e => by omega)
    have hk2 := k2.size
    clear c1 c2 hl2 k2 hA2 hlf2 HP1 HX1 hx1A HSY
    obtain ⟨p0, p1, p2, p3, pf0, pf1, pf2, pf3⟩ := mcells HP2.out.cell
    have x5 : w2.cell? ⟨we.heap.size, 5, none⟩ = some (.int .i64 nn) := by rw [Lib.cell_of_heap HX2.out]; rfl
    have x7 : w2.cell? ⟨we.heap.size, 7, none⟩ = some (.slice tao ts.length tcap) := by rw [Lib.cell_of_heap HX2.out]; rfl
    unfold ptr at p0 p1 p2
    have hcr := (HP2.out.live.fresh ((Keeps.refl _ w2).drew)).crash (by omega) (by omega) (by omega) nn (.slice tao ts.length tcap) ts ((HI.out A2 (fun i hi => (HP2.out.live.1 i hi).1)).fresh (HP2.out.live.2.2.2.drew))
    unfold ptr at hcr
    have HC2 : Hid (∀ W1, Keeps A2 w2 W1 → W1.cell? ⟨p, 0, none⟩ = some (.pointer (some ⟨d, 0, none⟩)) ∧ W1.cell? ⟨we.heap.size, 5, none⟩ = some (.int .i64 nn) ∧ W1.cell? ⟨we.heap.size, 7, none⟩ = some (.slice tao ts.length tcap)) := fun W1 k => ⟨cell_keeps k p0 HP2.out.pA, cell_keeps k x5 hx2A, cell_keeps k x7 hx2A⟩
    obtain ⟨dd0, hdd0⟩ : ∃ x, (k0 == 6) = x := ⟨_, rfl⟩
    rw [hdd0]
    clear hdd0
    cases dd0
    all_goals (
      go_wp2_with (go_at_call 19; refine (num5 _ _).mono ?_; rintro e w' ⟨rfl, hw'⟩; have hw' := hw'.symm; subst hw')
      go_region_held3 (fun W1 => W1.cell? ⟨p, 0, none⟩ = some (.pointer (some ⟨d, 0, none⟩)) ∧ W1.cell? ⟨we.heap.size, 5, none⟩ = some (.int .i64 nn) ∧ W1.cell? ⟨we.heap.size, 7, none⟩ = some (.slice tao ts.length tcap)) (first | exact HC2.out _ ((Keeps.refl _ w2).drew) | exact HC2.out _ k3) (first | (go_at_call 10; refine hcr.mono ?_; rintro e w3 ⟨ks, rfl, hso, h3, k3'⟩; have k3 : Keeps A2 w2 w3 := ((Keeps.refl _ w2).drew).trans k3'))
      have HP3 : Hid (OS w t p d (C + 2) L (ext A2 w2.drew w3) (σ2.crashed (min nn.toNat σ2.chs.length) ks ts) false s r ρ lv may (w3.setCell ⟨p, 3, none⟩ (.bool false))) := (HP2.out.next h3 k3 ext_new (fun _ => rfl) (HP2.out.inv.crashed HP2.out.live.2.2.1 _ ks ts)).setStop (fun _ => rfl)
      have hc3 := k3.heap HP2.out.cell HP2.out.pA
      obtain ⟨q0, q1, q2, q3, qf0, qf1, qf2, qf3⟩ := mcells hc3
      unfold ptr at q0 q1 q2
      clear hcr h3 k3 k3' hso hc3 p0 p1 p2 p3 pf0 pf1 pf2 pf3 x5 x7 HC2
      generalize σ2.crashed (min nn.toNat σ2.chs.length) ks ts = σ3 at *
      generalize ext A2 w2.drew w3 = A3 at *
      go_upto_region 8 with fail
      generalize w3.setCell ⟨p, 3, none⟩ (.bool false) = w4 at *
      have u0 := (mcells HP3.out.cell).1
      have hop := open5 HP3.out.live hG h8 ht (by omega) hL HP3.out.inv (by have := HP3.out.lvt; omega)
      unfold ptr at hop u0
      clear q0 q1 q2 q3 qf0 qf1 qf2 qf3
      go_wp2_with fail
      refine hop.mono ?_
      rintro e w5 ⟨sv5, ev5, rfl, σ5, A5, hl5, hA5, k5, hlf5, hcase⟩
      clear hop u0
      rcases hcase with ⟨_, _, c1, _⟩ | ⟨c1, rfl, s', mw', N', W', l', lv', hsv5, c2, c3, c4, c5, c6, c7, c8⟩
      · exact absurd (HP3.out.lft rfl) c1
      unfold ptr at hsv5
      subst hsv5
      have hfd := HP3.out.found hG h8 ht hL hl5 k5 hA5 (fun e => hlf5 (HP3.out.lft e)) c2 c3 c4 c5 c6 c7 c8
      have hc5 := k5.heap HP3.out.cell HP3.out.pA
      obtain ⟨q0, q1, q2, q3, qf0, qf1, qf2, qf3⟩ := mcells hc5
      have hc6 := heap_setCell_at hc5 1 (.pointer (some ⟨s', 0, none⟩))
      obtain ⟨_, y1, y2, _, _⟩ := mcells hc6
      unfold ptr at q0 q1 q2 hfd y2
      clear c1 c2 c3 c4 c5 c6 c7 c8 hl5 hA5 k5 hlf5 hc5 hc6
      go_wp2_with (go_at_call 19; refine (num5 _ _).mono ?_; rintro e w' ⟨rfl, hw'⟩; have hw' := hw'.symm; subst hw')
      generalize w5.setCell ⟨p, 1, none⟩ (.pointer (some ⟨s', 0, none⟩)) = w6 at *
      go_region_held3 (fun W1 => W1.cell? ⟨p, 1, none⟩ = some (.pointer (some ⟨s', 0, none⟩)) ∧ W1.cell? ⟨p, 2, none⟩ = some (.pointer (some ⟨r, 0, none⟩))) (first | exact ⟨y1, y2⟩ | exact ⟨(mcells hcl).2.1, (mcells hcl).2.2.1⟩) (first | (go_at_call 42; refine hfd.mono ?_; rintro e w7 ⟨rfl, hcl, hn⟩))
      have HF : Hid (PCalm5 w t p d (C + 4) L false w7) := hn
      clear hn hfd
      go_wp2_with fail
      go_ret
      exact ⟨rfl, false, fun _ => rfl, HF.out⟩)
  · unfold ptr at hsv2
    subst hsv2
    have hk0 : (k0 == 6) = false := by
      cases hk : (k0 == 6) with
      | false => rfl
      | true =>
        obtain rfl : k0 = 6 := by simpa using hk
        exact absurd (syncs_dead HSY.out) (by rw [c1]; decide)
    rw [hk0]
    clear hk0 c1
    have hfd := HP1.out.found hG h8 ht hL hl2 k2 hA2 (fun e => hlf2 (HP1.out.lft e)) c2 c3 c4 c5 c6 c7 c8
    have hc5 := k2.heap HP1.out.cell HP1.out.pA
    obtain ⟨q0, q1, q2, q3, qf0, qf1, qf2, qf3⟩ := mcells hc5
    have hc6 := heap_setCell_at hc5 1 (.pointer (some ⟨s', 0, none⟩))
    obtain ⟨_, y1, y2, _, _⟩ := mcells hc6
    unfold ptr at q0 q1 q2 hfd y2
    clear c2 c3 c4 c5 c6 c7 c8 hl2 hA2 k2 hlf2 hc5 hc6 HX1 hx1A
    have h06 : ((0 : Int) == 6) = false := rfl
    go_wp2_with (go_at_call 19; refine (num5 _ _).mono ?_; rintro e w' ⟨rfl, hw'⟩; have hw' := hw'.symm; subst hw')
    generalize w2.setCell ⟨p, 1, none⟩ (.pointer (some ⟨s', 0, none⟩)) = w6 at *
    go_region_held3 (fun W1 => W1.cell? ⟨p, 1, none⟩ = some (.pointer (some ⟨s', 0, none⟩)) ∧ W1.cell? ⟨p, 2, none⟩ = some (.pointer (some ⟨r, 0, none⟩))) (first | exact ⟨y1, y2⟩ | exact ⟨(mcells hcl).2.1, (mcells hcl).2.2.1⟩) (first | (go_at_call 42; refine hfd.mono ?_; rintro e w7 ⟨rfl, hcl, hn⟩))
    have HF : Hid (PCalm5 w t p d (C + 4) L stop w7) := hn.mono (by omega) (by omega)
    clear hn hfd
    go_wp2_with fail
    go_ret
    exact ⟨rfl, stop, fun e => e, HF.out⟩

theorem openP (h : OS w t p d C L A σ stop s r ρ lv may we) (hG : Gl w) (h8 : 8 ≤ w.heap.size) (ht : t ≤ 1000000) (hC : C ≤ 900000000) (hL : L ≤ 500000000) (kind : Int) (fa fb dd : ByteArray) (tv : Value) (nn mm : Int) (sv : Value) (ts : List Int) (hints : ∀ A : Nat → Prop, (∀ i, A i → w.heap.size ≤ i) → Ints w A sv ts) :
    Calls Tryz.prog 11 #[ptr p, opV5 kind fa fb tv dd nn mm sv] we fun e w' => e = .returned (.bool true) ∧ ∃ stop', PNext5 w t p d (C + 4) L stop' w' :=
  (openC h hG h8 ht hC hL kind fa fb dd tv nn mm sv ts hints).mono (fun _ _ ⟨h1, stop', _, h2⟩ => ⟨h1, stop', h2.any⟩)

end

end Go.Proofs.YtegbkpjcjlihmabGreatDoor

namespace Go.Proofs.YtegbkpjcjlihmabGreatDoor
open Go.RowKit Go.Maps Go.Sort Go.Lib

section
variable {w we wr w' : World} {t p d C L : Nat} {A T : Nat → Prop} {σ σ' : Dk} {stop : Bool} {s mw N : Nat} {W : Waits} {lv lv' : Int} {b : Bool} {r : Nat} {ρ : Rs} {l l' : List Wg} {may : May} {k : Int} {K : List Text}

theorem PS.more (h : PS w t p d C L A σ stop s mw N W lv b r ρ wr) : PS w (t + 1) p d C L A σ stop s mw N W lv b r ρ wr := by
  have h1 := h.num
  have h2 := h.lvt
  exact ⟨h.live.more (fun s hs => K5_sub hs) (by rw [K5_len, K5_len]; omega), h.cell, h.pA, h.pw, h.sp, h.pS, h.ref, h.lft, h.top, by omega, by omega, h.sz, h.st⟩

theorem PS.shows (h : PS w t p d C L A σ stop s mw N W lv b r ρ wr) (hG : Gl w) (h8 : 8 ≤ w.heap.size) (ht : t ≤ 1000000) (hL : L ≤ 500000000) (hd : ρ.dead = false) :
    Calls Tryz.prog 20 #[ptr s, ptr r] wr fun e w' => e = .returned (.bool true) ∧ PS w t p d C L A σ stop s mw N W lv b r ρ w' ∧ Keeps A wr w' := by
  have hn := h.num
  rcases h.st with c | c
  · have hT : Tells w A d (K5 t) C L σ s mw N W lv b ρ.l lv wr := ⟨h.live, h.sp, c.dom, c.al, h.sz, by omega, by omega, by omega⟩
    refine (hT.shows hG h8 h.ref rfl).mono ?_
    rintro e w' ⟨rfl, h1, h2, k⟩
    exact ⟨rfl, ⟨h1.live, k.heap h.cell h.pA, h.pA, h.pw, h1.sp, h.pS, h2, h.lft, h.top, h.lvt, h.num, h.sz, h.st⟩, k⟩
  · rw [c.dead] at hd
    cases hd

theorem SpAt.next {P : Int → Lefts → Prop} {A' : Nat → Prop} (h : SpAt w A d L s mw N P lv b W wr) (k : Keeps A wr w') (hA : ∀ i, A' i → A i ∨ wr.heap.size ≤ i) : SpAt w A' d L s mw N P lv b W w' := by
  have hs := h.lt
  have hm := h.wt.lt
  have h1 := h.keep k (fun _ e => e)
  refine ⟨h1.sp, h1.wt, h1.inj, fun n i hi => ?_, fun e => (hA s e).elim h.nS (fun e => by omega), fun e => (hA mw e).elim h.nM (fun e => by omega), h1.wS, h1.wM, h1.ne, h1.ok, h1.nW⟩
  obtain ⟨p1, p0, rest⟩ := h1.lft n i hi
  obtain ⟨_, _, _, _, _, _, q3, _⟩ := h.lft n i hi
  have := q3.lt
  exact ⟨p1, fun e => (hA i e).elim p0 (fun e => by omega), rest⟩

/-- a call of the disk lies behind it -/
theorem PS.next {A' : Nat → Prop} {C' L' : Nat} {w1 : World} (h : PS w t p d C L A σ stop s mw N W lv b r ρ wr) (hl : Live w w1 A' d (K5 t) C' L' σ') (k : Keeps A wr w1) (hA : ∀ i, A' i → A i ∨ wr.heap.size ≤ i) (hL : L ≤ L') (hlf : stop = false → σ'.left = none)
    (hal : Alive σ ρ.l lv → Alive σ' ρ.l lv) (hin : ∀ may, Inv σ ρ.l lv may → Inv σ' ρ.l lv may) : PS w t p d C' L' A' σ' stop s mw N W lv b r ρ w1 := by
  have hpl := h.lt
  refine ⟨hl, k.heap h.cell h.pA, fun e => (hA p e).elim h.pA (fun e => by omega), h.pw, (h.sp.next k hA).monoL hL, h.pS, h.ref.keep k (fun i _ hn e => hn (.inl e)) (fun i hi e => ?_), hlf, h.top, h.lvt, h.num, h.sz, ?_⟩
  · rcases e with e | e
    · exact (hA i e).elim .inl (fun e => by omega)
    · exact .inr e
  · rcases h.st with c | c
    · exact .inl ⟨c.dead, c.b, c.hp, c.hd, c.dom, hal c.al⟩
    · exact .inr ⟨c.dead, c.b, c.may.elim (fun m => .inl ⟨m.1, m.2.1, m.2.2.1, hin _ m.2.2.2⟩) (fun m => .inr ⟨m.1, m.2.1, hin _ m.2.2⟩)⟩

theorem PS.off {A' : Nat → Prop} {C' L' : Nat} {w1 : World} {x : Wr} (h : PS w t p d C L A σ stop s mw N W lv b r ρ wr) (ho : Offm (K5 t) x) (hm : ¬ x.makes newT) (hta : ¬ x.takes newT) (hr : x.rel σ k σ') (hl : Live w w1 A' d (K5 t) C' L' σ') (kk : Keeps A wr w1) (hA : ∀ i, A' i → A i ∨ wr.heap.size ≤ i) (hL : L ≤ L') : PS w t p d C' L' A' σ' stop s mw N W lv b r ρ w1 :=
  h.next hl kk hA hL (fun e => Wr.leftN x (h.lft e) hr) (fun e => e.offm h.live.2.2.1 ho hm hta hr) (fun _ e => e.offm h.live.2.2.1 ho hr)

/-- Stop is stored -/
theorem PS.setStop (h : PS w t p d C L A σ stop s mw N W lv b r ρ wr) : PS w t p d C L A σ true s mw N W lv b r ρ (wr.setCell ⟨p, 3, none⟩ (.bool true)) := by
  have k : Keeps (fun i => i = p) wr (wr.setCell ⟨p, 3, none⟩ (.bool true)) := (Keeps.refl (fun i => i = p) wr).setCell (p := ⟨p, 3, none⟩) (fun _ => rfl) _
  exact ⟨h.live.side k (fun i hi e => h.pA (e ▸ hi)) (fun i e => by have := h.pw; omega), heap_setCell_at h.cell 3 _, h.pA, h.pw, h.sp.side k (fun i e => ⟨fun e2 => h.pS.1 (by omega), fun e2 => h.pS.2.1 (by omega), fun n e2 => h.pS.2.2 n (e ▸ e2)⟩), h.pS, h.ref.keep k (fun i _ hn e => hn (.inr (.inr (.inr (.inr e))))) (fun _ _ e => e), (fun e => by cases e), h.top, h.lvt, h.num, h.sz, h.st⟩

theorem PS.stop1 {A' : Nat → Prop} {w1 : World} {n : Nat} (h : PS w t p d C L A σ stop s mw N W lv b r ρ wr) (hl : Live w w1 A' d (K5 t) C L { σ with left := some n }) (kk : Keeps A wr w1) (hA : ∀ i, A' i → A i ∨ wr.heap.size ≤ i) : PS w t p d C L A' { σ with left := some n } true s mw N W lv b r ρ (w1.setCell ⟨p, 3, none⟩ (.bool true)) := by
  have hpl := h.lt
  have hcl := kk.heap h.cell h.pA
  have hpA' : ¬ A' p := fun e => (hA p e).elim h.pA (fun e => by omega)
  have k : Keeps (fun i => i = p) w1 (w1.setCell ⟨p, 3, none⟩ (.bool true)) := (Keeps.refl (fun i => i = p) w1).setCell (p := ⟨p, 3, none⟩) (fun _ => rfl) _
  have R1 : RefAt (SS A' s mw W p) r w.heap.size ρ w1 := h.ref.keep kk (fun i _ hn e => hn (.inl e)) (fun i hi e => by
    rcases e with e | e
    · exact (hA i e).elim .inl (fun e => by omega)
    · exact .inr e)
  refine ⟨hl.side k (fun i hi e => hpA' (e ▸ hi)) (fun i e => by have := h.pw; omega), heap_setCell_at hcl 3 _, hpA', h.pw, (h.sp.next kk hA).side k (fun i e => ⟨fun e2 => h.pS.1 (by omega), fun e2 => h.pS.2.1 (by omega), fun n e2 => h.pS.2.2 n (e ▸ e2)⟩), h.pS, R1.keep k (fun i _ hn e => hn (.inr (.inr (.inr (.inr e))))) (fun _ _ e => e), (fun e => by cases e), h.top, h.lvt, h.num, h.sz, ?_⟩
  rcases h.st with c | c
  · exact .inl ⟨c.dead, c.b, c.hp, c.hd, c.dom, c.al.left _⟩
  · exact .inr ⟨c.dead, c.b, c.may.elim (fun m => .inl ⟨m.1, m.2.1, m.2.2.1, m.2.2.2.left _⟩) (fun m => .inr ⟨m.1, m.2.1, m.2.2.left _⟩)⟩

/-- a step of a script as it came in -/
structure Op5 (w : World) (kind : Int) (fa fb : ByteArray) (tv : Value) (dd : ByteArray) (nn mm : Int) (sv : Value) (tl : List Ltr) (ts : List Int) : Prop where
  wt : mlW (fa.data.toList, fb.data.toList, tl, dd.data.toList) ≤ 1048576
  to_ : AdAt w (fun q => w.heap.size ≤ q) tv tl
  nn_ : okI nn
  mm_ : okI mm
  ints : ∀ A : Nat → Prop, (∀ i, A i → w.heap.size ≤ i) → Ints w A sv ts

end

end Go.Proofs.YtegbkpjcjlihmabGreatDoor
