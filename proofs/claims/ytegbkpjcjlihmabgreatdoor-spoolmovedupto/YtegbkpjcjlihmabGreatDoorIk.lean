/-
  The player of mails: step (Done).
-/
import Derived.Test.YtegbkpjcjlihmabGreatDoorIj
namespace Go.Proofs.YtegbkpjcjlihmabGreatDoor
open Go.RowKit Go.Maps Go.Sort Go.Lib

section
variable {w we wr w' : World} {t p d C L : Nat} {A T : Nat → Prop} {σ σ' : Dk} {stop : Bool} {s mw N : Nat} {W : Waits} {lv lv' : Int} {b : Bool} {r : Nat} {ρ : Rs} {l l' : List Wg} {may : May} {k : Int} {K : List Text}

set_option maxHeartbeats 16000000 in
set_option maxRecDepth 100000 in
theorem step5_1 (h0 : PS w t p d C L A σ stop s mw N W lv b r ρ we) (hG : Gl w) (h8 : 8 ≤ w.heap.size) (ht : t < 1000000) (_hC : C ≤ 800000000) (hL : L ≤ 400000000) (fa fb : ByteArray) (tv : Value) (dd : ByteArray) (nn mm : Int) (sv : Value) (tl : List Ltr) (ts : List Int) (o : Op5 w 1 fa fb tv dd nn mm sv tl ts) :
    Calls Tryz.prog 9 #[ptr p, opV5 1 fa fb tv dd nn mm sv] we (Step5 w (t + 1) p d (C + 10) (L + (44 * mlW (fa.data.toList, fb.data.toList, tl, dd.data.toList) + 100))) := by
  have h := h0.more
  have hlt : lv + 1 ≤ ((t + 1 : Nat) : Int) := by have := h0.lvt; omega
  have hln : ρ.l.length + 1 ≤ t + 1 := by have := h0.num; omega
  have hN1 : N + 1 ≤ 2 * (t + 1) + 5 := by have := h0.num; omega
  have f0 : Fresh we (we.alloc (opC5 1 fa fb tv dd nn mm sv)) := (Keeps.refl _ _).alloc _
  have hx0 := heap_new we (opC5 1 fa fb tv dd nn mm sv)
  have HP0 : Hid (PS w (t + 1) p d C L A σ stop s mw N W lv b r ρ (we.alloc (opC5 1 fa fb tv dd nn mm sv))) := h.fresh f0
  have hpl := h.lt
  have hA : ∀ i, A i → i < we.heap.size := fun i hi => (h.live.1 i hi).2
  have hwz := h.live.2.2.2.size
  have hSl0 : s < we.heap.size ∧ mw < we.heap.size ∧ (∀ n k, W n = some k → k < we.heap.size) ∧ r < we.heap.size ∧ ∀ k, ρ.av.ownBlock = some k → k < we.heap.size := ⟨h.sp.lt, h.sp.wt.lt, fun n k hk => by
      obtain ⟨_, _, _, _, _, _, h3, _⟩ := h.sp.lft n k hk
      exact h3.lt, h.ref.lt, fun k hk => (h.ref.row.lt k hk).2⟩
  have hwt := o.wt
  have HO : Hid (Op5 w 1 fa fb tv dd nn mm sv tl ts) := o
  have hK5 := K5_len (t + 1)
  obtain ⟨ao, cap, htv, _, _⟩ := o.to_
  obtain ⟨tao, tcap, hsv, _, _, _⟩ := o.ints (fun _ => False) (fun _ e => e.elim)
  subst htv hsv
  clear h0 h o
  unfold opC5 opV5 ptr at *
  go_enter Tryz.func9, Tryz.ntmps9
  go_upto_region 2 with fail
  generalize we.alloc (.cells #[.int .i64 1, .string fa, .string fb, .slice ao tl.length cap, .string dd, .int .i64 nn, .int .i64 mm, .slice tao ts.length tcap] 33) = w0 at *
  have hw0 := f0.size
  have hlt0 := heap_lt hx0
  have HX0 : Hid (w0.heap[we.heap.size]? = some (.cells #[.int .i64 1, .string fa, .string fb, .slice ao tl.length cap, .string dd, .int .i64 nn, .int .i64 mm, .slice tao ts.length tcap] 33)) := hx0
  have x0 : w0.cell? ⟨we.heap.size, 0, none⟩ = some (.int .i64 1) := by rw [Lib.cell_of_heap hx0]; rfl
  clear f0 hx0
  have x5 : w0.cell? ⟨we.heap.size, 5, none⟩ = some (.int .i64 nn) := by rw [Lib.cell_of_heap HX0.out]; rfl
  have x6 : w0.cell? ⟨we.heap.size, 6, none⟩ = some (.int .i64 mm) := by rw [Lib.cell_of_heap HX0.out]; rfl
  obtain ⟨p0, p1, p2, p3, pf0, pf1, pf2, pf3⟩ := mcells HP0.out.cell
  unfold ptr at p0 p1 p2
  obtain ⟨rao, rcap, hav⟩ := HP0.out.ref.form
  have r0 : w0.cell? ⟨r, 0, none⟩ = some ρ.av := HP0.out.ref.at 0 _ rfl
  rw [hav] at r0
  have HAV : Hid (ρ.av = .slice rao ρ.l.length rcap) := hav
  clear p0 p1 p3 pf0 pf1 pf2 pf3 hav
  by_cases h1 : (0 : Int) < (ρ.l.length : Int)
  by_cases h2 : (0 : Int) ≤ nn
  by_cases h3 : (0 : Int) ≤ mm
  · have hlc : (ρ.l.length : Int) ≤ 1000001 := by omega
    obtain ⟨i, hi⟩ : ∃ i : Nat, (i : Int) = Int.tmod nn (ρ.l.length : Int) := ⟨(Int.tmod nn (ρ.l.length : Int)).toNat, Int.toNat_of_nonneg (Int.tmod_nonneg _ h2)⟩
    have hi2 : (i : Int) < (ρ.l.length : Int) := by rw [hi]; exact Int.tmod_lt_of_pos _ h1
    obtain ⟨g, hg⟩ : ∃ g, ρ.l[i]? = some g := ⟨ρ.l[i]'(by omega), List.getElem?_eq_getElem (by omega)⟩
    obtain ⟨gm, x, rfl, hx, hok, hc⟩ := HP0.out.ref.rd HAV.out hg
    obtain ⟨tao', tcap', ht3, _, _⟩ := hok.tt
    obtain ⟨lao, lcap, ht5, _, _⟩ := hok.lf
    have q0 : w0.cell? ⟨gm, i * 6, none⟩ = some (.int .i64 g.1) := by rw [← hok.id]; exact hc 0 _ rfl
    have q1 : w0.cell? ⟨gm, i * 6 + 1, none⟩ = some (.string x.2.1) := hc 1 _ rfl
    have q2 : w0.cell? ⟨gm, i * 6 + 2, none⟩ = some (.string x.2.2.1) := hc 2 _ rfl
    have q3 : w0.cell? ⟨gm, i * 6 + 3, none⟩ = some (.slice tao' (mlTo g.2.1).length tcap') := by rw [← ht3]; exact hc 3 _ rfl
    have q4 : w0.cell? ⟨gm, i * 6 + 4, none⟩ = some (.string x.2.2.2.2.1) := hc 4 _ rfl
    have q5 : w0.cell? ⟨gm, i * 6 + 5, none⟩ = some (.slice lao g.2.2.length lcap) := by rw [← ht5]; exact hc 5 _ rfl
    have HG : Hid (ρ.l[i]? = some g) := hg
    have HOK : Hid (RawOk w0 (fun b => SS A s mw W p b ∨ b = r ∨ ρ.av.ownBlock = some b) x g) := hok
    have HL5 : Hid (x.2.2.2.2.2 = .slice lao g.2.2.length lcap) := ht5
    obtain ⟨ln, hln'⟩ : ∃ n, n = ρ.l.length := ⟨_, rfl⟩
    rw [← hln'] at r0 hi hi2 h1
    have z0 : (0 : Int) ≤ (i : Int) := by omega
    have hneb : ((ln : Int) == 0) = false := beq_eq_false_iff_ne.2 (by omega)
    have hne : ¬ (ln : Int) = 0 := by omega
    have hne2 : ¬ ln = 0 := by omega
    have hi' : Int.tmod nn (ln : Int) = (i : Int) := hi.symm
    have hgl := cell_lt q0
    have hrl := cell_lt r0
    have HQ : Hid (∀ W1, Keeps (fun j => w0.heap.size ≤ j) w0 W1 → W1.cell? ⟨p, 2, none⟩ = some (.pointer (some ⟨r, 0, none⟩)) ∧ W1.cell? ⟨r, 0, none⟩ = some (.slice (some ⟨gm, 0, none⟩) ln rcap) ∧ W1.cell? ⟨we.heap.size, 5, none⟩ = some (.int .i64 nn) ∧ W1.cell? ⟨gm, i * 6, none⟩ = some (.int .i64 g.1) ∧ W1.cell? ⟨gm, i * 6 + 1, none⟩ = some (.string x.2.1) ∧ W1.cell? ⟨gm, i * 6 + 2, none⟩ = some (.string x.2.2.1) ∧ W1.cell? ⟨gm, i * 6 + 3, none⟩ = some (.slice tao' (mlTo g.2.1).length tcap') ∧ W1.cell? ⟨gm, i * 6 + 4, none⟩ = some (.string x.2.2.2.2.1) ∧ W1.cell? ⟨gm, i * 6 + 5, none⟩ = some (.slice lao g.2.2.length lcap)) := fun W1 k => ⟨cell_keeps k p2 (by omega), cell_keeps k r0 (by omega), cell_keeps k x5 (by omega), cell_keeps k q0 (by omega), cell_keeps k q1 (by omega), cell_keeps k q2 (by omega), cell_keeps k q3 (by omega), cell_keeps k q4 (by omega), cell_keeps k q5 (by omega)⟩
    clear hi hc hg hok ht3 ht5 hx hln' HAV
    go_wp2_with fail
    go_region_held3 (fun W1 => W1.cell? ⟨p, 2, none⟩ = some (.pointer (some ⟨r, 0, none⟩)) ∧ W1.cell? ⟨r, 0, none⟩ = some (.slice (some ⟨gm, 0, none⟩) ln rcap) ∧ W1.cell? ⟨we.heap.size, 5, none⟩ = some (.int .i64 nn) ∧ W1.cell? ⟨gm, i * 6, none⟩ = some (.int .i64 g.1) ∧ W1.cell? ⟨gm, i * 6 + 1, none⟩ = some (.string x.2.1) ∧ W1.cell? ⟨gm, i * 6 + 2, none⟩ = some (.string x.2.2.1) ∧ W1.cell? ⟨gm, i * 6 + 3, none⟩ = some (.slice tao' (mlTo g.2.1).length tcap') ∧ W1.cell? ⟨gm, i * 6 + 4, none⟩ = some (.string x.2.2.2.2.1) ∧ W1.cell? ⟨gm, i * 6 + 5, none⟩ = some (.slice lao g.2.2.length lcap)) (first | exact HQ.out _ ((Keeps.refl _ w0).drew) | exact HQ.out _ (((Keeps.refl _ w0).alloc _).drew) | exact HQ.out _ (((Keeps.refl _ w0).drew).alloc _)) (fail)
    have f1 : Fresh w0 ((w0.alloc (.cells #[.int .i64 g.1, .string x.2.1, .string x.2.2.1, .slice tao' (mlTo g.2.1).length tcap', .string x.2.2.2.2.1, .slice lao g.2.2.length lcap] 90)).drew) := ((Keeps.refl _ _).alloc _).drew
    have hz0 : ((w0.alloc (.cells #[.int .i64 g.1, .string x.2.1, .string x.2.2.1, .slice tao' (mlTo g.2.1).length tcap', .string x.2.2.2.2.1, .slice lao g.2.2.length lcap] 90)).drew).heap[w0.heap.size]? = some (.cells #[.int .i64 g.1, .string x.2.1, .string x.2.2.1, .slice tao' (mlTo g.2.1).length tcap', .string x.2.2.2.2.1, .slice lao g.2.2.length lcap] 90) := heap_new w0 (.cells #[.int .i64 g.1, .string x.2.1, .string x.2.2.1, .slice tao' (mlTo g.2.1).length tcap', .string x.2.2.2.2.1, .slice lao g.2.2.length lcap] 90)
    have HF1 : Hid (Fresh w0 ((w0.alloc (.cells #[.int .i64 g.1, .string x.2.1, .string x.2.2.1, .slice tao' (mlTo g.2.1).length tcap', .string x.2.2.2.2.1, .slice lao g.2.2.length lcap] 90)).drew)) := f1
    clear f1 x0 x5 q0 q1 q2 q3 q4 q5 r0 HQ hne hneb hne2 hi'
    generalize (w0.alloc (.cells #[.int .i64 g.1, .string x.2.1, .string x.2.2.1, .slice tao' (mlTo g.2.1).length tcap', .string x.2.2.2.2.1, .slice lao g.2.2.length lcap] 90)).drew = w1 at *
    have HP1 : Hid (PS w (t + 1) p d C L A σ stop s mw N W lv b r ρ w1) := HP0.out.fresh HF1.out
    have hgm := List.mem_of_getElem? HG.out
    obtain ⟨_, _, _, g4, g5⟩ := HP0.out.wgs.mem g hgm
    have hid : okI g.1 := by
      have h5 := HP0.out.wgs.mem g hgm
      have h6 := HP0.out.wgs.hi
      unfold okI
      omega
    have hlens := HP0.out.lens g hgm
    have hlpos : (0 : Int) < (g.2.2.length : Int) := by
      have := List.length_pos_iff.2 g4
      omega
    obtain ⟨j, hj⟩ : ∃ j : Nat, (j : Int) = Int.tmod mm (g.2.2.length : Int) := ⟨(Int.tmod mm (g.2.2.length : Int)).toNat, Int.toNat_of_nonneg (Int.tmod_nonneg _ h3)⟩
    have hj2 : (j : Int) < (g.2.2.length : Int) := by rw [hj]; exact Int.tmod_lt_of_pos _ hlpos
    obtain ⟨a, ha⟩ : ∃ a, g.2.2[j]? = some a := ⟨g.2.2[j]'(by omega), List.getElem?_eq_getElem (by omega)⟩
    obtain ⟨lao', lcap', hl5, hrd, hsep⟩ := HOK.out.lf
    rw [HL5.out] at hl5
    injection hl5 with e1 _ e2
    subst e1 e2
    obtain ⟨bb, off, rfl, hrd2⟩ := hrd (by omega)
    obtain ⟨a0, a1⟩ := hrd2 j a ha
    have aok : okA a := by
      have h5 := toW_mem (l := g.2.1.2.2.1) (once_in (g5.subset (List.mem_of_getElem? ha)))
      have h6 := HP0.out.sz g hgm
      unfold mlW at h6
      unfold okA maxLen
      omega
    have a0' := cell_keeps HF1.out a0 (fun e => e)
    have a1' := cell_keeps HF1.out a1 (fun e => e)
    have x6' := cell_keeps HF1.out x6 (fun e => e)
    have y0 : w1.cell? ⟨w0.heap.size, 0, none⟩ = some (.int .i64 g.1) := by rw [Lib.cell_of_heap hz0]; rfl
    have y5 : w1.cell? ⟨w0.heap.size, 5, none⟩ = some (.slice (some ⟨bb, off, none⟩) g.2.2.length lcap) := by rw [Lib.cell_of_heap hz0]; rfl
    have hdone := doneP (HP1.out.fresh ((Keeps.refl (fun _ => False) w1).drew)) hG (by omega) (by omega) (by omega) g.1 hid ⟨a.1.toArray⟩ ⟨a.2.toArray⟩ aok
    unfold ptr at hdone
    have hbb := (hsep bb off rfl (by omega)).1
    clear a0 a1 x6 hrd hrd2 hz0 hsep hgm g4 g5
    obtain ⟨lm, hlm⟩ : ∃ n, n = g.2.2.length := ⟨_, rfl⟩
    rw [← hlm] at y5 hj hj2 hlpos
    have zj : (0 : Int) ≤ (j : Int) := by omega
    have hneb : ((lm : Int) == 0) = false := beq_eq_false_iff_ne.2 (by omega)
    have hne : ¬ (lm : Int) = 0 := by omega
    have hne2 : ¬ lm = 0 := by omega
    have hj' : Int.tmod mm (lm : Int) = (j : Int) := hj.symm
    have HQ : Hid (∀ W1, Keeps (fun i => (A i ∨ i = s ∨ i = mw ∨ ∃ n, W n = some i) ∨ i = r ∨ ρ.av.ownBlock = some i) w1 W1 → W1.cell? ⟨w0.heap.size, 0, none⟩ = some (.int .i64 g.1) ∧ W1.cell? ⟨w0.heap.size, 5, none⟩ = some (.slice (some ⟨bb, off, none⟩) lm lcap) ∧ W1.cell? ⟨we.heap.size, 6, none⟩ = some (.int .i64 mm) ∧ W1.cell? ⟨bb, off + j * 2, none⟩ = some (.string ⟨a.1.toArray⟩) ∧ W1.cell? ⟨bb, off + j * 2 + 1, none⟩ = some (.string ⟨a.2.toArray⟩)) := fun W1 k => by
      have hbelow : ∀ i, (A i ∨ i = s ∨ i = mw ∨ ∃ n, W n = some i) ∨ i = r ∨ ρ.av.ownBlock = some i → i < we.heap.size := fun i e => by
        rcases e with (e | e | e | ⟨n, e⟩) | e | e
        · exact hA i e
        · have := hSl0.1; omega
        · have := hSl0.2.1; omega
        · exact hSl0.2.2.1 n i e
        · have := hSl0.2.2.2.1; omega
        · exact hSl0.2.2.2.2 i e
      have n0 : ¬ ((A w0.heap.size ∨ w0.heap.size = s ∨ w0.heap.size = mw ∨ ∃ n, W n = some w0.heap.size) ∨ w0.heap.size = r ∨ ρ.av.ownBlock = some w0.heap.size) := fun e => by have := hbelow _ e; omega
      have n1 : ¬ ((A we.heap.size ∨ we.heap.size = s ∨ we.heap.size = mw ∨ ∃ n, W n = some we.heap.size) ∨ we.heap.size = r ∨ ρ.av.ownBlock = some we.heap.size) := fun e => by have := hbelow _ e; omega
      have n2 : ¬ ((A bb ∨ bb = s ∨ bb = mw ∨ ∃ n, W n = some bb) ∨ bb = r ∨ ρ.av.ownBlock = some bb) := fun e => hbb (by
        rcases e with (e | e | e | e) | e
        · exact .inl (.inl e)
        · exact .inl (.inr (.inl e))
        · exact .inl (.inr (.inr (.inl e)))
        · exact .inl (.inr (.inr (.inr (.inl e))))
        · exact .inr e)
      exact ⟨cell_keeps k y0 n0, cell_keeps k y5 n0, cell_keeps k x6' n1, cell_keeps k a0' n2, cell_keeps k a1' n2⟩
    clear hlm hj
    go_wp2_with fail
    go_region_held3 (fun W1 => W1.cell? ⟨w0.heap.size, 0, none⟩ = some (.int .i64 g.1) ∧ W1.cell? ⟨w0.heap.size, 5, none⟩ = some (.slice (some ⟨bb, off, none⟩) lm lcap) ∧ W1.cell? ⟨we.heap.size, 6, none⟩ = some (.int .i64 mm) ∧ W1.cell? ⟨bb, off + j * 2, none⟩ = some (.string ⟨a.1.toArray⟩) ∧ W1.cell? ⟨bb, off + j * 2 + 1, none⟩ = some (.string ⟨a.2.toArray⟩)) (first | exact HQ.out _ ((Keeps.refl _ w1).drew) | exact HQ.out _ (((Keeps.refl _ w1).drew).trans kk)) (first | (go_at_call 35; refine hdone.mono ?_; rintro e w2 ⟨rfl, ⟨B1, σ1, s1, mw1, N1, W1, lv1, b1, r1, ρ1, hn⟩, kk⟩))
    have HN : Hid (∃ stop', PNext5 w (t + 1) p d (C + 10) (L + (44 * mlW (fa.data.toList, fb.data.toList, tl, dd.data.toList) + 100)) stop' w2) := ⟨stop, B1, σ1, s1, mw1, N1, W1, lv1, b1, r1, ρ1, hn.mono (by omega) (by omega)⟩
    clear hdone hn kk x6' a0' a1' y0 y5 p2 HQ hneb hne hne2 hj'
    obtain ⟨st7, A7, σ7, s7, mw7, N7, W7, lv7, b7, r7, ρ7, hps7⟩ := HN.out
    obtain ⟨L7, hL7⟩ : ∃ x, x = L + (44 * mlW (fa.data.toList, fb.data.toList, tl, dd.data.toList) + 100) := ⟨_, rfl⟩
    rw [← hL7] at hps7
    have HL7 : Hid (L7 = L + (44 * mlW (fa.data.toList, fb.data.toList, tl, dd.data.toList) + 100)) := hL7
    have HP7 : Hid (PS w (t + 1) p d (C + 10) L7 A7 σ7 st7 s7 mw7 N7 W7 lv7 b7 r7 ρ7 w2) := hps7
    obtain ⟨z0, z1, z2, z3, _⟩ := mcells hps7.cell
    unfold ptr at z0 z1 z2
    have zr : w2.cell? ⟨r7, 2, none⟩ = some (.bool ρ7.dead) := hps7.ref.at 2 _ rfl
    have hL7' : L7 ≤ 500000000 := by omega
    clear hps7 HN hL7
    cases hdd : ρ7.dead with
    | false =>
      rw [hdd] at zr
      have hsh := (HP7.out.fresh ((Keeps.refl (fun _ => False) w2).drew)).shows hG h8 (by omega) hL7' hdd
      unfold ptr at hsh
      have HZ : Hid (∀ W1, Keeps A7 w2 W1 → W1.cell? ⟨p, 1, none⟩ = some (.pointer (some ⟨s7, 0, none⟩)) ∧ W1.cell? ⟨p, 2, none⟩ = some (.pointer (some ⟨r7, 0, none⟩))) := fun W1 k => ⟨cell_keeps k z1 HP7.out.pA, cell_keeps k z2 HP7.out.pA⟩
      clear hdd z0 z3
      go_wp2_with fail
      go_region_held3 (fun W1 => W1.cell? ⟨p, 1, none⟩ = some (.pointer (some ⟨s7, 0, none⟩)) ∧ W1.cell? ⟨p, 2, none⟩ = some (.pointer (some ⟨r7, 0, none⟩))) (first | exact HZ.out _ ((Keeps.refl _ w2).drew) | exact HZ.out _ k8) (first | (go_at_call 20; refine hsh.mono ?_; rintro e w8 ⟨rfl, hp8, k8'⟩; have k8 : Keeps A7 w2 w8 := ((Keeps.refl _ w2).drew).trans k8'))
      have HF : Hid (∃ stop', PNext5 w (t + 1) p d (C + 10) L7 stop' w8) := ⟨st7, A7, σ7, s7, mw7, N7, W7, lv7, b7, r7, ρ7, hp8⟩
      clear hsh hp8 k8 k8' z1 z2
      go_wp2_with fail
      go_ret
      exact ⟨rfl, by rw [← HL7.out]; exact HF.out⟩
    | true =>
      rw [hdd] at zr
      have HF : Hid (∃ stop', PNext5 w (t + 1) p d (C + 10) L7 stop' w2) := ⟨st7, A7, σ7, s7, mw7, N7, W7, lv7, b7, r7, ρ7, HP7.out⟩
      clear hdd z0 z3
      go_wp2_with fail
      go_ret
      exact ⟨rfl, by rw [← HL7.out]; exact HF.out⟩
  · skip
    go_upto_region 25 with fail
    have HN : Hid (∃ stop', PNext5 w (t + 1) p d (C + 10) (L + (44 * mlW (fa.data.toList, fb.data.toList, tl, dd.data.toList) + 100)) stop' w0) := ⟨stop, A, σ, s, mw, N, W, lv, b, r, ρ, HP0.out.mono (by omega) (by omega)⟩
    clear x0 x5 x6 p2 r0
    obtain ⟨st7, A7, σ7, s7, mw7, N7, W7, lv7, b7, r7, ρ7, hps7⟩ := HN.out
    obtain ⟨L7, hL7⟩ : ∃ x, x = L + (44 * mlW (fa.data.toList, fb.data.toList, tl, dd.data.toList) + 100) := ⟨_, rfl⟩
    rw [← hL7] at hps7
    have HL7 : Hid (L7 = L + (44 * mlW (fa.data.toList, fb.data.toList, tl, dd.data.toList) + 100)) := hL7
    have HP7 : Hid (PS w (t + 1) p d (C + 10) L7 A7 σ7 st7 s7 mw7 N7 W7 lv7 b7 r7 ρ7 w0) := hps7
    obtain ⟨z0, z1, z2, z3, _⟩ := mcells hps7.cell
    unfold ptr at z0 z1 z2
    have zr : w0.cell? ⟨r7, 2, none⟩ = some (.bool ρ7.dead) := hps7.ref.at 2 _ rfl
    have hL7' : L7 ≤ 500000000 := by omega
    clear hps7 HN hL7
    cases hdd : ρ7.dead with
    | false =>
      rw [hdd] at zr
      have hsh := (HP7.out.fresh ((Keeps.refl (fun _ => False) w0).drew)).shows hG h8 (by omega) hL7' hdd
      unfold ptr at hsh
      have HZ : Hid (∀ W1, Keeps A7 w0 W1 → W1.cell? ⟨p, 1, none⟩ = some (.pointer (some ⟨s7, 0, none⟩)) ∧ W1.cell? ⟨p, 2, none⟩ = some (.pointer (some ⟨r7, 0, none⟩))) := fun W1 k => ⟨cell_keeps k z1 HP7.out.pA, cell_keeps k z2 HP7.out.pA⟩
      clear hdd z0 z3
      go_wp2_with fail
      go_region_held3 (fun W1 => W1.cell? ⟨p, 1, none⟩ = some (.pointer (some ⟨s7, 0, none⟩)) ∧ W1.cell? ⟨p, 2, none⟩ = some (.pointer (some ⟨r7, 0, none⟩))) (first | exact HZ.out _ ((Keeps.refl _ w0).drew) | exact HZ.out _ k8) (first | (go_at_call 20; refine hsh.mono ?_; rintro e w8 ⟨rfl, hp8, k8'⟩; have k8 : Keeps A7 w0 w8 := ((Keeps.refl _ w0).drew).trans k8'))
      have HF : Hid (∃ stop', PNext5 w (t + 1) p d (C + 10) L7 stop' w8) := ⟨st7, A7, σ7, s7, mw7, N7, W7, lv7, b7, r7, ρ7, hp8⟩
      clear hsh hp8 k8 k8' z1 z2
      go_wp2_with fail
      go_ret
      exact ⟨rfl, by rw [← HL7.out]; exact HF.out⟩
    | true =>
      rw [hdd] at zr
      have HF : Hid (∃ stop', PNext5 w (t + 1) p d (C + 10) L7 stop' w0) := ⟨st7, A7, σ7, s7, mw7, N7, W7, lv7, b7, r7, ρ7, HP7.out⟩
      clear hdd z0 z3
      go_wp2_with fail
      go_ret
      exact ⟨rfl, by rw [← HL7.out]; exact HF.out⟩
  · skip
    go_upto_region 25 with fail
    have HN : Hid (∃ stop', PNext5 w (t + 1) p d (C + 10) (L + (44 * mlW (fa.data.toList, fb.data.toList, tl, dd.data.toList) + 100)) stop' w0) := ⟨stop, A, σ, s, mw, N, W, lv, b, r, ρ, HP0.out.mono (by omega) (by omega)⟩
    clear x0 x5 x6 p2 r0
    obtain ⟨st7, A7, σ7, s7, mw7, N7, W7, lv7, b7, r7, ρ7, hps7⟩ := HN.out
    obtain ⟨L7, hL7⟩ : ∃ x, x = L + (44 * mlW (fa.data.toList, fb.data.toList, tl, dd.data.toList) + 100) := ⟨_, rfl⟩
    rw [← hL7] at hps7
    have HL7 : Hid (L7 = L + (44 * mlW (fa.data.toList, fb.data.toList, tl, dd.data.toList) + 100)) := hL7
    have HP7 : Hid (PS w (t + 1) p d (C + 10) L7 A7 σ7 st7 s7 mw7 N7 W7 lv7 b7 r7 ρ7 w0) := hps7
    obtain ⟨z0, z1, z2, z3, _⟩ := mcells hps7.cell
    unfold ptr at z0 z1 z2
    have zr : w0.cell? ⟨r7, 2, none⟩ = some (.bool ρ7.dead) := hps7.ref.at 2 _ rfl
    have hL7' : L7 ≤ 500000000 := by omega
    clear hps7 HN hL7
    cases hdd : ρ7.dead with
    | false =>
      rw [hdd] at zr
      have hsh := (HP7.out.fresh ((Keeps.refl (fun _ => False) w0).drew)).shows hG h8 (by omega) hL7' hdd
      unfold ptr at hsh
      have HZ : Hid (∀ W1, Keeps A7 w0 W1 → W1.cell? ⟨p, 1, none⟩ = some (.pointer (some ⟨s7, 0, none⟩)) ∧ W1.cell? ⟨p, 2, none⟩ = some (.pointer (some ⟨r7, 0, none⟩))) := fun W1 k => ⟨cell_keeps k z1 HP7.out.pA, cell_keeps k z2 HP7.out.pA⟩
      clear hdd z0 z3
      go_wp2_with fail
      go_region_held3 (fun W1 => W1.cell? ⟨p, 1, none⟩ = some (.pointer (some ⟨s7, 0, none⟩)) ∧ W1.cell? ⟨p, 2, none⟩ = some (.pointer (some ⟨r7, 0, none⟩))) (first | exact HZ.out _ ((Keeps.refl _ w0).drew) | exact HZ.out _ k8) (first | (go_at_call 20; refine hsh.mono ?_; rintro e w8 ⟨rfl, hp8, k8'⟩; have k8 : Keeps A7 w0 w8 := ((Keeps.refl _ w0).drew).trans k8'))
      have HF : Hid (∃ stop', PNext5 w (t + 1) p d (C + 10) L7 stop' w8) := ⟨st7, A7, σ7, s7, mw7, N7, W7, lv7, b7, r7, ρ7, hp8⟩
      clear hsh hp8 k8 k8' z1 z2
      go_wp2_with fail
      go_ret
      exact ⟨rfl, by rw [← HL7.out]; exact HF.out⟩
    | true =>
      rw [hdd] at zr
      have HF : Hid (∃ stop', PNext5 w (t + 1) p d (C + 10) L7 stop' w0) := ⟨st7, A7, σ7, s7, mw7, N7, W7, lv7, b7, r7, ρ7, HP7.out⟩
      clear hdd z0 z3
      go_wp2_with fail
      go_ret
      exact ⟨rfl, by rw [← HL7.out]; exact HF.out⟩
  · skip
    go_upto_region 25 with fail
    have HN : Hid (∃ stop', PNext5 w (t + 1) p d (C + 10) (L + (44 * mlW (fa.data.toList, fb.data.toList, tl, dd.data.toList) + 100)) stop' w0) := ⟨stop, A, σ, s, mw, N, W, lv, b, r, ρ, HP0.out.mono (by omega) (by omega)⟩
    clear x0 x5 x6 p2 r0
    obtain ⟨st7, A7, σ7, s7, mw7, N7, W7, lv7, b7, r7, ρ7, hps7⟩ := HN.out
    obtain ⟨L7, hL7⟩ : ∃ x, x = L + (44 * mlW (fa.data.toList, fb.data.toList, tl, dd.data.toList) + 100) := ⟨_, rfl⟩
    rw [← hL7] at hps7
    have HL7 : Hid (L7 = L + (44 * mlW (fa.data.toList, fb.data.toList, tl, dd.data.toList) + 100)) := hL7
    have HP7 : Hid (PS w (t + 1) p d (C + 10) L7 A7 σ7 st7 s7 mw7 N7 W7 lv7 b7 r7 ρ7 w0) := hps7
    obtain ⟨z0, z1, z2, z3, _⟩ := mcells hps7.cell
    unfold ptr at z0 z1 z2
    have zr : w0.cell? ⟨r7, 2, none⟩ = some (.bool ρ7.dead) := hps7.ref.at 2 _ rfl
    have hL7' : L7 ≤ 500000000 := by omega
    clear hps7 HN hL7
    cases hdd : ρ7.dead with
    | false =>
      rw [hdd] at zr
      have hsh := (HP7.out.fresh ((Keeps.refl (fun _ => False) w0).drew)).shows hG h8 (by omega) hL7' hdd
      unfold ptr at hsh
      have HZ : Hid (∀ W1, Keeps A7 w0 W1 → W1.cell? ⟨p, 1, none⟩ = some (.pointer (some ⟨s7, 0, none⟩)) ∧ W1.cell? ⟨p, 2, none⟩ = some (.pointer (some ⟨r7, 0, none⟩))) := fun W1 k => ⟨cell_keeps k z1 HP7.out.pA, cell_keeps k z2 HP7.out.pA⟩
      clear hdd z0 z3
      go_wp2_with fail
      go_region_held3 (fun W1 => W1.cell? ⟨p, 1, none⟩ = some (.pointer (some ⟨s7, 0, none⟩)) ∧ W1.cell? ⟨p, 2, none⟩ = some (.pointer (some ⟨r7, 0, none⟩))) (first | exact HZ.out _ ((Keeps.refl _ w0).drew) | exact HZ.out _ k8) (first | (go_at_call 20; refine hsh.mono ?_; rintro e w8 ⟨rfl, hp8, k8'⟩; have k8 : Keeps A7 w0 w8 := ((Keeps.refl _ w0).drew).trans k8'))
      have HF : Hid (∃ stop', PNext5 w (t + 1) p d (C + 10) L7 stop' w8) := ⟨st7, A7, σ7, s7, mw7, N7, W7, lv7, b7, r7, ρ7, hp8⟩
      clear hsh hp8 k8 k8' z1 z2
      go_wp2_with fail
      go_ret
      exact ⟨rfl, by rw [← HL7.out]; exact HF.out⟩
    | true =>
      rw [hdd] at zr
      have HF : Hid (∃ stop', PNext5 w (t + 1) p d (C + 10) L7 stop' w0) := ⟨st7, A7, σ7, s7, mw7, N7, W7, lv7, b7, r7, ρ7, HP7.out⟩
      clear hdd z0 z3
      go_wp2_with fail
      go_ret
      exact ⟨rfl, by rw [← HL7.out]; exact HF.out⟩

end
end Go.Proofs.YtegbkpjcjlihmabGreatDoor
