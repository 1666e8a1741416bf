/-
  The player of mails: shows. | The player of mails: what it stands on; found, when nothing may have been done. | The player of mails: found, behind a Put. | The player of mails: found, behind a Done.
-/
import Derived.Test.YtegbkpjcjlihmabGreatDoorIc
import Derived.Test.YtegbkpjcjlihmabGreatDoorId
import Derived.Test.YtegbkpjcjlihmabGreatDoorIe
namespace Go.Proofs.YtegbkpjcjlihmabGreatDoor
open Go.RowKit Go.Maps Go.Sort Go.Lib

theorem Nums.ids {W : Waits} {ns : List Int} {l : List Wg} {lv : Int} (h : Nums W ns) (hD : Dom l W) (hW : Wgs l lv) : ns = ids l := by
  refine up_unique h.up hW.up (fun n => ?_)
  rw [h.mem, hD n]
  constructor
  · exact fun h => h.2
  · intro hn
    obtain ⟨g, hg, rfl⟩ := List.mem_map.1 hn
    obtain ⟨h1, h2, _⟩ := hW.mem g hg
    have := hW.hi
    exact ⟨⟨by omega, by omega⟩, hn⟩

/-- what a mail's file tells is the mail -/
theorem Alive.told {σ : Dk} {l : List Wg} {lv : Int} {K : List Text} {C L : Nat} (h : Alive σ l lv) (hf : Fits K C L σ) {g : Wg} (hg : g ∈ l) {a b d r : Text} {t : List Ltr} (hm : MailOf ((σ.read (mName g.1)).getD []) a b t d r) : a = g.2.1.1 ∧ b = g.2.1.2.1 ∧ t = mlTo g.2.1 ∧ d = g.2.1.2.2.2 := by
  have hM := h.inv.wgs.nameM hg
  obtain ⟨x, hx⟩ := Option.isSome_iff_exists.1 (h.mustNow hf g hg)
  have hread : (σ.read (mName g.1)).getD [] = σ.cont x := by
    unfold Dk.read
    rw [hx]; rfl
  rw [hread] at hm
  obtain ⟨v, hv, e, q, h3, _, _⟩ := (h.inv.box.now hf hM hx).toNo (fun w _ a e => by cases e) (fun m e => by cases e)
  obtain rfl := h.inv.wgs.same hg hv e
  obtain ⟨_, _, ok, _, _⟩ := h.inv.wgs.mem g hg
  rw [h3] at hm
  obtain ⟨e1, e2, e3, e4, _⟩ := mail_back rfl ok.fa ok.fb ok.dd ok.to ok.ws hm
  exact ⟨e1, e2, e3, e4⟩

section
variable {w we w' : World} {A T : Nat → Prop} {d s r base : Nat} {L L' : Nat} {mw N : Nat} {lv lv2 : Int} {b : Bool} {W : Waits} {σ : Dk} {K : List Text} {C : Nat} {l : List Wg} {ρ : Rs}

set_option maxHeartbeats 16000000 in
set_option maxRecDepth 100000 in
theorem shows5 (h : Live w we A d K C L σ) (hG : Gl w) (S : SpAt w A d L' s mw N (Pm l) lv b W we) (hD : Dom l W) (hAl : Alive σ l lv2) (hR : RefAt T r base ρ we) (hρ : ρ.l = l) (hTA : ∀ i, A i → T i) (hsz : ∀ g ∈ l, mlW g.2.1 ≤ 1048576) (h8 : 8 ≤ w.heap.size) (hL : L < 4294967281) (hL' : L' ≤ 1099511627776) (hN : N ≤ 1099511627776) (hl : l.length ≤ 1099511627) :
    Calls Tryz.prog 20 #[ptr s, ptr r] we fun e w' => e = .returned (.bool true) ∧ Live w w' A d K C L σ ∧ Keeps A we w' := by
  subst hρ
  have hlist := list5 S hN
  have hWg := hAl.inv.wgs
  have hF : Hid (Fits K C L σ) := h.2.2.1
  have HAl : Hid (Alive σ ρ.l lv2) := hAl
  have HS : Hid (SpAt w A d L' s mw N (Pm ρ.l) lv b W we) := S
  have HR : Hid (RefAt T r base ρ we) := hR
  have HL : Hid (Live w we A d K C L σ) := h
  have HSZ : Hid (∀ g ∈ ρ.l, mlW g.2.1 ≤ 1048576) := hsz
  have hA : ∀ i, A i → i < we.heap.size := fun i hi => (h.1 i hi).2
  obtain ⟨ao, cap, hav⟩ := hR.form
  have HC0 : Hid (∀ W1, Keeps A we W1 → W1.cell? ⟨r, 0, none⟩ = some (.slice ao ρ.l.length cap)) := fun W1 k => by
    have := hR.at 0 _ rfl
    rw [hav] at this
    exact cell_keeps k this (fun e => hR.nS (hTA _ e))
  have hil : (ids ρ.l).length = ρ.l.length := by unfold ids; rw [List.length_map]
  have HIL : Hid ((ids ρ.l).length = ρ.l.length) := hil
  clear h S hAl hR hsz hil
  unfold ptr at *
  go_enter Tryz.func20, Tryz.ntmps20
  go_wp2_with fail
  refine hlist.mono ?_
  rintro e w1 ⟨nv, ns, rfl, hns, hnl, hrow, k1⟩
  obtain rfl := hns.ids hD hWg
  have hrow' : w1.ownsRow we.heap.size 3 1 nv ρ.l.length ((ids ρ.l).map intV) := by
    have := hrow
    unfold RowI at this
    rwa [HIL.out] at this
  obtain ⟨na, nc, rfl, _, _, hna⟩ := own_form hrow'
  have HN1 : Hid (w1.ownsRow we.heap.size 3 1 (.slice na ρ.l.length nc) ρ.l.length ((ids ρ.l).map intV)) := hrow'
  have hNb : ∀ q, na = some ⟨q, 0, none⟩ → we.heap.size ≤ q ∧ q < w1.heap.size := fun q hq => hrow'.lt q (by rw [hq]; rfl)
  have c1 := HC0.out w1 k1.ofFresh
  have HL1 : Hid (Live w w1 A d K C L σ) := HL.out.fresh k1
  have HK1 : Hid (Keeps A we w1) := k1.ofFresh
  have hz1 := k1.size
  clear hlist hrow hrow' hns hnl k1
  go_wp2_with fail
  go_loopw [6] (fun t6 wz => ∃ (i : Nat) (zs : List Value), i ≤ ρ.l.length ∧ t6 = .int .i64 i ∧ wz.ownsRow we.heap.size 3 1 (.slice na ρ.l.length nc) ρ.l.length zs ∧ (∀ j, i ≤ j → zs[j]? = ((ids ρ.l).map intV)[j]?) ∧ Live w wz A d K C L σ ∧ Keeps A we wz ∧ w1.heap.size ≤ wz.heap.size) (fun t6 _ => ρ.l.length - (intOf t6).toNat)
  case atStart => exact ⟨0, _, Nat.zero_le _, rfl, HN1.out, fun _ _ => rfl, HL1.out, HK1.out, Nat.le_refl _⟩
  case round =>
    obtain ⟨i, zs, hi1, rfl, hN2, hzs, hLv, kk, hsz2⟩ := hrel
    generalize wr = wo at *
    have HNo : Hid (wo.ownsRow we.heap.size 3 1 (.slice na ρ.l.length nc) ρ.l.length zs) := hN2
    have HZS : Hid (∀ j, i ≤ j → zs[j]? = ((ids ρ.l).map intV)[j]?) := hzs
    have HLv : Hid (Live w wo A d K C L σ) := hLv
    have HKk : Hid (Keeps A we wo) := kk
    have co := HC0.out wo kk
    have hkk := kk.size
    clear hN2 hzs hLv kk HN1 HL1 HK1 c1
    have HSo : Hid (SpAt w A d L' s mw N (Pm ρ.l) lv b W wo) := HS.out.keep HKk.out (fun _ e => e)
    by_cases hlt : i < ρ.l.length
    · obtain ⟨g, hg⟩ : ∃ g, ρ.l[i]? = some g := ⟨ρ.l[i], List.getElem?_eq_getElem hlt⟩
      have hgm : g ∈ ρ.l := List.mem_of_getElem? hg
      have Ro := HR.out.keep HKk.out (fun b _ hn e => hn (hTA b e)) (fun _ _ e => e)
      obtain ⟨bx, x, rfl, hx, hok, hc⟩ := Ro.rd hav hg
      obtain ⟨tao, tcap, ht1, ht2⟩ := hok.tt.form
      obtain ⟨lao, lcap, hl1, hl2⟩ := hok.lf.form
      have HTT : Hid (∀ W1, Keeps A wo W1 → AdRd W1 tao (mlTo g.2.1)) := fun W1 k => by
        obtain ⟨ao', cap', e1, e2, e3⟩ := hok.tt
        rw [ht1] at e1
        injection e1 with e1 _ _
        subst e1
        exact e2.keep k (fun b off e hn hb => (e3 b off e hn).1 (.inl (hTA b hb)))
      have HLF : Hid (∀ W1, Keeps A wo W1 → AdRd W1 lao g.2.2) := fun W1 k => by
        obtain ⟨ao', cap', e1, e2, e3⟩ := hok.lf
        rw [hl1] at e1
        injection e1 with e1 _ _
        subst e1
        exact e2.keep k (fun b off e hn hb => (e3 b off e hn).1 (.inl (hTA b hb)))
      obtain ⟨xid, xa, xb, xt, xd, xl⟩ := x
      have ht1 : xt = .slice tao (mlTo g.2.1).length tcap := ht1
      have hl1 : xl = .slice lao g.2.2.length lcap := hl1
      have hxid : xid = g.1 := hok.id
      subst ht1 hl1 hxid
      have q0 := hc 0 _ rfl
      have q1 := hc 1 _ rfl
      have q2 := hc 2 _ rfl
      have q3 := hc 3 _ rfl
      have q4 := hc 4 _ rfl
      have q5 := hc 5 _ rfl
      rw [Nat.add_zero] at q0
      have HXA : Hid (xa.data.toList = g.2.1.1 ∧ xb.data.toList = g.2.1.2.1 ∧ xd.data.toList = g.2.1.2.2.2) := ⟨hok.fa, hok.fb, hok.dd⟩
      obtain ⟨gp1, gp2, gp3, gp4, gp5⟩ := hWg.mem g hgm
      have hhi := hWg.hi
      have hid : okI g.1 := ⟨by omega, by omega⟩
      have hW8 := HSZ.out g hgm
      have htl : (mlTo g.2.1).length ≤ 1048576 := by
        have := toW_len g.2.1.2.2.1
        unfold mlW at hW8
        show g.2.1.2.2.1.length ≤ _
        omega
      have HTO : Hid (∀ q ∈ mlTo g.2.1, okA q) := fun q hq => by
        have h1 : q.1.length + q.2.length + 1 ≤ toW g.2.1.2.2.1 := toW_mem hq
        unfold mlW at hW8
        unfold okA maxLen
        omega
      have hlf : g.2.2.length ≤ 1048576 := by
        have := gp5.length_le
        have := once_len (mlTo g.2.1)
        omega
      have HGW : Hid ((W g.1).isSome = true) := (hD g.1).2 (List.mem_map_of_mem hgm)
      have hidi : ((ids ρ.l).map intV)[i]? = some (.int .i64 g.1) := by
        unfold ids
        rw [List.getElem?_map, List.getElem?_map, hg]; rfl
      obtain ⟨gn, rfl⟩ := hna (by omega)
      have hgn := hNb gn rfl
      have HCN : Hid (wo.cell? ⟨gn, i, none⟩ = some (.int .i64 g.1)) := by
        have := HNo.out.cellAt i (by omega)
        rw [HZS.out i (Nat.le_refl _), hidi] at this
        exact this
      have f3 : Fresh wo (wo.alloc (.cells #[.int .i64 g.1, .string xa, .string xb, .slice tao (mlTo g.2.1).length tcap, .string xd, .slice lao g.2.2.length lcap] 90)) := (Keeps.refl _ _).alloc _
      have hx3 := heap_new wo (.cells #[.int .i64 g.1, .string xa, .string xb, .slice tao (mlTo g.2.1).length tcap, .string xd, .slice lao g.2.2.length lcap] 90)
      have hmail := mail5 (HLv.out.fresh f3) hG (HSo.out.fresh f3) h8 hL g.1 hid
      have HF3 : Hid (Fresh wo (wo.alloc (.cells #[.int .i64 g.1, .string xa, .string xb, .slice tao (mlTo g.2.1).length tcap, .string xd, .slice lao g.2.2.length lcap] 90))) := f3
      have HSW : Hid (wo.heap.size < (wo.alloc (.cells #[.int .i64 g.1, .string xa, .string xb, .slice tao (mlTo g.2.1).length tcap, .string xd, .slice lao g.2.2.length lcap] 90)).heap.size) := heap_lt hx3
      have z0 : (0 : Int) ≤ (i : Int) := by omega
      have z1 : (i : Int) < (ρ.l.length : Int) := by omega
      clear Ro hx hok hc hg ht2 hl2 hidi f3
      unfold ptr mailV at *
      go_upto_region 8 with fail
      generalize wo.alloc (.cells #[.int .i64 g.1, .string xa, .string xb, .slice tao (mlTo g.2.1).length tcap, .string xd, .slice lao g.2.2.length lcap] 90) = w3 at *
      obtain ⟨y0, y1, y2, y3, y4, y5, yf⟩ := cells6 hx3
      have hsw := HSW.out
      go_wp2_with fail
      refine hmail.mono ?_
      rintro e w4 ⟨hcase, hl4, k4⟩
      clear hmail
      rcases hcase with ⟨hn, -⟩ | ⟨hs, fa, fb, dd, tv, tl, rr, rfl, hm, hrowm⟩
      · exfalso
        have := HGW.out
        rw [hn] at this
        cases this
      obtain ⟨m1, m2, m3, m4⟩ := HAl.out.told hF.out hgm hm
      have e1 : xa = fa := ba_ext (HXA.out.1.trans m1.symm)
      have e2 : xb = fb := ba_ext (HXA.out.2.1.trans m2.symm)
      have e4 : xd = dd := ba_ext (HXA.out.2.2.trans m4.symm)
      subst e1 e2 e4 m3
      obtain ⟨ma, mc, rfl, _, _, hma⟩ := own_form hrowm
      have HRM : Hid (w4.ownsRow w3.heap.size 56 2 (.slice ma (mlTo g.2.1).length mc) (mlTo g.2.1).length ((mlTo g.2.1).flatMap encL)) := hrowm
      have hMb : ∀ q, ma = some ⟨q, 0, none⟩ → w3.heap.size ≤ q ∧ q < w4.heap.size := fun q hq => hrowm.lt q (by rw [hq]; rfl)
      have H4 : Hid (Live w w4 A d K C L σ) := hl4
      have hnx : ¬ A wo.heap.size := fun e => by have := hA _ e; omega
      have hx4 := k4.heap hx3 hnx
      have HK4 : Hid (Keeps A we w4) := (HKk.out.trans (HF3.out.ofFresh)).trans k4
      have HKo4 : Hid (Keeps A wo w4) := (HF3.out.ofFresh).trans k4
      have hz4 := k4.size
      have f5 : Fresh w4 (w4.alloc (.cells #[.string xa, .string xb, .slice ma (mlTo g.2.1).length mc, .string xd] 59)) := (Keeps.refl _ _).alloc _
      have hm5 := heap_new w4 (.cells #[.string xa, .string xb, .slice ma (mlTo g.2.1).length mc, .string xd] 59)
      have hx5 := f5.heap hx4 (fun e => e)
      have HS5 : Hid (SpAt w A d L' s mw N (Pm ρ.l) lv b W (w4.alloc (.cells #[.string xa, .string xb, .slice ma (mlTo g.2.1).length mc, .string xd] 59))) := (HSo.out.keep HKo4.out (fun _ e => e)).fresh f5
      have hleft := left5 HS5.out hL' g.1 hid
      have HF5 : Hid (Fresh w4 (w4.alloc (.cells #[.string xa, .string xb, .slice ma (mlTo g.2.1).length mc, .string xd] 59))) := f5
      have hsz5 := heap_lt hm5
      clear y0 y1 y2 y3 y4 y5 yf hrowm hm hs hl4 k4 f5 m1 m2 m4 hx3 hx4
      unfold ptr at hleft
      go_upto_region 9 with fail
      generalize w4.alloc (.cells #[.string xa, .string xb, .slice ma (mlTo g.2.1).length mc, .string xd] 59) = w5 at *
      obtain ⟨y0, y1, y2, y3, y4, y5, yf⟩ := cells6 hx5
      obtain ⟨n0, n1, n2, n3, _⟩ := mcells hm5
      go_wp2_with fail
      refine hleft.mono ?_
      rintro e w6 ⟨hcase, k6⟩
      clear hleft
      rcases hcase with ⟨hn, -⟩ | ⟨kb, M, kv, ls, hkb, hPm, rfl, hO, hrowk⟩
      · exfalso
        have := HGW.out
        rw [hn] at this
        cases this
      obtain ⟨g', hg', eg, rfl⟩ := hPm
      have eg' := ids_inj hWg.up hgm hg' eg.symm
      subst eg'
      have els : ls = g.2.2 := hO.unique (leftM_ok gp5 (by omega)) (leftM_ordered gp5 (fun p hp => HTO.out p (once_in (gp5.subset hp))))
      subst els
      have hrowk' : w6.ownsRow w5.heap.size 56 2 kv g.2.2.length (g.2.2.flatMap encL) := hrowk
      obtain ⟨ka, kc, rfl, _, _, hka⟩ := own_form hrowk'
      have HRK : Hid (w6.ownsRow w5.heap.size 56 2 (.slice ka g.2.2.length kc) g.2.2.length (g.2.2.flatMap encL)) := hrowk'
      have hKb : ∀ q, ka = some ⟨q, 0, none⟩ → w5.heap.size ≤ q ∧ q < w6.heap.size := fun q hq => hrowk'.lt q (by rw [hq]; rfl)
      have hx6 := k6.heap hx5 (fun e => e)
      have hm6 := k6.heap hm5 (fun e => e)
      have HK46 : Hid (Fresh w4 w6) := HF5.out.trans k6
      have HKo6 : Hid (Keeps A wo w6) := HKo4.out.trans (HK46.out.ofFresh)
      have hz5 := HF5.out.size
      have hz6 := k6.size
      have hsame := same_true xa xb xd ma tao mc tcap (mlTo g.2.1) w6 (by omega) (rowRd (HK46.out.owns HRM.out (fun _ _ e => e))) (HTT.out w6 HKo6.out)
      clear y0 y1 y2 y3 y4 y5 yf n0 n1 n2 n3 hx5 hm5 hrowk hrowk' hO hg' eg k6 hkb
      unfold mailV at hsame
      obtain ⟨y0, y1, y2, y3, y4, y5, yf⟩ := cells6 hx6
      obtain ⟨n0, n1, n2, n3, _⟩ := mcells hm6
      go_wp2_with fail
      refine hsame.mono ?_
      rintro e w7 ⟨rfl, k7⟩
      have hx7 := k7.heap hx6 (fun e => e)
      have hm7 := k7.heap hm6 (fun e => e)
      have hleftt := left_true ka lao kc lcap g.2.2 w7 (by omega) (rowRd (k7.owns HRK.out (fun _ _ e => e))) (HLF.out w7 (HKo6.out.trans (k7.ofFresh)))
      clear y0 y1 y2 y3 y4 y5 yf n0 n1 n2 n3 hx6 hm6 hsame
      obtain ⟨y0, y1, y2, y3, y4, y5, yf⟩ := cells6 hx7
      go_wp2_with fail
      refine hleftt.mono ?_
      rintro e w8 ⟨rfl, k8⟩
      have hx8 := k8.heap hx7 (fun e => e)
      have hm8 := k8.heap hm7 (fun e => e)
      have HK68 : Hid (Fresh w6 w8) := k7.trans k8
      have HKo8 : Hid (Keeps A wo w8) := HKo6.out.trans (HK68.out.ofFresh)
      have hngn : ¬ A gn := fun e => by have := hA _ e; omega
      have cn8 := cell_keeps HKo8.out HCN.out hngn
      clear y0 y1 y2 y3 y4 y5 yf hx7 hm7 hleftt k7 k8
      obtain ⟨y0, _, _, _, _, _, _⟩ := cells6 hx8
      go_wp2_with fail
      go_quiet (fail)
      have fq : Fresh w8 (w8.drewN nq) := (Keeps.refl _ _).drewN _
      have HKo9 : Hid (Keeps A wo (w8.drewN nq)) := HKo8.out.trans fq.ofFresh
      have HK69 : Hid (Fresh w6 (w8.drewN nq)) := HK68.out.trans fq
      have hm9 := fq.heap hm8 (fun e => e)
      have hz9 := HK69.out.size
      have cn9 := cell_keeps HKo9.out HCN.out hngn
      clear y0 hx8 hm8 cn8 fq
      generalize w8.drewN nq = w9 at *
      have HN9 : Hid (w9.ownsRow we.heap.size 3 1 (.slice (some ⟨gn, 0, none⟩) ρ.l.length nc) ρ.l.length zs) := HKo9.out.owns HNo.out (fun q hq e => by
        have e1 : gn = q := Option.some.inj hq
        exact hngn (e1 ▸ e))
      have fn9 := HN9.out.frozenAt i
      have H9 : Hid (Live w w9 A d K C L σ) := (H4.out.fresh HK46.out).fresh HK69.out
      go_wp2_with fail
      have k10 : Keeps (fun q => q = gn) w9 (w9.setCell ⟨gn, i, none⟩ (.int .i64 (-1))) := (Keeps.refl (fun q => q = gn) w9).setCell (p := ⟨gn, i, none⟩) (fun _ => rfl) _
      have HN10 : Hid ((w9.setCell ⟨gn, i, none⟩ (.int .i64 (-1))).ownsRow we.heap.size 3 1 (.slice (some ⟨gn, 0, none⟩) ρ.l.length nc) ρ.l.length (zs.set i (.int .i64 (-1)))) := (HN9.out.stored i (.int .i64 (-1))).1
      have HM10 : Hid ((w9.setCell ⟨gn, i, none⟩ (.int .i64 (-1))).ownsRow w3.heap.size 56 2 (.slice ma (mlTo g.2.1).length mc) (mlTo g.2.1).length ((mlTo g.2.1).flatMap encL)) := k10.owns (HK69.out.owns (HK46.out.owns HRM.out (fun _ _ e => e)) (fun _ _ e => e)) (fun q hq e => by
        have := HRM.out.lt q hq
        omega)
      have HR10 : Hid ((w9.setCell ⟨gn, i, none⟩ (.int .i64 (-1))).ownsRow w5.heap.size 56 2 (.slice ka g.2.2.length kc) g.2.2.length (g.2.2.flatMap encL)) := k10.owns (HK69.out.owns HRK.out (fun _ _ e => e)) (fun q hq e => by
        have := HRK.out.lt q hq
        omega)
      have hm10 := k10.heap hm9 (fun e => by omega)
      have H10 : Hid (Live w (w9.setCell ⟨gn, i, none⟩ (.int .i64 (-1))) A d K C L σ) := H9.out.side k10 (fun q hq e => by have := hA _ hq; omega) (fun q e => by have := HL.out.2.2.2.size; omega)
      have HKe10 : Hid (Keeps A we (w9.setCell ⟨gn, i, none⟩ (.int .i64 (-1)))) := (HKk.out.trans HKo9.out).then k10 (fun q hq e => by omega)
      have hz10 := k10.size
      clear k10 cn9 fn9 hm9
      generalize w9.setCell ⟨gn, i, none⟩ (.int .i64 (-1)) = w10 at *
      obtain ⟨n0, n1, n2, n3, _⟩ := mcells hm10
      go_loopw [13] (fun t13 wz => ∃ (j : Nat) (ys : List Value), j ≤ (mlTo g.2.1).length ∧ t13 = .int .i64 j ∧ wz.ownsRow w3.heap.size 56 2 (.slice ma (mlTo g.2.1).length mc) (mlTo g.2.1).length ys ∧ Keeps (fun q => ma = some ⟨q, 0, none⟩) w10 wz) (fun t13 _ => (mlTo g.2.1).length - (intOf t13).toNat)
      case atStart => exact ⟨0, _, Nat.zero_le _, rfl, HM10.out, Keeps.refl _ _⟩
      case round =>
        obtain ⟨j, ys, hj1, rfl, hM6, k6⟩ := hrel
        have HM6 : Hid (wr.ownsRow w3.heap.size 56 2 (.slice ma (mlTo g.2.1).length mc) (mlTo g.2.1).length ys) := hM6
        have Hk6 : Hid (Keeps (fun q => ma = some ⟨q, 0, none⟩) w10 wr) := k6
        have hmr := k6.heap hm10 (fun e => by have := hMb _ e; omega)
        obtain ⟨_, _, nn2, _, _⟩ := mcells hmr
        have hys : ys.length = (mlTo g.2.1).length * 2 := hM6.1
        clear hM6 k6 n0 n1 n2 n3
        by_cases hjt : j < (mlTo g.2.1).length
        · obtain ⟨gm, rfl⟩ := hma (by omega)
          obtain ⟨u0, hu0⟩ : ∃ u, ys[j * 2]? = some u := ⟨ys[j * 2]'(by omega), List.getElem?_eq_getElem _⟩
          obtain ⟨u1, hu1⟩ : ∃ u, ys[j * 2 + 1]? = some u := ⟨ys[j * 2 + 1]'(by omega), List.getElem?_eq_getElem _⟩
          have q3 := HM6.out.cellAt (j * 2) (by omega)
          have q4 := HM6.out.cellAt (j * 2 + 1) (by omega)
          rw [hu0] at q3
          rw [hu1] at q4
          have f3 := HM6.out.frozenAt (j * 2)
          have f4 := HM6.out.frozenAt (j * 2 + 1)
          have y0 : (0 : Int) ≤ (j : Int) := by omega
          have y1 : (j : Int) < ((mlTo g.2.1).length : Int) := by omega
          clear hu0 hu1 hys
          go_wp2_with fail
          go_roundw
          case rel =>
            have hM9 := ((HM6.out.stored (j * 2) (.string ⟨#[]⟩)).1.stored (j * 2 + 1) (.string ⟨#[]⟩)).1
            have kA := (((Keeps.refl (fun q => (some ⟨gm, 0, none⟩ : Option Addr) = some ⟨q, 0, none⟩) wr)).setCell (p := ⟨gm, j * 2, none⟩) (fun _ => rfl) (.string ⟨#[]⟩)).setCell (p := ⟨gm, j * 2 + 1, none⟩) (fun _ => rfl) (.string ⟨#[]⟩)
            exact ⟨j + 1, _, by omega, by go_num, hM9, Hk6.out.trans kA⟩
          case measure => simp [intOf]; omega
        · have ej : j = (mlTo g.2.1).length := by omega
          have y1 : ¬ (j : Int) < ((mlTo g.2.1).length : Int) := by omega
          have hk6 := Hk6.out.size
          have HR11 : Hid (wr.ownsRow w5.heap.size 56 2 (.slice ka g.2.2.length kc) g.2.2.length (g.2.2.flatMap encL)) := Hk6.out.owns HR10.out (fun q hq e => by
            have := HRK.out.lt q hq
            have := hMb q e
            omega)
          have HN11 : Hid (wr.ownsRow we.heap.size 3 1 (.slice (some ⟨gn, 0, none⟩) ρ.l.length nc) ρ.l.length (zs.set i (.int .i64 (-1)))) := Hk6.out.owns HN10.out (fun q hq e => by
            have e1 : gn = q := Option.some.inj hq
            have := hMb q e
            omega)
          have H11 : Hid (Live w wr A d K C L σ) := H10.out.side Hk6.out (fun q hq e => by have := hA _ hq; have := hMb q e; omega) (fun q e => by have := HL.out.2.2.2.size; have := hMb q e; omega)
          have HKe11 : Hid (Keeps A we wr) := HKe10.out.then Hk6.out (fun q hq e => by have := hMb q e; omega)
          clear HM6 hmr Hk6 hys HN10 HR10 H10 HKe10
          generalize wr = w11 at *
          go_wp2_with fail
          go_loopw [14] (fun t14 wz => ∃ (j : Nat) (ys : List Value), j ≤ g.2.2.length ∧ t14 = .int .i64 j ∧ wz.ownsRow w5.heap.size 56 2 (.slice ka g.2.2.length kc) g.2.2.length ys ∧ Keeps (fun q => ka = some ⟨q, 0, none⟩) w11 wz) (fun t14 _ => g.2.2.length - (intOf t14).toNat)
          case atStart => exact ⟨0, _, Nat.zero_le _, rfl, HR11.out, Keeps.refl _ _⟩
          case round =>
            obtain ⟨j2, ys2, hj2, rfl, hM7, k7⟩ := hrel
            have HM7 : Hid (wr.ownsRow w5.heap.size 56 2 (.slice ka g.2.2.length kc) g.2.2.length ys2) := hM7
            have Hk7 : Hid (Keeps (fun q => ka = some ⟨q, 0, none⟩) w11 wr) := k7
            have hys2 : ys2.length = g.2.2.length * 2 := hM7.1
            clear hM7 k7
            by_cases hjt2 : j2 < g.2.2.length
            · obtain ⟨gk, rfl⟩ := hka (by omega)
              obtain ⟨u0, hu0⟩ : ∃ u, ys2[j2 * 2]? = some u := ⟨ys2[j2 * 2]'(by omega), List.getElem?_eq_getElem _⟩
              obtain ⟨u1, hu1⟩ : ∃ u, ys2[j2 * 2 + 1]? = some u := ⟨ys2[j2 * 2 + 1]'(by omega), List.getElem?_eq_getElem _⟩
              have q3 := HM7.out.cellAt (j2 * 2) (by omega)
              have q4 := HM7.out.cellAt (j2 * 2 + 1) (by omega)
              rw [hu0] at q3
              rw [hu1] at q4
              have f3 := HM7.out.frozenAt (j2 * 2)
              have f4 := HM7.out.frozenAt (j2 * 2 + 1)
              have y0 : (0 : Int) ≤ (j2 : Int) := by omega
              have y2 : (j2 : Int) < (g.2.2.length : Int) := by omega
              clear hu0 hu1 hys2
              go_wp2_with fail
              go_roundw
              case rel =>
                have hM9 := ((HM7.out.stored (j2 * 2) (.string ⟨#[]⟩)).1.stored (j2 * 2 + 1) (.string ⟨#[]⟩)).1
                have kA := (((Keeps.refl (fun q => (some ⟨gk, 0, none⟩ : Option Addr) = some ⟨q, 0, none⟩) wr)).setCell (p := ⟨gk, j2 * 2, none⟩) (fun _ => rfl) (.string ⟨#[]⟩)).setCell (p := ⟨gk, j2 * 2 + 1, none⟩) (fun _ => rfl) (.string ⟨#[]⟩)
                exact ⟨j2 + 1, _, by omega, by go_num, hM9, Hk7.out.trans kA⟩
              case measure => simp [intOf]; omega
            · have ej2 : j2 = g.2.2.length := by omega
              have y2 : ¬ (j2 : Int) < (g.2.2.length : Int) := by omega
              clear HM7 hys2
              go_wp2_with fail
              go_roundw
              case rel =>
                have hk7 := Hk7.out.size
                refine ⟨i + 1, _, by omega, by go_num, Hk7.out.owns HN11.out (fun q hq e => ?_), fun t ht => ?_, H11.out.side Hk7.out (fun q hq e => ?_) (fun q e => ?_), HKe11.out.then Hk7.out (fun q hq e => ?_), by omega⟩
                · have e1 : gn = q := Option.some.inj hq
                  have := hKb q e
                  omega
                · rw [List.getElem?_set_ne (by omega)]
                  exact HZS.out t (by omega)
                · have := hA _ hq
                  have := hKb q e
                  omega
                · have := HL.out.2.2.2.size
                  have := hKb q e
                  omega
                · have := hKb q e
                  omega
              case measure => simp [intOf]; omega
    · have ei : i = ρ.l.length := by omega
      subst ei
      have z1 : ¬ (ρ.l.length : Int) < (ρ.l.length : Int) := by omega
      have h0i : okI 0 := ⟨by omega, by omega⟩
      have HW0 : Hid (W 0 = none) := hD.gone (fun hn => by
        obtain ⟨g, hg, e⟩ := List.mem_map.1 hn
        have := (hWg.mem g hg).1
        omega)
      have hmail := mail5 HLv.out hG HSo.out h8 hL 0 h0i
      unfold ptr mailV at hmail
      go_wp2_with fail
      refine hmail.mono ?_
      rintro e w4 ⟨hcase, hl4, k4⟩
      clear hmail
      rcases hcase with ⟨-, rfl⟩ | ⟨hs, -⟩
      · have f5 : Fresh w4 (w4.alloc (.cells #[.string ⟨#[]⟩, .string ⟨#[]⟩, .slice none 0 0, .string ⟨#[]⟩] 59)) := (Keeps.refl _ _).alloc _
        have hleft := left5 ((HSo.out.keep k4 (fun _ e => e)).fresh f5) hL' 0 h0i
        have HE : Hid (Live w (w4.alloc (.cells #[.string ⟨#[]⟩, .string ⟨#[]⟩, .slice none 0 0, .string ⟨#[]⟩] 59)) A d K C L σ ∧ Keeps A we (w4.alloc (.cells #[.string ⟨#[]⟩, .string ⟨#[]⟩, .slice none 0 0, .string ⟨#[]⟩] 59))) := ⟨hl4.fresh f5, (HKk.out.trans k4).trans f5.ofFresh⟩
        clear hl4 k4 f5
        unfold ptr at hleft
        go_wp2_with fail
        refine hleft.mono ?_
        rintro e w6 ⟨hcase, k6⟩
        clear hleft
        rcases hcase with ⟨-, la, lc, rfl⟩ | ⟨kb, M, kv, ls, hkb, -⟩
        · have HE6 : Hid (Live w w6 A d K C L σ ∧ Keeps A we w6) := ⟨HE.out.1.fresh k6, HE.out.2.trans k6.ofFresh⟩
          clear k6 HE
          go_wp2_with fail
          go_ret
          exact ⟨rfl, HE6.out.1, HE6.out.2⟩
        · exfalso
          rw [HW0.out] at hkb
          cases hkb
      · exfalso
        rw [HW0.out] at hs
        cases hs

end
end Go.Proofs.YtegbkpjcjlihmabGreatDoor

namespace Go.Proofs.YtegbkpjcjlihmabGreatDoor
open Go.RowKit Go.Maps Go.Sort Go.Lib

/-- the blocks of the disk, the spool and the player -/
def SS (A : Nat → Prop) (s mw : Nat) (W : Waits) (p : Nat) (i : Nat) : Prop := A i ∨ i = s ∨ i = mw ∨ (∃ n, W n = some i) ∨ i = p

/-- a spool that tells just these mails -/
structure Tells (w : World) (A : Nat → Prop) (d : Nat) (K : List Text) (C L : Nat) (σ : Dk) (s mw N : Nat) (W : Waits) (lvs : Int) (b : Bool) (l : List Wg) (lv : Int) (wr : World) : Prop where
  live : Live w wr A d K C L σ
  sp : SpAt w A d L s mw N (Pm l) lvs b W wr
  dom : Dom l W
  al : Alive σ l lv
  sz : ∀ g ∈ l, mlW g.2.1 ≤ 1048576
  num : N ≤ 1099511627776 ∧ l.length ≤ 1099511625 ∧ L < 1099511627

section
variable {w wr w' : World} {A T : Nat → Prop} {d s mw N p r : Nat} {K : List Text} {C L : Nat} {σ : Dk} {W : Waits} {lvs lv : Int} {b : Bool} {l : List Wg} {ρ ρ' : Rs} {P : Int → Lefts → Prop} {S : Nat → Prop} {base : Nat}

theorem SpAt.side (h : SpAt w A d L s mw N P lvs b W wr) (k : Keeps T wr w') (hT : ∀ i, T i → i ≠ s ∧ i ≠ mw ∧ ∀ n, W n ≠ some i) : SpAt w A d L s mw N P lvs b W w' := by
  refine ⟨k.heap h.sp (fun e => (hT _ e).1 rfl), k.waitsAt h.wt (fun e => (hT _ e).2.1 rfl), h.inj, fun n i hi => ?_, h.nS, h.nM, h.wS, h.wM, h.ne, h.ok, h.nW⟩
  obtain ⟨p1, p0, nn, c, M, p2, p3, p4, p5⟩ := h.lft n i hi
  exact ⟨p1, p0, nn, c, M, p2, k.leftAt p3 (fun e => (hT _ e).2.2 n hi), p4, p5⟩

theorem SpAt.monoL {L' : Nat} (h : SpAt w A d L s mw N P lvs b W wr) (hL : L ≤ L') : SpAt w A d L' s mw N P lvs b W wr := by
  refine ⟨h.sp, h.wt, h.inj, fun n i hi => ?_, h.nS, h.nM, h.wS, h.wM, h.ne, h.ok, h.nW⟩
  obtain ⟨p1, p0, nn, c, M, p2, p3, p4, p5⟩ := h.lft n i hi
  exact ⟨p1, p0, nn, c, M, by omega, p3, p4, p5⟩

theorem Tells.keep (h : Tells w A d K C L σ s mw N W lvs b l lv wr) (hl : Live w w' A d K C L σ) (k : Keeps A wr w') : Tells w A d K C L σ s mw N W lvs b l lv w' :=
  ⟨hl, h.sp.keep k (fun _ e => e), h.dom, h.al, h.sz, h.num⟩

theorem Tells.fresh (h : Tells w A d K C L σ s mw N W lvs b l lv wr) (k : Fresh wr w') : Tells w A d K C L σ s mw N W lvs b l lv w' :=
  ⟨h.live.fresh k, h.sp.fresh k, h.dom, h.al, h.sz, h.num⟩

theorem Tells.side (h : Tells w A d K C L σ s mw N W lvs b l lv wr) (k : Keeps T wr w') (hT : ∀ i, T i → ¬ SS A s mw W p i ∧ w.heap.size ≤ i) : Tells w A d K C L σ s mw N W lvs b l lv w' :=
  ⟨h.live.side k (fun i hi e => (hT i e).1 (.inl hi)) (fun i e => (hT i e).2), h.sp.side k (fun i e => ⟨fun e2 => (hT i e).1 (.inr (.inl e2)), fun e2 => (hT i e).1 (.inr (.inr (.inl e2))), fun n e2 => (hT i e).1 (.inr (.inr (.inr (.inl ⟨n, e2⟩))))⟩), h.dom, h.al, h.sz, h.num⟩

/-- the reference's own cells are set -/
theorem RefAt.upd (h : RefAt S r base ρ w) (hcell : w'.heap[r]? = some (rCells ρ')) (k : Keeps (fun b => b = r) w w') (hav : ρ'.av = ρ.av) (hxs : ρ'.xs = ρ.xs) (hl : ρ'.l = ρ.l) (hpt : AdAt w (fun b => S b ∨ b = r ∨ ρ.av.ownBlock = some b) ρ'.pt ρ'.pto) : RefAt S r base ρ' w' := by
  have hT : ∀ b, b < w.heap.size → ¬ (S b ∨ b = r ∨ ρ.av.ownBlock = some b) → ¬ b = r := fun b _ hn e => hn (.inr (.inl e))
  refine ⟨hcell, ?_, by rw [hxs, hl]; exact h.len, ?_, ?_, h.nS, by rw [hav]; exact h.nR, h.bs⟩
  · rw [hav, hxs]
    refine k.owns h.row (fun j hj e => ?_)
    have t1 := owns_tag h.row hj
    rw [e, tag_cells (cs := #[ρ.av, .int .i64 ρ.top, .bool ρ.dead, .bool ρ.hp, .string ρ.pa, .string ρ.pb, ρ.pt, .string ρ.pd, .bool ρ.hd, .int .i64 ρ.id, .string ρ.ta, .string ρ.tb]) h.cell] at t1
    exact absurd (Option.some.inj t1) (by decide)
  · rw [hav, hxs, hl]
    exact fun i x g hx hg => (h.raw i x g hx hg).keep k hT (fun _ _ e => e)
  · rw [hav]
    exact hpt.keep k hT (fun _ _ e => e)

/-- nothing is open any more -/
def Rs.calm (ρ : Rs) : Rs := { ρ with hp := false, hd := false, dead := false }

theorem RefAt.calm (h : RefAt S r base ρ w) : RefAt S r base ρ.calm (((w.setCell ⟨r, 3, none⟩ (.bool false)).setCell ⟨r, 8, none⟩ (.bool false)).setCell ⟨r, 2, none⟩ (.bool false)) ∧ Keeps (fun b => b = r) w (((w.setCell ⟨r, 3, none⟩ (.bool false)).setCell ⟨r, 8, none⟩ (.bool false)).setCell ⟨r, 2, none⟩ (.bool false)) := by
  have k : Keeps (fun b => b = r) w (((w.setCell ⟨r, 3, none⟩ (.bool false)).setCell ⟨r, 8, none⟩ (.bool false)).setCell ⟨r, 2, none⟩ (.bool false)) := (((Keeps.refl (fun b => b = r) w).setCell (p := ⟨r, 3, none⟩) (fun _ => rfl) _).setCell (p := ⟨r, 8, none⟩) (fun _ => rfl) _).setCell (p := ⟨r, 2, none⟩) (fun _ => rfl) _
  exact ⟨h.upd (heap_setCell_at (heap_setCell_at (heap_setCell_at h.cell 3 _) 8 _) 2 _) k rfl rfl rfl h.put, k⟩

/-- the reference's own blocks are nobody else's -/
theorem RefAt.own (h : RefAt (SS A s mw W p) r w.heap.size ρ wr) : ∀ i, (i = r ∨ ρ.av.ownBlock = some i) → ¬ SS A s mw W p i ∧ w.heap.size ≤ i := fun i e => by
  rcases e with e | e
  · subst e; exact ⟨h.nS, h.bs⟩
  · exact ⟨h.nR i e, (h.row.lt i e).1⟩

/-- what stands behind found -/
def Found5 (w : World) (A : Nat → Prop) (d : Nat) (K : List Text) (C L : Nat) (σ : Dk) (s mw N : Nat) (W : Waits) (lvs : Int) (b : Bool) (l : List Wg) (lv : Int) (p r : Nat) (ρ : Rs) (we : World) (e : Ending) (w' : World) : Prop :=
  e = .returned (.bool true) ∧ ∃ ρ', ρ'.l = l ∧ ρ'.dead = false ∧ ρ'.hp = false ∧ ρ'.hd = false ∧ ρ'.top ≤ lv ∧ RefAt (SS A s mw W p) r w.heap.size ρ' w' ∧ Tells w A d K C L σ s mw N W lvs b l lv w' ∧ Keeps (fun i => A i ∨ i = r ∨ ρ.av.ownBlock = some i) we w'

theorem Tells.shows (h : Tells w A d K C L σ s mw N W lvs b l lv wr) (hG : Gl w) (h8 : 8 ≤ w.heap.size) (hR : RefAt (SS A s mw W p) r w.heap.size ρ wr) (hρ : ρ.l = l) :
    Calls Tryz.prog 20 #[ptr s, ptr r] wr fun e w' => e = .returned (.bool true) ∧ Tells w A d K C L σ s mw N W lvs b l lv w' ∧ RefAt (SS A s mw W p) r w.heap.size ρ w' ∧ Keeps A wr w' := by
  obtain ⟨n1, n2, n3⟩ := h.num
  refine (shows5 h.live hG h.sp h.dom h.al hR hρ (fun i hi => .inl hi) h.sz h8 (by omega) (by omega) n1 (by omega)).mono ?_
  rintro e w' ⟨rfl, hl, k⟩
  exact ⟨rfl, h.keep hl k, hR.keep k (fun b _ hn e => hn (.inl e)) (fun _ _ e => e), k⟩

set_option maxHeartbeats 8000000 in
set_option maxRecDepth 100000 in
theorem found_no {we : World} (h : Tells w A d K C L σ s mw N W lvs b l lv we) (hG : Gl w) (h8 : 8 ≤ w.heap.size) (hR : RefAt (SS A s mw W p) r w.heap.size ρ we) (hρ : ρ.l = l) (htop : ρ.top ≤ lv) (hp : ρ.hp = false) (hd : ρ.hd = false) :
    Calls Tryz.prog 42 #[ptr s, ptr r] we (Found5 w A d K C L σ s mw N W lvs b l lv p r ρ we) := by
  have hlist := list5 h.sp h.num.1
  have HT : Hid (Tells w A d K C L σ s mw N W lvs b l lv we) := h
  have HR : Hid (RefAt (SS A s mw W p) r w.heap.size ρ we) := hR
  clear h hR
  unfold ptr at *
  go_enter Tryz.func42, Tryz.ntmps42
  go_wp2_with fail
  refine hlist.mono ?_
  rintro e w1 ⟨nv, ns, rfl, hns, hnl, hrow, k1⟩
  have R1 := HR.out.fresh k1
  have T1 := HT.out.fresh k1
  have c3 := R1.at 3 _ rfl
  have c8 := R1.at 8 _ rfl
  rw [hp] at c3
  rw [hd] at c8
  clear hlist hrow hns hnl
  go_wp2_with fail
  go_quiet (fail)
  have kq : Fresh w1 (w1.drewN nq) := (Keeps.refl _ _).drewN _
  have R2 := R1.fresh kq
  have T2 := T1.fresh kq
  have K2 : Fresh we (w1.drewN nq) := k1.trans kq
  have d2 := R2.at 2 _ rfl
  have d3 := R2.at 3 _ rfl
  have d8 := R2.at 8 _ rfl
  rw [hp] at d3
  rw [hd] at d8
  have f2 := R2.fz 2
  have f3 := R2.fz 3
  have f8 := R2.fz 8
  have HR2 : Hid (RefAt (SS A s mw W p) r w.heap.size ρ (w1.drewN nq)) := R2
  have HT2 : Hid (Tells w A d K C L σ s mw N W lvs b l lv (w1.drewN nq)) := T2
  clear R1 T1 R2 T2 c3 c8 kq k1
  generalize w1.drewN nq = w2 at *
  obtain ⟨R3, k3⟩ := HR2.out.calm
  have T3 := HT2.out.side (p := p) k3 (fun i e => HR2.out.own i (.inl e))
  have hsh := T3.shows hG h8 R3 hρ
  have K3 : Hid (Keeps (fun i => i = r) we (((w2.setCell ⟨r, 3, none⟩ (.bool false)).setCell ⟨r, 8, none⟩ (.bool false)).setCell ⟨r, 2, none⟩ (.bool false))) := K2.ofFresh.trans k3
  clear R3 T3 k3 K2
  unfold ptr at hsh
  go_wp2_with fail
  refine hsh.mono ?_
  rintro e w4 ⟨rfl, T4, R4, k4⟩
  have HE : Hid (Found5 w A d K C L σ s mw N W lvs b l lv p r ρ we (.returned (.bool true)) w4) := ⟨rfl, ρ.calm, hρ, rfl, rfl, rfl, htop, R4, T4, (K3.out.mono (fun i _ e => .inr (.inl e))).then k4 (fun i _ e => .inl e)⟩
  clear hsh T4 R4 k4
  go_wp2_with fail
  go_ret
  exact HE.out

end
end Go.Proofs.YtegbkpjcjlihmabGreatDoor

namespace Go.Proofs.YtegbkpjcjlihmabGreatDoor
open Go.RowKit Go.Maps Go.Sort Go.Lib

section
variable {w we : World} {A T : Nat → Prop} {d s mw N p r : Nat} {K : List Text} {C L : Nat} {σ : Dk} {W : Waits} {lvs lv : Int} {b : Bool} {l : List Wg} {ρ ρ' : Rs}

theorem Tells.below (h : Tells w A d K C L σ s mw N W lvs b l lv we) (hp : p < we.heap.size) : ∀ i, SS A s mw W p i → i < we.heap.size := fun i hi => by
  rcases hi with e | e | e | ⟨n, e⟩ | e
  · exact (h.live.1 i e).2
  · subst e; exact h.sp.lt
  · subst e; exact h.sp.wt.lt
  · obtain ⟨_, _, nn, c, M, _, h3, _⟩ := h.sp.lft n i e
    exact h3.lt
  · subst e; exact hp

/-- a mail that may have been put -/
def pml (ρ : Rs) : Ml := (ρ.pa.data.toList, ρ.pb.data.toList, ρ.pto, ρ.pd.data.toList)

set_option maxHeartbeats 8000000 in
set_option maxRecDepth 100000 in
theorem found_put0 (h : Tells w A d K C L σ s mw N W lvs b l lv we) (hG : Gl w) (h8 : 8 ≤ w.heap.size) (hR : RefAt (SS A s mw W p) r w.heap.size ρ we) (hρ : ρ.l = l) (htop : ρ.top ≤ lv) (hp : ρ.hp = true) (hd : ρ.hd = false) :
    Calls Tryz.prog 42 #[ptr s, ptr r] we (Found5 w A d K C L σ s mw N W lvs b l lv p r ρ we) := by
  subst hρ
  have hlist := list5 h.sp h.num.1
  have HT : Hid (Tells w A d K C L σ s mw N W lvs b ρ.l lv we) := h
  have HR : Hid (RefAt (SS A s mw W p) r w.heap.size ρ we) := hR
  have hil : (ids ρ.l).length = ρ.l.length := by unfold ids; rw [List.length_map]
  have HIL : Hid ((ids ρ.l).length = ρ.l.length) := hil
  have hD := h.dom
  have hWg := h.al.inv.wgs
  obtain ⟨ao, cap, hav⟩ := hR.form
  have hne : ((ρ.l.length : Int) == (ρ.l.length : Int) + 1) = false := beq_eq_false_iff_ne.2 (by omega)
  clear h hR hil
  unfold ptr at *
  go_enter Tryz.func42, Tryz.ntmps42
  go_wp2_with fail
  refine hlist.mono ?_
  rintro e w1 ⟨nv, ns, rfl, hns, hnl, hrow, k1⟩
  obtain rfl := hns.ids hD hWg
  have hrow' : w1.ownsRow we.heap.size 3 1 nv ρ.l.length ((ids ρ.l).map intV) := by
    have := hrow
    unfold RowI at this
    rwa [HIL.out] at this
  obtain ⟨na, nc, rfl, _, _, _⟩ := own_form hrow'
  have R1 := HR.out.fresh k1
  have T1 := HT.out.fresh k1
  have c0 := R1.at 0 _ rfl
  have c3 := R1.at 3 _ rfl
  have c8 := R1.at 8 _ rfl
  rw [hav] at c0
  rw [hp] at c3
  rw [hd] at c8
  clear hlist hrow hrow' hns hnl
  have hnum := HT.out.num
  go_wp2_with fail
  go_quiet (fail)
  have kq : Fresh w1 (w1.drewN nq) := (Keeps.refl _ _).drewN _
  have R2 := R1.fresh kq
  have T2 := T1.fresh kq
  have K2 : Fresh we (w1.drewN nq) := k1.trans kq
  have d0 := R2.at 0 _ rfl
  have d2 := R2.at 2 _ rfl
  have d3 := R2.at 3 _ rfl
  have d8 := R2.at 8 _ rfl
  rw [hav] at d0
  rw [hp] at d3
  rw [hd] at d8
  have f2 := R2.fz 2
  have f3 := R2.fz 3
  have f8 := R2.fz 8
  have HR2 : Hid (RefAt (SS A s mw W p) r w.heap.size ρ (w1.drewN nq)) := R2
  have HT2 : Hid (Tells w A d K C L σ s mw N W lvs b ρ.l lv (w1.drewN nq)) := T2
  clear R1 T1 R2 T2 c0 c3 c8 kq k1
  generalize w1.drewN nq = w2 at *
  obtain ⟨R3, k3⟩ := HR2.out.calm
  have T3 := HT2.out.side (p := p) k3 (fun i e => HR2.out.own i (.inl e))
  have hsh := T3.shows hG h8 R3 rfl
  have K3 : Hid (Keeps (fun i => i = r) we (((w2.setCell ⟨r, 3, none⟩ (.bool false)).setCell ⟨r, 8, none⟩ (.bool false)).setCell ⟨r, 2, none⟩ (.bool false))) := K2.ofFresh.trans k3
  clear R3 T3 k3 K2
  unfold ptr at hsh
  go_wp2_with fail
  refine hsh.mono ?_
  rintro e w4 ⟨rfl, T4, R4, k4⟩
  have HE : Hid (Found5 w A d K C L σ s mw N W lvs b ρ.l lv p r ρ we (.returned (.bool true)) w4) := ⟨rfl, ρ.calm, rfl, rfl, rfl, rfl, htop, R4, T4, (K3.out.mono (fun i _ e => .inr (.inl e))).then k4 (fun i _ e => .inl e)⟩
  clear hsh T4 R4 k4
  go_wp2_with fail
  go_ret
  exact HE.out

set_option maxHeartbeats 8000000 in
set_option maxRecDepth 100000 in
theorem found_put1 (h : Tells w A d K C L σ s mw N W lvs b (ρ.l ++ [(lv, pml ρ, once ρ.pto)]) lv we) (hpl : p < we.heap.size) (hG : Gl w) (h8 : 8 ≤ w.heap.size) (hR : RefAt (SS A s mw W p) r w.heap.size ρ we) (htop : ρ.top < lv) (hp : ρ.hp = true) (hd : ρ.hd = false) :
    Calls Tryz.prog 42 #[ptr s, ptr r] we (Found5 w A d K C L σ s mw N W lvs b (ρ.l ++ [(lv, pml ρ, once ρ.pto)]) lv p r ρ we) := by
  have hlist := list5 h.sp h.num.1
  have HT : Hid (Tells w A d K C L σ s mw N W lvs b (ρ.l ++ [(lv, pml ρ, once ρ.pto)]) lv we) := h
  have HR : Hid (RefAt (SS A s mw W p) r w.heap.size ρ we) := hR
  have hil : (ids (ρ.l ++ [(lv, pml ρ, once ρ.pto)])).length = ρ.l.length + 1 := by unfold ids; rw [List.length_map, List.length_append]; rfl
  have HIL : Hid ((ids (ρ.l ++ [(lv, pml ρ, once ρ.pto)])).length = ρ.l.length + 1) := hil
  have HLA : Hid (((ids (ρ.l ++ [(lv, pml ρ, once ρ.pto)])).map intV)[ρ.l.length]? = some (.int .i64 lv)) := by
    show _ = _
    unfold ids
    rw [List.getElem?_map, List.getElem?_map, List.getElem?_append_right (Nat.le_refl _), Nat.sub_self]; rfl
  have hD := h.dom
  have hWg := h.al.inv.wgs
  have hlv0 : 0 < lv := (hWg.mem (lv, pml ρ, once ρ.pto) (List.mem_append_right _ (List.mem_singleton.2 rfl))).1
  have hsz := h.sz (lv, pml ρ, once ρ.pto) (List.mem_append_right _ (List.mem_singleton.2 rfl))
  have hto : ρ.pto.length ≤ 1048576 := by
    have := toW_len ρ.pto
    unfold mlW pml at hsz
    simp only at hsz
    omega
  have hnum := h.num
  rw [List.length_append] at hnum
  have hnl0 : ρ.l.length ≤ 1099511624 := by have := hnum.2.1; simp at this; omega
  obtain ⟨ao, cap, hav⟩ := hR.form
  clear h hR hil hsz hnum
  unfold ptr at *
  go_enter Tryz.func42, Tryz.ntmps42
  go_wp2_with fail
  refine hlist.mono ?_
  rintro e w1 ⟨nv, ns, rfl, hns, hnl, hrow, k1⟩
  obtain rfl := hns.ids hD hWg
  have hrow' : w1.ownsRow we.heap.size 3 1 nv (ρ.l.length + 1) ((ids (ρ.l ++ [(lv, pml ρ, once ρ.pto)])).map intV) := by
    have := hrow
    unfold RowI at this
    rwa [HIL.out] at this
  obtain ⟨na, nc, rfl, _, _, hna⟩ := own_form hrow'
  obtain ⟨gn, rfl⟩ := hna (by omega)
  have hgnl : we.heap.size ≤ gn := (hrow'.lt gn rfl).1
  have cn1 := hrow'.cellAt ρ.l.length (by omega)
  rw [HLA.out] at cn1
  have R1 := HR.out.fresh k1
  have T1 := HT.out.fresh k1
  have c0 := R1.at 0 _ rfl
  have c3 := R1.at 3 _ rfl
  have c8 := R1.at 8 _ rfl
  rw [hav] at c0
  rw [hp] at c3
  rw [hd] at c8
  clear hlist hrow hrow' hns hnl HLA HIL
  go_wp2_with fail
  go_quiet (fail)
  have kq : Fresh w1 (w1.drewN nq) := (Keeps.refl _ _).drewN _
  have R2 := R1.fresh kq
  have T2 := T1.fresh kq
  have K2 : Fresh we (w1.drewN nq) := k1.trans kq
  have cn2 := cell_keeps kq cn1 (fun e => e)
  have HR2 : Hid (RefAt (SS A s mw W p) r w.heap.size ρ (w1.drewN nq)) := R2
  have HT2 : Hid (Tells w A d K C L σ s mw N W lvs b (ρ.l ++ [(lv, pml ρ, once ρ.pto)]) lv (w1.drewN nq)) := T2
  have HK2 : Hid (Fresh we (w1.drewN nq)) := K2
  clear R1 T1 R2 T2 c0 c3 c8 kq k1 cn1 K2
  generalize w1.drewN nq = w2 at *
  have d0 := HR2.out.at 0 _ rfl
  have d3 := HR2.out.at 3 _ rfl
  rw [hav] at d0
  rw [hp] at d3
  have hk2 := HK2.out.size
  have R2d := HR2.out.fresh ((Keeps.refl (fun _ => False) w2).drew)
  have htook := took5 R2d (fun i hi => (HT2.out.fresh ((Keeps.refl (fun _ => False) w2).drew)).below (p := p) (by show p < w2.heap.size; omega) i hi) lv ρ.pa ρ.pb ρ.pd ρ.pt ρ.pto R2d.put (by omega) (by omega) htop hlv0
  have HC : Hid (w2.cell? ⟨gn, ρ.l.length, none⟩ = some (.int .i64 lv) ∧ w2.cell? ⟨r, 4, none⟩ = some (.string ρ.pa) ∧ w2.cell? ⟨r, 5, none⟩ = some (.string ρ.pb) ∧ w2.cell? ⟨r, 6, none⟩ = some ρ.pt ∧ w2.cell? ⟨r, 7, none⟩ = some (.string ρ.pd)) := ⟨cn2, HR2.out.at 4 _ rfl, HR2.out.at 5 _ rfl, HR2.out.at 6 _ rfl, HR2.out.at 7 _ rfl⟩
  obtain ⟨e0, e4, e5, e6, e7⟩ := HC.out
  clear R2d cn2
  unfold ptr mailV at htook
  have hgn : we.heap.size ≤ gn := hgnl
  have HGN : Hid (¬ (gn = r ∨ ρ.av.ownBlock = some gn)) := fun e => by
    rcases e with e | e
    · have := HR.out.lt; omega
    · have := (HR.out.row.lt gn e).2; omega
  have hidx : (0 : Int) ≤ (ρ.l.length : Int) := by omega
  have hidx2 : (ρ.l.length : Int) < (ρ.l.length : Int) + 1 := by omega
  have hidx3 : (ρ.l.length : Int) < ((ρ.l.length + 1 : Nat) : Int) := by omega
  have hw3 : IntKind.i64.wrap (ρ.l.length : Int) = (ρ.l.length : Int) := IntWalk.i64_in _ ⟨by omega, by omega⟩
  go_upto_region 9 with fail
  go_region_held3 (fun W1 => W1.cell? ⟨gn, ρ.l.length, none⟩ = some (.int .i64 lv) ∧ W1.cell? ⟨r, 4, none⟩ = some (.string ρ.pa) ∧ W1.cell? ⟨r, 5, none⟩ = some (.string ρ.pb) ∧ W1.cell? ⟨r, 6, none⟩ = some ρ.pt ∧ W1.cell? ⟨r, 7, none⟩ = some (.string ρ.pd)) (first | exact HC.out | exact HC3.out) (first | (go_at_call 23; refine htook.mono ?_; rintro e w3 ⟨rfl, av, y, R3, k3⟩; have HC3 : Hid (w3.cell? ⟨gn, ρ.l.length, none⟩ = some (.int .i64 lv) ∧ w3.cell? ⟨r, 4, none⟩ = some (.string ρ.pa) ∧ w3.cell? ⟨r, 5, none⟩ = some (.string ρ.pb) ∧ w3.cell? ⟨r, 6, none⟩ = some ρ.pt ∧ w3.cell? ⟨r, 7, none⟩ = some (.string ρ.pd)) := ⟨cell_keeps k3 (show w2.drew.cell? ⟨gn, ρ.l.length, none⟩ = _ from e0) HGN.out, R3.at 4 _ rfl, R3.at 5 _ rfl, R3.at 6 _ rfl, R3.at 7 _ rfl⟩))
  have HR3 : Hid (RefAt (SS A s mw W p) r w.heap.size (ρ.took av y (lv, pml ρ, once ρ.pto)) w3) := R3
  have HK3 : Hid (Keeps (fun i => i = r ∨ ρ.av.ownBlock = some i) we w3) := (HK2.out.ofFresh).trans (((Keeps.refl _ w2).drew).trans k3)
  have HT3 : Hid (Tells w A d K C L σ s mw N W lvs b (ρ.l ++ [(lv, pml ρ, once ρ.pto)]) lv w3) := (HT2.out.fresh ((Keeps.refl (fun _ => False) w2).drew)).side (p := p) k3 (fun i e => HR2.out.own i e)
  clear k3 R3 htook HC3 e0 e4 e5 e6 e7 d0 d3 HC
  have d2 := HR3.out.at 2 _ rfl
  have d3 := HR3.out.at 3 _ rfl
  have d8 := HR3.out.at 8 _ rfl
  have f2 := HR3.out.fz 2
  have f3 := HR3.out.fz 3
  have f8 := HR3.out.fz 8
  obtain ⟨R4, k4⟩ := HR3.out.calm
  have T4 := HT3.out.side (p := p) k4 (fun i e => HR3.out.own i (.inl e))
  have hsh := T4.shows hG h8 R4 rfl
  have K4 : Hid (Keeps (fun i => i = r ∨ ρ.av.ownBlock = some i) we (((w3.setCell ⟨r, 3, none⟩ (.bool false)).setCell ⟨r, 8, none⟩ (.bool false)).setCell ⟨r, 2, none⟩ (.bool false))) := HK3.out.then k4 (fun i _ e => .inl e)
  clear R4 T4 k4
  unfold ptr at hsh
  go_wp2_with fail
  refine hsh.mono ?_
  rintro e w5 ⟨rfl, T5, R5, k5⟩
  have HE : Hid (Found5 w A d K C L σ s mw N W lvs b (ρ.l ++ [(lv, pml ρ, once ρ.pto)]) lv p r ρ we (.returned (.bool true)) w5) := ⟨rfl, _, rfl, rfl, rfl, rfl, Int.le_refl _, R5, T5, (K4.out.mono (fun i _ e => .inr e)).then k5 (fun i _ e => .inl e)⟩
  clear hsh T5 R5 k5
  go_wp2_with fail
  go_ret
  exact HE.out

end
end Go.Proofs.YtegbkpjcjlihmabGreatDoor

namespace Go.Proofs.YtegbkpjcjlihmabGreatDoor
open Go.RowKit Go.Maps Go.Sort Go.Lib

theorem byId_none {l : List Wg} {id : Int} (h : byId l id = none) : id ∉ ids l := fun hn => by
  obtain ⟨g, hg, e⟩ := List.mem_map.1 hn
  unfold byId at h
  have := List.find?_eq_none.1 h g hg
  simp at this
  exact this e

section
variable {w we : World} {A T : Nat → Prop} {d s mw N p r : Nat} {K : List Text} {C L : Nat} {σ : Dk} {W : Waits} {lvs lv : Int} {b : Bool} {l : List Wg} {ρ ρ' : Rs}

/-- Mail, as far as it is there -/
theorem Tells.mail (h : Tells w A d K C L σ s mw N W lvs b l lv we) (hG : Gl w) (h8 : 8 ≤ w.heap.size) (id : Int) (hid : okI id) :
    Calls Tryz.prog 43 #[ptr s, .int .i64 id] we fun e w' => (∃ (fa fb dd : ByteArray) (to_ : Option Addr) (n c : Nat), e = .returned (.tuple #[.agg #[.string fa, .string fb, .slice to_ n c, .string dd], .bool (byId l id).isSome])) ∧ Tells w A d K C L σ s mw N W lvs b l lv w' ∧ Keeps A we w' := by
  have hnum := h.num
  refine (mail5 h.live hG h.sp h8 (by omega) id hid).mono ?_
  rintro e w' ⟨hc, hl, k⟩
  refine ⟨?_, h.keep hl k, k⟩
  cases hb : byId l id with
  | none =>
    have hn := h.dom.gone (byId_none hb)
    rcases hc with ⟨_, rfl⟩ | ⟨hs, _⟩
    · exact ⟨_, _, _, none, 0, 0, rfl⟩
    · rw [hn] at hs; cases hs
  | some v =>
    obtain ⟨hv, e1⟩ := byId_some hb
    have hs := (h.dom id).2 (by rw [← e1]; exact List.mem_map_of_mem hv)
    rcases hc with ⟨hn, _⟩ | ⟨_, fa, fb, dd, tv, tl, rr, rfl, _, hrow⟩
    · rw [hn] at hs; cases hs
    · obtain ⟨ma, mc, rfl, _, _, _⟩ := own_form hrow
      exact ⟨fa, fb, dd, ma, _, mc, rfl⟩

/-- Left, as far as its length goes -/
theorem Tells.left (h : Tells w A d K C L σ s mw N W lvs b l lv we) (id : Int) (hid : okI id) :
    Calls Tryz.prog 45 #[ptr s, .int .i64 id] we fun e w' => (∃ (ao : Option Addr) (c : Nat), e = .returned (.slice ao (((byId l id).map (fun v => v.2.2.length)).getD 0) c)) ∧ Fresh we w' := by
  have hnum := h.num
  refine (left5 h.sp (by omega) id hid).mono ?_
  rintro e w' ⟨hc, k⟩
  refine ⟨?_, k⟩
  have hWg := h.al.inv.wgs
  cases hb : byId l id with
  | none =>
    have hn := h.dom.gone (byId_none hb)
    rcases hc with ⟨_, ao, c, rfl⟩ | ⟨kb, M, v, ls, hk, _⟩
    · exact ⟨ao, c, rfl⟩
    · rw [hn] at hk; cases hk
  | some v =>
    obtain ⟨hv, e1⟩ := byId_some hb
    have hs := (h.dom id).2 (by rw [← e1]; exact List.mem_map_of_mem hv)
    rcases hc with ⟨hn, _⟩ | ⟨kb, M, kv, ls, hk, ⟨g, hg, e2, rfl⟩, rfl, hO, hrow⟩
    · rw [hn] at hs; cases hs
    · obtain rfl := ids_inj hWg.up hg hv (e2.trans e1.symm)
      obtain ⟨_, _, _, _, g5⟩ := hWg.mem g hg
      have hsz := h.sz g hg
      have htl : (mlTo g.2.1).length ≤ 1048576 := by
        have := toW_len g.2.1.2.2.1
        unfold mlW at hsz
        show g.2.1.2.2.1.length ≤ _
        omega
      have hto : ∀ q ∈ mlTo g.2.1, okA q := fun q hq => by
        have h1 : q.1.length + q.2.length + 1 ≤ toW g.2.1.2.2.1 := toW_mem hq
        unfold mlW at hsz
        unfold okA maxLen
        omega
      obtain rfl : ls = g.2.2 := hO.unique (leftM_ok g5 (by omega)) (leftM_ordered g5 (fun p hp => hto p (once_in (g5.subset hp))))
      obtain ⟨ka, kc, rfl, _, _, _⟩ := own_form (show w'.ownsRow we.heap.size 56 2 kv g.2.2.length (g.2.2.flatMap encL) from hrow)
      exact ⟨ka, kc, rfl⟩

set_option maxHeartbeats 16000000 in
set_option maxRecDepth 100000 in
theorem found_done (h : Tells w A d K C L σ s mw N W lvs b l lv we) (hpl : p < we.heap.size) (hG : Gl w) (h8 : 8 ≤ w.heap.size) (hR : RefAt (SS A s mw W p) r w.heap.size ρ we) (htop : ρ.top ≤ lv) (hp : ρ.hp = false) (hd : ρ.hd = true) (hW0 : Wgs ρ.l lv)
    {g : Wg} (hg : g ∈ ρ.l) (hid : g.1 = ρ.id) (ha : (ρ.ta.data.toList, ρ.tb.data.toList) ∈ g.2.2) (hl : l = ρ.l ∨ l = gone ρ.l ρ.id (ρ.ta.data.toList, ρ.tb.data.toList)) (hn : ρ.l.length ≤ 1099511625) (hlf : ∀ g ∈ ρ.l, g.2.2.length ≤ 1099511625) :
    Calls Tryz.prog 42 #[ptr s, ptr r] we (Found5 w A d K C L σ s mw N W lvs b l lv p r ρ we) := by
  have hlist := list5 h.sp h.num.1
  have HT : Hid (Tells w A d K C L σ s mw N W lvs b l lv we) := h
  have HR : Hid (RefAt (SS A s mw W p) r w.heap.size ρ we) := hR
  obtain ⟨ao, cap, hav⟩ := hR.form
  obtain ⟨g1, g2, g3, g4, g5⟩ := hW0.mem g hg
  have hhi := hW0.hi
  have hidk : okI ρ.id := ⟨by omega, by omega⟩
  have HG : Hid (g ∈ ρ.l ∧ g.1 = ρ.id ∧ (ρ.ta.data.toList, ρ.tb.data.toList) ∈ g.2.2) := ⟨hg, hid, ha⟩
  have HL : Hid (l = ρ.l ∨ l = gone ρ.l ρ.id (ρ.ta.data.toList, ρ.tb.data.toList)) := hl
  have HW0 : Hid (Wgs ρ.l lv) := hW0
  have HLF : Hid (∀ g ∈ ρ.l, g.2.2.length ≤ 1099511625) := hlf
  have HID : Hid (g.1 = ρ.id) := hid
  clear h hR hg hid ha hl hW0 hlf g1 g2 g3 g4 g5
  unfold ptr at *
  go_enter Tryz.func42, Tryz.ntmps42
  go_wp2_with fail
  refine hlist.mono ?_
  rintro e w1 ⟨nv, ns, rfl, hns, hnl, hrow, k1⟩
  obtain ⟨na, nc, rfl, _, _, _⟩ := own_form (show w1.ownsRow we.heap.size 3 1 nv ns.length (ns.map intV) from hrow)
  have HR1 : Hid (RefAt (SS A s mw W p) r w.heap.size ρ w1) := HR.out.fresh k1
  have HT1 : Hid (Tells w A d K C L σ s mw N W lvs b l lv w1) := HT.out.fresh k1
  have HK1 : Hid (Fresh we w1) := k1
  have hk1 := k1.size
  have c8 := HR1.out.at 8 _ rfl
  rw [hd] at c8
  have c9 := HR1.out.at 9 _ rfl
  have c10 := HR1.out.at 10 _ rfl
  have c11 := HR1.out.at 11 _ rfl
  have HC : Hid (∀ W1, Fresh w1 W1 → W1.cell? ⟨r, 8, none⟩ = some (.bool true) ∧ W1.cell? ⟨r, 9, none⟩ = some (.int .i64 ρ.id) ∧ W1.cell? ⟨r, 10, none⟩ = some (.string ρ.ta) ∧ W1.cell? ⟨r, 11, none⟩ = some (.string ρ.tb)) := fun W1 k => ⟨cell_keeps k c8 (fun e => e), cell_keeps k c9 (fun e => e), cell_keeps k c10 (fun e => e), cell_keeps k c11 (fun e => e)⟩
  have his := is5 (HR1.out.fresh ((Keeps.refl (fun _ => False) w1).drew)) ρ.id ρ.ta ρ.tb (by omega) (fun g hg => by have := HLF.out g hg; omega) HW0.out.up
  clear hlist hrow hns hnl k1
  unfold ptr at his
  go_wp2_with fail
  go_region_held3 (fun W1 => W1.cell? ⟨r, 8, none⟩ = some (.bool true) ∧ W1.cell? ⟨r, 9, none⟩ = some (.int .i64 ρ.id) ∧ W1.cell? ⟨r, 10, none⟩ = some (.string ρ.ta) ∧ W1.cell? ⟨r, 11, none⟩ = some (.string ρ.tb)) (first | exact HC.out _ ((Keeps.refl (fun _ => False) w1).drew) | exact HC.out _ kA) (first | (go_at_call 79; refine his.mono ?_; rintro e w2 ⟨⟨bb, rfl, hbb⟩, k2⟩; have kA : Fresh w1 w2 := ((Keeps.refl (fun _ => False) w1).drew).trans k2))
  have hbt : bb = true := hbb.2 ⟨g, HG.out.1, HG.out.2.1, HG.out.2.2⟩
  subst hbt
  have HR2 : Hid (RefAt (SS A s mw W p) r w.heap.size ρ w2) := HR1.out.fresh kA
  have HT2 : Hid (Tells w A d K C L σ s mw N W lvs b l lv w2) := HT1.out.fresh kA
  have HK2 : Hid (Fresh we w2) := HK1.out.trans kA
  obtain ⟨d8, d9, d10, d11⟩ := HC.out w2 kA
  have hfind := find5 HR2.out ρ.id (by omega)
  clear c8 c9 c10 c11 his k2 hbb kA HC
  unfold ptr at hfind
  go_wp2_with fail
  refine hfind.mono ?_
  rintro e w3 ⟨n, rfl, hw, hcase⟩
  have hw := hw.symm
  subst hw
  clear hfind
  rcases hcase with ⟨-, hno⟩ | ⟨i, g', rfl, hg', hid'⟩
  · exact absurd HG.out.2.1 (hno g HG.out.1)
  have hgg := ids_inj HW0.out.up HG.out.1 (List.mem_of_getElem? hg') (HG.out.2.1.trans hid'.symm)
  subst hgg
  have HGI : Hid (ρ.l[i]? = some g) := hg'
  have hi := (List.getElem?_eq_some_iff.1 hg').1
  have hmail := HT2.out.mail hG h8 ρ.id hidk
  clear hg' hid'
  unfold ptr at hmail
  go_wp2_with fail
  refine hmail.mono ?_
  rintro e w4 ⟨⟨fa, fb, dd, to4, n4, c4, rfl⟩, T4, k4⟩
  clear hmail
  have f5 : Fresh w4 (w4.alloc (.cells #[.string fa, .string fb, .slice to4 n4 c4, .string dd] 59)) := (Keeps.refl _ _).alloc _
  have HT5 : Hid (Tells w A d K C L σ s mw N W lvs b l lv (w4.alloc (.cells #[.string fa, .string fb, .slice to4 n4 c4, .string dd] 59))) := T4.fresh f5
  have HR5 : Hid (RefAt (SS A s mw W p) r w.heap.size ρ (w4.alloc (.cells #[.string fa, .string fb, .slice to4 n4 c4, .string dd] 59))) := (HR2.out.keep k4 (fun b _ hn e => hn (.inl e)) (fun _ _ e => e)).fresh f5
  have HK5 : Hid (Keeps A we (w4.alloc (.cells #[.string fa, .string fb, .slice to4 n4 c4, .string dd] 59))) := (HK2.out.ofFresh.trans k4).trans f5.ofFresh
  have hleft := HT5.out.left ρ.id hidk
  clear T4 k4 f5 d8 d9 d10 d11
  unfold ptr at hleft
  go_upto_region 5 with fail
  generalize w4.alloc (.cells #[.string fa, .string fb, .slice to4 n4 c4, .string dd] 59) = w5 at *
  have d9 := HR5.out.at 9 _ rfl
  go_wp2_with fail
  refine hleft.mono ?_
  rintro e w6 ⟨⟨ka, kc, rfl⟩, k6⟩
  clear hleft d9
  have HT6 : Hid (Tells w A d K C L σ s mw N W lvs b l lv w6) := HT5.out.fresh k6
  have HR6 : Hid (RefAt (SS A s mw W p) r w.heap.size ρ w6) := HR5.out.fresh k6
  have HK6 : Hid (Keeps A we w6) := HK5.out.trans k6.ofFresh
  clear k6
  obtain ⟨bx, x, rfl, hx, hok, hc⟩ := HR6.out.rd hav HGI.out
  obtain ⟨lao, lcap, hl1, hl2⟩ := hok.lf.form
  have q5 := hc 5 _ rfl
  rw [hl1] at q5
  have d0 := HR6.out.at 0 _ rfl
  rw [hav] at d0
  have z0 : (0 : Int) ≤ (i : Int) := by omega
  have z1 : (i : Int) < (ρ.l.length : Int) := by omega
  clear hx hok hc hl2 hl1
  have hcases : (byId l ρ.id = some g ∧ l = ρ.l) ∨ (l = gone ρ.l ρ.id (ρ.ta.data.toList, ρ.tb.data.toList) ∧ (byId l ρ.id = none ∨ ∃ v, byId l ρ.id = some v ∧ v.2.2.length ≠ g.2.2.length)) := by
    rcases HL.out with e | e
    · refine .inl ⟨?_, e⟩
      rw [e, ← HID.out]
      exact byId_of HW0.out.up HG.out.1
    · refine .inr ⟨e, ?_⟩
      rw [e, ← HID.out]
      rcases gone_tell HW0.out HG.out.1 HG.out.2.2 with ⟨_, e2⟩ | ⟨_, v, e2, rfl, e3⟩
      · exact .inl e2
      · exact .inr ⟨_, e2, fun e4 => by have e3 : (g.2.2.filter _).length + 1 = g.2.2.length := e3; have e4 : (g.2.2.filter _).length = g.2.2.length := e4; omega⟩
  generalize hokq : (byId l ρ.id).isSome = okq at *
  generalize hnnq : ((byId l ρ.id).map (fun v => v.2.2.length)).getD 0 = nnq at *
  rcases hcases with ⟨hb, hle⟩ | ⟨hle, hb⟩
  · have e1 : okq = true := by rw [← hokq, hb]; rfl
    have e2 : nnq = g.2.2.length := by rw [← hnnq, hb]; rfl
    subst e1 e2
    have HLE : Hid (ρ.calm.l = l) := hle.symm
    have d3' := HR6.out.at 3 _ rfl
    rw [hp] at d3'
    clear hokq hnnq hb hle
    generalize w6 = W7 at *
    have HR7 : Hid (RefAt (SS A s mw W p) r w.heap.size ρ W7) := HR6.out
    have HT7 : Hid (Tells w A d K C L σ s mw N W lvs b l lv W7) := HT6.out
    have HK7 : Hid (Keeps (fun i => A i ∨ i = r ∨ ρ.av.ownBlock = some i) we W7) := HK6.out.mono (fun i _ e => .inl e)
    have d2 := HR7.out.at 2 _ rfl
    have d3 := HR7.out.at 3 _ rfl
    have d8 := HR7.out.at 8 _ rfl
    have f2 := HR7.out.fz 2
    have f3 := HR7.out.fz 3
    have f8 := HR7.out.fz 8
    obtain ⟨R8, k8⟩ := HR7.out.calm
    have T8 := HT7.out.side (p := p) k8 (fun i e => HR7.out.own i (.inl e))
    have hsh := T8.shows hG h8 R8 HLE.out
    have K8 : Hid (Keeps (fun i => A i ∨ i = r ∨ ρ.av.ownBlock = some i) we (((W7.setCell ⟨r, 3, none⟩ (.bool false)).setCell ⟨r, 8, none⟩ (.bool false)).setCell ⟨r, 2, none⟩ (.bool false))) := HK7.out.then k8 (fun i _ e => .inr (.inl e))
    clear R8 T8 k8
    unfold ptr at hsh
    go_wp2_with fail
    refine hsh.mono ?_
    rintro e w9 ⟨rfl, T9, R9, k9⟩
    have HE : Hid (Found5 w A d K C L σ s mw N W lvs b l lv p r ρ we (.returned (.bool true)) w9) := ⟨rfl, _, HLE.out, rfl, rfl, rfl, htop, R9, T9, K8.out.then k9 (fun i _ e => .inl e)⟩
    clear hsh T9 R9 k9
    go_wp2_with fail
    go_ret
    exact HE.out
  · have hgone := gone5 (HR6.out.fresh ((Keeps.refl (fun _ => False) w6).drew)) (fun i hi => (HT6.out.fresh ((Keeps.refl (fun _ => False) w6).drew)).below (p := p) (by have := HK6.out.size; show p < w6.heap.size; omega) i hi) ρ.id ρ.ta ρ.tb (by omega) (fun g hg => by have := HLF.out g hg; omega)
    have HC6 : Hid (w6.cell? ⟨r, 9, none⟩ = some (.int .i64 ρ.id) ∧ w6.cell? ⟨r, 10, none⟩ = some (.string ρ.ta) ∧ w6.cell? ⟨r, 11, none⟩ = some (.string ρ.tb)) := ⟨HR6.out.at 9 _ rfl, HR6.out.at 10 _ rfl, HR6.out.at 11 _ rfl⟩
    have hcond : okq = false ∨ (okq = true ∧ ((nnq : Int) == (g.2.2.length : Int)) = false) := by
      rcases hb with hb | ⟨v, hb, hv⟩
      · exact .inl (by rw [← hokq, hb]; rfl)
      · refine .inr ⟨by rw [← hokq, hb]; rfl, beq_eq_false_iff_ne.2 (fun e => hv ?_)⟩
        have : nnq = v.2.2.length := by rw [← hnnq, hb]; rfl
        omega
    have HLE0 : Hid (l = gone ρ.l ρ.id (ρ.ta.data.toList, ρ.tb.data.toList)) := hle
    clear hokq hnnq hb hle
    unfold ptr at hgone
    rcases hcond with rfl | ⟨rfl, hneq⟩
    all_goals (
      go_wp2_with fail
      go_region_held3 (fun W1 => W1.cell? ⟨r, 9, none⟩ = some (.int .i64 ρ.id) ∧ W1.cell? ⟨r, 10, none⟩ = some (.string ρ.ta) ∧ W1.cell? ⟨r, 11, none⟩ = some (.string ρ.tb)) (first | exact HC6.out | exact HC7.out) (first | (go_at_call 80; refine hgone.mono ?_; rintro e W7 ⟨rfl, ⟨av, xs, R7⟩, k7⟩; have HC7 : Hid (W7.cell? ⟨r, 9, none⟩ = some (.int .i64 ρ.id) ∧ W7.cell? ⟨r, 10, none⟩ = some (.string ρ.ta) ∧ W7.cell? ⟨r, 11, none⟩ = some (.string ρ.tb)) := ⟨R7.at 9 _ rfl, R7.at 10 _ rfl, R7.at 11 _ rfl⟩))
      have HLE : Hid ((ρ.went av xs ρ.id (ρ.ta.data.toList, ρ.tb.data.toList)).calm.l = l) := HLE0.out.symm
      have d3' : W7.cell? ⟨r, 3, none⟩ = some (.bool ρ.hp) := R7.at 3 _ rfl
      rw [hp] at d3'
      have HR7 : Hid (RefAt (SS A s mw W p) r w.heap.size (ρ.went av xs ρ.id (ρ.ta.data.toList, ρ.tb.data.toList)) W7) := R7
      have HT7 : Hid (Tells w A d K C L σ s mw N W lvs b l lv W7) := (HT6.out.fresh ((Keeps.refl (fun _ => False) w6).drew)).side (p := p) k7 (fun i e => HR6.out.own i e)
      have HK7 : Hid (Keeps (fun i => A i ∨ i = r ∨ ρ.av.ownBlock = some i) we W7) := (HK6.out.drew.mono (fun i _ e => .inl e)).then k7 (fun i _ e => .inr e)
      clear R7 k7 hgone HC7
      have d2 := HR7.out.at 2 _ rfl
      have d8 := HR7.out.at 8 _ rfl
      have f2 := HR7.out.fz 2
      have f3 := HR7.out.fz 3
      have f8 := HR7.out.fz 8
      obtain ⟨R8, k8⟩ := HR7.out.calm
      have T8 := HT7.out.side (p := p) k8 (fun i e => HR7.out.own i (.inl e))
      have hsh := T8.shows hG h8 R8 HLE.out
      have K8 : Hid (Keeps (fun i => A i ∨ i = r ∨ ρ.av.ownBlock = some i) we (((W7.setCell ⟨r, 3, none⟩ (.bool false)).setCell ⟨r, 8, none⟩ (.bool false)).setCell ⟨r, 2, none⟩ (.bool false))) := HK7.out.then k8 (fun i _ e => .inr (.inl e))
      clear R8 T8 k8
      unfold ptr at hsh
      go_wp2_with fail
      refine hsh.mono ?_
      rintro e w9 ⟨rfl, T9, R9, k9⟩
      have HE : Hid (Found5 w A d K C L σ s mw N W lvs b l lv p r ρ we (.returned (.bool true)) w9) := ⟨rfl, _, HLE.out, rfl, rfl, rfl, htop, R9, T9, K8.out.then k9 (fun i _ e => .inl e)⟩
      clear hsh T9 R9 k9
      go_wp2_with fail
      go_ret
      exact HE.out)

end
end Go.Proofs.YtegbkpjcjlihmabGreatDoor
