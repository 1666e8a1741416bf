/-
  SpoolMoved: its walk.
-/
import Derived.Test.YtegbkpjcjlihmabGreatDoorIn
namespace Go.Proofs.YtegbkpjcjlihmabGreatDoor
open Go.RowKit Go.Maps Go.Sort Go.Lib

set_option maxHeartbeats 8000000 in
set_option maxRecDepth 100000 in
theorem smoved_law (w0 : World) (hG0 : Gl w0) (h80 : 8 ≤ w0.heap.size) (v : Value) (os : List OpS) (hs0 : Script8 w0 v os) (hf0 : ∀ o ∈ os, o.fits w0) (hl : (os.map OpS.load).sum ≤ 1048576) (fa fb dd : ByteArray) (mao : Option Addr) (mcap : Nat) (tl : List Ltr) (hmw : mlW (fa.data.toList, fb.data.toList, tl, dd.data.toList) ≤ 1048576) (hmin : AdAt w0 (fun q => w0.heap.size ≤ q) (.slice mao tl.length mcap) tl) :
    Calls Tryz.prog 4 #[v, mailV fa fb (.slice mao tl.length mcap) dd] w0 fun e w' => e = .returned (.bool true) ∧ Fresh w0 w' := by
  have fb0 : Fresh w0 (w0.alloc (.cells #[.string fa, .string fb, .slice mao tl.length mcap, .string dd] 30)) := (Keeps.refl _ _).alloc _
  have HX0 : Hid ((w0.alloc (.cells #[.string fa, .string fb, .slice mao tl.length mcap, .string dd] 30)).heap[w0.heap.size]? = some (.cells #[.string fa, .string fb, .slice mao tl.length mcap, .string dd] 30)) := heap_new _ _
  have hG := hG0.keep fb0 (fun _ _ e => e)
  have h8 : 8 ≤ (w0.alloc (.cells #[.string fa, .string fb, .slice mao tl.length mcap, .string dd] 30)).heap.size := Nat.le_trans h80 fb0.size
  have hs := hs0.later fb0
  have hf : ∀ o ∈ os, o.fits (w0.alloc (.cells #[.string fa, .string fb, .slice mao tl.length mcap, .string dd] 30)) := fun o ho => OpS.later (hf0 o ho) fb0
  have HMI : Hid (AdAt (w0.alloc (.cells #[.string fa, .string fb, .slice mao tl.length mcap, .string dd] 30)) (fun q => (w0.alloc (.cells #[.string fa, .string fb, .slice mao tl.length mcap, .string dd] 30)).heap.size ≤ q) (.slice mao tl.length mcap) tl) := hmin.later fb0
  have HF0 : Hid (Fresh w0 (w0.alloc (.cells #[.string fa, .string fb, .slice mao tl.length mcap, .string dd] 30))) := fb0
  clear hmin fb0 hf0 hs0 hG0 h80
  obtain ⟨ao, cap, rfl, hc1, hc2, hao⟩ := hs
  have hlen := len_loadS os
  have hcost := cost_loadS os
  have hnew := newP (Keeps.refl (fun _ => False) (w0.alloc (.cells #[.string fa, .string fb, .slice mao tl.length mcap, .string dd] 30))) hG h8
  have HF : Hid (∀ o ∈ os, o.fits (w0.alloc (.cells #[.string fa, .string fb, .slice mao tl.length mcap, .string dd] 30))) := hf
  clear hf
  unfold ptr mailV at *
  go_enter Tryz.func4, Tryz.ntmps4
  go_upto_region 1 with fail
  generalize w0.alloc (.cells #[.string fa, .string fb, .slice mao tl.length mcap, .string dd] 30) = w at *
  go_wp2_with fail
  refine hnew.mono ?_
  rintro e w1 ⟨p, d, rfl, hn0⟩
  have HP0 : Hid (∃ stop, PNext5 w 0 p d 2 0 stop w1) := hn0
  clear hnew hn0
  go_wp2_with fail
  go_loopw [6] (fun t4 wr => ∃ i : Nat, i ≤ os.length ∧ t4 = .int .i64 i ∧ ∃ stop, PNext5 w i p d (2 + 10 * i) ((os.take i).map OpS.cost).sum stop wr) (fun t4 _ => os.length - (intOf t4).toNat)
  case atStart => exact ⟨0, Nat.zero_le _, rfl, HP0.out⟩
  case round =>
    obtain ⟨i, hi, rfl, hpa⟩ := hrel
    have HP : Hid (∃ stop, PNext5 w i p d (2 + 10 * i) ((os.take i).map OpS.cost).sum stop wr) := hpa
    clear hpa
    have hct := cost_takeS os i
    by_cases hlt : i < os.length
    · obtain ⟨o, ho⟩ : ∃ o, os[i]? = some o := ⟨os[i], List.getElem?_eq_getElem hlt⟩
      obtain ⟨b, off, rfl, hcells⟩ := hao (by omega)
      have hom := List.mem_of_getElem? ho
      have HT : Hid (((os.take (i + 1)).map OpS.cost).sum = ((os.take i).map OpS.cost).sum + o.cost) := by
        show _ = _
        rw [List.take_add_one, ho]; simp
      have hof := HF.out o hom
      obtain ⟨stop, hpn⟩ := HP.out
      have hstep := step5 hpn hG h8 (by omega) (by omega) (by omega) o.kind o.fa o.fb o.tv o.dd o.nn o.mm o.sv o.tl o.ts hof
      obtain ⟨q0, q1, q2, q3, q4, q5, q6, q7⟩ := hcells i o ho
      have fw := hpn.frame
      have q0 := cell_keeps fw q0 (fun e => e)
      have q1 := cell_keeps fw q1 (fun e => e)
      have q2 := cell_keeps fw q2 (fun e => e)
      have q3 := cell_keeps fw q3 (fun e => e)
      have q4 := cell_keeps fw q4 (fun e => e)
      have q5 := cell_keeps fw q5 (fun e => e)
      have q6 := cell_keeps fw q6 (fun e => e)
      have q7 := cell_keeps fw q7 (fun e => e)
      obtain ⟨ao1, cap1, htv, _, _⟩ := hof.to_
      obtain ⟨tao, tcap, hsv, _, _, _⟩ := hof.ints (fun _ => False) (fun _ e => e.elim)
      have HE : Hid (((os.take i).map OpS.cost).sum + (44 * mlW (o.fa.data.toList, o.fb.data.toList, o.tl, o.dd.data.toList) + 100) = ((os.take (i + 1)).map OpS.cost).sum) := HT.out.symm
      rw [htv] at q3 hstep
      rw [hsv] at q7 hstep
      have z0 : (0 : Int) ≤ (i : Int) := by omega
      have z1 : (i : Int) < (os.length : Int) := by omega
      unfold ptr opV5 at hstep
      clear ho hcells hom hof fw hcost hpn HP htv hsv hct HT
      go_wp2_with fail
      refine hstep.mono ?_
      rintro e w3 ⟨rfl, stop', hn⟩
      have HN : Hid (∃ stop, PNext5 w (i + 1) p d (2 + 10 * (i + 1)) ((os.take (i + 1)).map OpS.cost).sum stop w3) := ⟨stop', by rw [HE.out] at hn; exact hn.mono (by omega) (Nat.le_refl _)⟩
      clear hstep hn q0 q1 q2 q3 q4 q5 q6 q7
      go_wp2_with fail
      go_roundw
      case rel => exact ⟨i + 1, by omega, by go_num, HN.out⟩
      case measure => simp [intOf]; omega
    · have ei : i = os.length := by omega
      have z1 : ¬ (i : Int) < (os.length : Int) := by omega
      obtain ⟨stop, A, σ, s, mw, N, W, lv, b, r, ρ, hps0⟩ := HP.out
      have hps := hps0.more
      have hK5 := K5_len (i + 1)
      obtain ⟨may, hos⟩ := hps.os (by have := hps0.lvt; omega) (by have := hps0.num; omega)
      obtain ⟨p0, p1, p2, p3, pf0, pf1, pf2, pf3⟩ := mcells hps.cell
      unfold ptr at p0 p1 p2
      have hcr := hos.live.crash (by omega) (by omega) (by omega) 0 (.slice none 0 0) [] ⟨none, 0, rfl, by omega, Nat.le_refl _, fun e => absurd rfl e⟩
      unfold ptr at hcr
      have HOS : Hid (OS w (i + 1) p d (2 + 10 * i) ((os.take i).map OpS.cost).sum A σ stop s r ρ lv may wr) := hos
      clear hos hps hps0 HP ei
      go_wp2_with fail
      refine hcr.mono ?_
      rintro e w3 ⟨ks, rfl, hso, h3, k3⟩
      have hc3 := k3.heap HOS.out.cell HOS.out.pA
      obtain ⟨q0, q1, q2, q3, qf0, qf1, qf2, qf3⟩ := mcells hc3
      unfold ptr at q0 q1 q2
      have HOS3 : Hid (OS w (i + 1) p d (2 + 10 * i) ((os.take i).map OpS.cost).sum (ext A wr w3) (σ.crashed (min (Int.toNat 0) σ.chs.length) ks []) false s r ρ lv may (w3.setCell ⟨p, 3, none⟩ (.bool false))) := (HOS.out.next h3 k3 ext_new (fun _ => rfl) (HOS.out.inv.crashed HOS.out.live.2.2.1 _ ks [])).setStop (fun _ => rfl)
      clear hcr h3 k3 hso hc3 p0 p1 p2 p3 pf0 pf1 pf2 pf3 HOS
      generalize σ.crashed (min (Int.toNat 0) σ.chs.length) ks [] = σ3 at *
      generalize ext A wr w3 = A3 at *
      go_upto_region 12 with fail
      generalize w3.setCell ⟨p, 3, none⟩ (.bool false) = w4 at *
      clear q0 q1 q2 q3 qf0 qf1 qf2 qf3
      have hop := openC HOS3.out hG h8 (by omega) (by omega) (by omega) 5 ⟨#[]⟩ ⟨#[]⟩ ⟨#[]⟩ (.slice none 0 0) 0 0 (.slice none 0 0) [] (fun A _ => ⟨none, 0, rfl, by omega, Nat.le_refl _, fun e => absurd rfl e⟩)
      unfold ptr opV5 at hop
      go_wp2_with fail
      refine hop.mono ?_
      rintro e w5 ⟨rfl, stop', hst, A5, σ5, s5, mw5, N5, W5, lv5, r5, ρ5, hps5, hc5⟩
      have hst5 : stop' = false := hst (by first | rfl | trivial)
      subst hst5
      have HPS5 : Hid (PS w (i + 1) p d (2 + 10 * i + 4) ((os.take i).map OpS.cost).sum A5 σ5 false s5 mw5 N5 W5 lv5 false r5 ρ5 w5) := hps5
      have HCM5 : Hid (Calm ρ5 σ5 false lv5 W5) := hc5
      have hnew2 := new_live (K5 (i + 1)) w w5 hps5.live.2.2.2
      clear hop hst hps5 hc5 HOS3
      go_wp2_with fail
      refine hnew2.mono ?_
      rintro e w6 ⟨d2, rfl, l6, k6⟩
      have hk6 := k6.size
      have hp5 : p < w5.heap.size := HPS5.out.lt
      have HTWO6 : Hid (Two w d d2 (2 + 10 * i + 4) 0 ((os.take i).map OpS.cost).sum (K5 (i + 1)) A5 (ext (fun _ => False) w5 w6) σ5 Dk.empty w6) := ⟨HPS5.out.live.fresh k6, l6.mono (Nat.le_refl _) (Nat.zero_le _), fun j hj e => by
        rcases hj with hj | hj
        · exact hj
        · have := (HPS5.out.live.1 j e).2
          omega⟩
      have HR6 : Hid (RefAt (fun j => A5 j ∨ j = p ∨ w5.heap.size ≤ j) r5 w.heap.size ρ5 w6) := HPS5.out.ref.keep k6 (fun _ _ _ e => e) (fun j hj e => by
        rcases e with e | e | e
        · exact .inl e
        · exact .inr (.inr (.inr (.inr e)))
        · omega)
      have HC6 : Hid (w6.heap[p]? = some (pCells5 d s5 r5 false)) := k6.heap HPS5.out.cell (fun e => e)
      have hnm := HTWO6.out.one.names (by omega)
      have u0 := (mcells HC6.out).1
      unfold ptr at hnm u0
      clear hnew2 l6
      go_wp2_with fail
      refine hnm.mono ?_
      rintro e w7 ⟨nv, ks, rfl, hso, hkl, hkn, hrow, _, k7⟩
      obtain ⟨na, nc, rfl, hnc1, hnc2, hna⟩ := own_form hrow
      have HSO : Hid (Sorted σ5.now ks) := hso
      have hk7 := k7.size
      have HL : Hid (∃ (A2 : Nat → Prop) (τ : Dk), Cp w d d2 (2 + 10 * i + 4) 0 ((os.take i).map OpS.cost).sum (K5 (i + 1)) A5 A2 σ5 τ w5.heap.size w6.heap.size p s5 r5 ρ5 (.slice na ks.length nc) ks w7 ∧ Part σ5 τ (ks.take 0)) :=
        ⟨_, _, ⟨HTWO6.out.fresh k7, fun j hj => ⟨by rcases hj with hj | hj; exact hj.elim; exact hj.1, fun e => by
          have := hrow.lt j e
          rcases hj with hj | hj
          · exact hj
          · omega⟩, hrow, HR6.out.fresh k7, k7.heap HC6.out (fun e => e), HPS5.out.pA, fun q hq => (HPS5.out.live.1 q hq).2, hk6, hp5, by omega⟩, Part.start _⟩
      have hLb : ((os.take i).map OpS.cost).sum ≤ 500000000 := by omega
      have hib : i + 2 ≤ 1000000 := by omega
      have hkb : ks.length ≤ 5000000 := by omega
      have HFW : Hid (Fresh w w5) := HPS5.out.live.2.2.2
      clear hnm u0 hso hrow k7 HTWO6 HR6 HC6 k6 hk6 hk7 hp5
      go_wp2_with fail
      go_loopw [11] (fun t11 wr => ∃ (j : Nat) (A2 : Nat → Prop) (τ : Dk), j ≤ ks.length ∧ t11 = .int .i64 j ∧ Cp w d d2 (2 + 10 * i + 4) j ((os.take i).map OpS.cost).sum (K5 (i + 1)) A5 A2 σ5 τ w5.heap.size w6.heap.size p s5 r5 ρ5 (.slice na ks.length nc) ks wr ∧ Part σ5 τ (ks.take j)) (fun t11 _ => ks.length - (intOf t11).toNat)
      case atStart =>
        obtain ⟨A2, τ, q1, q2⟩ := HL.out
        exact ⟨0, A2, τ, Nat.zero_le _, rfl, q1, q2⟩
      case round =>
        clear HL
        obtain ⟨j, A2, τ, hj, rfl, hcp, hpt⟩ := hrel
        have HCP : Hid (Cp w d d2 (2 + 10 * i + 4) j ((os.take i).map OpS.cost).sum (K5 (i + 1)) A5 A2 σ5 τ w5.heap.size w6.heap.size p s5 r5 ρ5 (.slice na ks.length nc) ks wr) := hcp
        have HPT : Hid (Part σ5 τ (ks.take j)) := hpt
        clear hcp hpt
        by_cases hlt : j < ks.length
        · obtain ⟨gn, rfl⟩ := hna (by omega)
          obtain ⟨s, hs⟩ : ∃ s, ks[j]? = some s := ⟨ks[j], List.getElem?_eq_getElem hlt⟩
          have hsm := List.mem_of_getElem? hs
          have hsl := hkn s hsm
          have hin : (σ5.now s).isSome = true := (HSO.out.mem s).1 hsm
          have hsK := HPS5.out.live.2.2.1.nowK s hin
          have hnt : s ∉ ks.take j := fun e => by
            obtain ⟨m, hm⟩ := List.getElem?_of_mem e
            have hm1 : m < j := by
              have := (List.getElem?_eq_some_iff.1 hm).1
              rw [List.length_take] at this
              omega
            rw [List.getElem?_take, if_pos hm1] at hm
            have := (List.getElem?_inj (by omega) HSO.out.nodup).1 (hm.trans hs.symm)
            omega
          have htk : ks.take (j + 1) = ks.take j ++ [s] := by rw [List.take_add_one, hs]; rfl
          obtain ⟨S, hS⟩ : ∃ S : ByteArray, S = ⟨s.toArray⟩ := ⟨_, rfl⟩
          have hSd : S.data.toList = s := by rw [hS]
          have hSz : S.size ≤ maxLen := by rw [hS]; show s.toArray.size ≤ maxLen; simpa using hsl
          have u1 : wr.cell? ⟨gn, j, none⟩ = some (.string S) := by rw [hS]; exact own_cell HCP.out.row j (encStr s) (by rw [List.getElem?_map, hs]; rfl)
          have u0 := (mcells HCP.out.cell).1
          have hread := (HCP.out.fresh ((Keeps.refl (fun _ => False) wr).drew)).two.one.read S hSz
          rw [hSd] at hread
          obtain ⟨X, hX⟩ : ∃ X : ByteArray, X = ⟨((σ5.read s).getD []).toArray⟩ := ⟨_, rfl⟩
          rw [← hX] at hread
          have hXd : X.data.toList = (σ5.read s).getD [] := by rw [hX]
          have hXL : X.data.toList.length ≤ ((os.take i).map OpS.cost).sum := by
            rw [hXd]
            unfold Dk.read
            cases e : σ5.now s with
            | none => exact Nat.zero_le _
            | some x => exact (HPS5.out.live.2.2.1.sizes x (HPS5.out.live.2.2.1.nowIn s x e)).2
          generalize (σ5.read s).isSome = ob at hread
          unfold ptr at hread u0
          have HC : Hid (∀ W1, Keeps A5 wr W1 → W1.cell? ⟨p, 0, none⟩ = some (.pointer (some ⟨d, 0, none⟩)) ∧ W1.cell? ⟨gn, j, none⟩ = some (.string S)) := fun W1 k => ⟨cell_keeps k u0 HCP.out.pA, cell_keeps k u1 (HCP.out.nA gn rfl)⟩
          have HX : Hid (X.data.toList = (σ5.read s).getD []) := hXd
          have HXL : Hid (X.data.toList.length ≤ ((os.take i).map OpS.cost).sum) := hXL
          have HTK : Hid (ks.take (j + 1) = ks.take j ++ [s]) := htk
          have HNT : Hid (s ∉ ks.take j) := hnt
          have HIN : Hid ((σ5.now s).isSome = true) := hin
          have HSK : Hid (s ∈ K5 (i + 1)) := hsK
          have HSZ : Hid (S.size ≤ maxLen) := hSz
          have z0 : (0 : Int) ≤ (j : Int) := by omega
          have z1 : (j : Int) < (ks.length : Int) := by omega
          clear hs hsm hsl hin hsK hnt htk hS hSz hX hXd hXL u0 u1
          subst hSd
          go_wp2_with fail
          go_region_held3 (fun W1 => W1.cell? ⟨p, 0, none⟩ = some (.pointer (some ⟨d, 0, none⟩)) ∧ W1.cell? ⟨gn, j, none⟩ = some (.string S)) (first | exact HC.out _ ((Keeps.refl _ wr).drew) | exact HC.out _ kA) (first | (go_at_call 15; refine hread.mono ?_; rintro e w8 ⟨rfl, hl8, k8, hz8⟩; clear hz8; have kA : Keeps A5 wr w8 := ((Keeps.refl _ wr).drew).trans k8))
          have HCP8 : Hid (Cp w d d2 (2 + 10 * i + 4) j ((os.take i).map OpS.cost).sum (K5 (i + 1)) A5 A2 σ5 τ w5.heap.size w6.heap.size p s5 r5 ρ5 (.slice (some ⟨gn, 0, none⟩) ks.length nc) ks w8) := (HCP.out.fresh ((Keeps.refl (fun _ => False) wr).drew)).seen hl8 k8
          have u1 := (HC.out _ kA).2
          have hcre := HCP8.out.two.two.create (by omega) (by omega) S HSZ.out HSK.out
          unfold ptr at hcre
          clear hread hl8 k8 kA HC HCP
          go_wp2_with fail
          refine hcre.mono ?_
          rintro e w9 ⟨k1, τ1, rfl, hc9, hl9, k9⟩
          have HCP9 : Hid (Cp w d d2 (2 + 10 * i + 4) (j + 1) ((os.take i).map OpS.cost).sum (K5 (i + 1)) A5 (ext A2 w8 w9) σ5 τ1 w5.heap.size w6.heap.size p s5 r5 ρ5 (.slice (some ⟨gn, 0, none⟩) ks.length nc) ks w9) := HCP8.out.next hl9 k9 ext_new hl9.2.2.1.sizes
          have HC9 : Hid (τ.creates S.data.toList k1 τ1) := hc9
          have u2 : w9.cell? ⟨gn, j, none⟩ = some (.string S) := cell_keeps k9 u1 (fun e => (HCP8.out.apart gn e).2 rfl)
          have hXs : X.size ≤ 1099511627776 := by
            have h1 := HXL.out
            rw [Array.length_toList] at h1
            exact Nat.le_trans h1 (by omega)
          have happ := HCP9.out.two.two.append (by omega) S X HSZ.out hXs
          have HFT : Hid (Fits (K5 (i + 1)) j ((os.take i).map OpS.cost).sum τ) := HCP8.out.two.two.2.2.1
          unfold ptr at happ
          clear hcre hc9 hl9 k9 u1 hXs HCP8
          go_wp2_with fail
          refine happ.mono ?_
          rintro e w10 ⟨k2, τ2, rfl, ha, hl10, k10⟩
          have hnow : τ.now S.data.toList = none := by
            cases e : τ.now S.data.toList with
            | none => rfl
            | some x => exact absurd ((HPT.out.nm _).1 (by rw [e]; rfl)) HNT.out
          have HCP10 : Hid (Cp w d d2 (2 + 10 * i + 4) (j + 1) ((os.take i).map OpS.cost).sum (K5 (i + 1)) A5 (ext (ext A2 w8 w9) w9 w10) σ5 τ2 w5.heap.size w6.heap.size p s5 r5 ρ5 (.slice (some ⟨gn, 0, none⟩) ks.length nc) ks w10) := HCP9.out.next hl10 k10 ext_new (append_sizes HCP9.out.two.two.2.2.1.sizes HCP9.out.two.two.2.2.1.nowIn (created_empty HPT.out.lft hnow HC9.out) HXL.out ha)
          have HPT10 : Hid (Part σ5 τ2 (ks.take (j + 1))) := by
            show Part σ5 τ2 (ks.take (j + 1))
            rw [HTK.out]
            rw [HX.out] at ha
            exact HPT.out.step HFT.out HNT.out HIN.out HC9.out ha
          clear happ ha hl10 k10 u2 hnow HCP9
          go_wp2_with fail
          go_roundw
          case rel => exact ⟨j + 1, _, τ2, by omega, by go_num, HCP10.out, HPT10.out⟩
          case measure => simp [intOf]; omega
        · have ej : j = ks.length := by omega
          have z1 : ¬ (j : Int) < (ks.length : Int) := by omega
          have hN : NowOk τ ρ5.l lv5 := by
            have h1 := HPT.out
            rw [ej, List.take_length] at h1
            exact h1.all HSO.out (HCM5.out.al.nowOk HPS5.out.live.2.2.1 (HPS5.out.lft rfl))
          have hop2 := open2 HCP.out.two.two hG h8 (by omega) (by omega) (by omega) hN HPS5.out.lvt
          unfold ptr at hop2
          clear ej hN HPT
          go_wp2_with fail
          refine hop2.mono ?_
          rintro e w8 ⟨s2, mw2, N2, W2, τ2, A3, rfl, hl8, hA8, k8, lf8, hs2, hm2, hN2, sp8, dm8, al8⟩
          obtain ⟨hrf8, hc8⟩ := HCP.out.opened k8 hA8 hs2 hm2 sp8
          have hpA3 : ¬ A3 p := fun e => by
            have h1 := HCP.out.pb
            have h2 := HCP.out.sz
            rcases hA8 p e with e | e
            · have := (HCP.out.apart p e).1; omega
            · omega
          have hnum := HPS5.out.num
          have HT8 : Hid (Tells w A3 d2 (K5 (i + 2)) (j + 2) ((os.take i).map OpS.cost).sum τ2 s2 mw2 N2 W2 lv5 false ρ5.l lv5 w8) := ⟨hl8.more (fun s hs => K5_sub hs) (by rw [K5_len, K5_len]; omega), sp8, dm8, al8, HPS5.out.sz, by omega, by omega, by omega⟩
          have HR8 : Hid (RefAt (SS A3 s2 mw2 W2 p) r5 w.heap.size ρ5 w8) := hrf8
          have HC8 : Hid (w8.heap[p]? = some (pCells5 d s5 r5 false)) := hc8
          have HLF : Hid (τ2.left = none) := lf8
          have hsh := HT8.out.shows hG h8 HR8.out rfl
          have u2 := (mcells HC8.out).2.2.1
          have hN2' : N2 ≤ 2 * (i + 2) + 5 := by omega
          have hps2 : p ≠ s2 ∧ p ≠ mw2 := by
            have h1 := HCP.out.pb
            have h2 := HCP.out.sz
            omega
          unfold ptr at hsh u2
          clear hop2 hl8 hA8 k8 lf8 hs2 hm2 hN2 sp8 dm8 al8 hrf8 hc8 HCP
          go_wp2_with (go_at_call 19; refine (num5 _ _).mono ?_; rintro e w' ⟨rfl, hw'⟩; have hw' := hw'.symm; subst hw')
          refine hsh.mono ?_
          rintro e w9 ⟨rfl, ht9, hr9, k9⟩
          have HT9 : Hid (Tells w A3 d2 (K5 (i + 2)) (j + 2) ((os.take i).map OpS.cost).sum τ2 s2 mw2 N2 W2 lv5 false ρ5.l lv5 w9) := ht9
          have HR9 : Hid (RefAt (SS A3 s2 mw2 W2 p) r5 w.heap.size ρ5 w9) := hr9
          have HC9 : Hid (w9.heap[p]? = some (pCells5 d s5 r5 false)) := k9.heap HC8.out hpA3
          have HX9 : Hid (w9.heap[w0.heap.size]? = some (.cells #[.string fa, .string fb, .slice mao tl.length mcap, .string dd] 30)) := ht9.live.2.2.2.heap HX0.out (fun e => e)
          obtain ⟨x0, x1, x2, x3, _⟩ := mcells HX9.out
          clear hsh ht9 hr9 k9 u2 HT8 HR8 HC8
          by_cases h0 : tl = []
          · have hlb : ((tl.length : Int) == 0) = true := by rw [h0]; rfl
            have hal := alive5 HT9.out.live.2.2.2 hG h8
            clear h0
            go_wp2_with fail
            refine hal.mono ?_
            rintro e w10 ⟨rfl, hf10⟩
            have HF10 : Hid (Fresh w0 w10) := HF0.out.trans hf10
            clear hal hf10
            go_wp2_with fail
            go_ret
            exact ⟨rfl, HF10.out⟩
          · have hlb : ((tl.length : Int) == 0) = false := beq_eq_false_iff_ne.2 (fun e => h0 (List.length_eq_zero_iff.1 (by omega)))
            have htl : tl.length ≤ 1048576 := by
              have h1 := toW_len tl
              have h2 := hmw
              unfold mlW at h2
              simp only at h2
              omega
            have hrd9 : AdRd w9 mao tl := by
              obtain ⟨ao', cap', e1, e2⟩ := (HMI.out.into (S := fun _ => False) (fun q hq => HT9.out.live.2.2.2.block q hq (fun e => e)) HT9.out.live.2.2.2.size (fun q e => e.elim)).form
              injection e1 with e1 _ _
              subst e1
              exact e2
            have hgiven := given_any fa fb dd mao mcap tl w9 (by omega) hrd9
            have H0 : Hid (tl ≠ []) := h0
            unfold mailV at hgiven
            clear hrd9 h0
            go_wp2_with fail
            refine hgiven.mono ?_
            rintro e w10 ⟨tv, rfl, hrow, k10⟩
            obtain ⟨ta, tc, rfl, _, _, hta⟩ := own_form hrow
            have hz10 := k10.size
            have HT10 : Hid (Tells w A3 d2 (K5 (i + 2)) (j + 2) ((os.take i).map OpS.cost).sum τ2 s2 mw2 N2 W2 lv5 false ρ5.l lv5 w10) := HT9.out.fresh k10
            have HR10 : Hid (RefAt (SS A3 s2 mw2 W2 p) r5 w.heap.size ρ5 w10) := HR9.out.fresh k10
            have HC10 : Hid (w10.heap[p]? = some (pCells5 d s5 r5 false)) := k10.heap HC9.out (fun e => e)
            have hput := put2 HT10.out HLF.out hG (by have := HPS5.out.lvt; omega) hib (by omega) (by omega) (by omega) hLb fa fb dd tl hmw H0.out ta tc (rowA_cells hrow) (fun g hg => by
              have h1 := hrow.lt g (by rw [hg]; rfl)
              refine ⟨fun e => ?_, fun e => ?_⟩
              · have := (HT9.out.live.1 g e).2; omega
              · have := HT9.out.sp.lt; omega)
            unfold ptr mailV at hput
            clear hgiven hrow k10 hta hz10 HT9 HR9 HC9 HX9 x0 x1 x2 x3
            go_wp2_with fail
            refine hput.mono ?_
            rintro e w11 ⟨rfl, A4, τ4, mb, hA11, ht11, k11⟩
            have HT11 : Hid (Tells w A4 d2 (K5 (i + 2)) (j + 2 + 6) (((os.take i).map OpS.cost).sum + (mlText (fa.data.toList, fb.data.toList, tl, dd.data.toList)).length) τ4 s2 mw2 (N2 + 1) (putW W2 (lv5 + 1) mb) (lv5 + 1) false (ρ5.l ++ [(lv5 + 1, (fa.data.toList, fb.data.toList, tl, dd.data.toList), once tl)]) (lv5 + 1) w11) := ht11
            have HR11 : Hid (RefAt (SS A4 s2 mw2 (putW W2 (lv5 + 1) mb) p) r5 w.heap.size ρ5 w11) := Tells.grew HR10.out hA11 ht11 k11
            have HC11 : Hid (w11.heap[p]? = some (pCells5 d s5 r5 false)) := k11.heap HC10.out (fun e => e.elim hpA3 (fun e => e.elim hps2.1 hps2.2))
            have HX11 : Hid (w11.heap[w0.heap.size]? = some (.cells #[.string fa, .string fb, .slice mao tl.length mcap, .string dd] 30)) := ht11.live.2.2.2.heap HX0.out (fun e => e)
            have hx0w : w0.heap.size < w.heap.size := heap_lt HX0.out
            have hown := HR11.out.own
            have HC : Hid (∀ W1, Keeps (fun q => q = r5 ∨ ρ5.av.ownBlock = some q) w11 W1 → W1.cell? ⟨p, 2, none⟩ = some (.pointer (some ⟨r5, 0, none⟩)) ∧ W1.cell? ⟨w0.heap.size, 0, none⟩ = some (.string fa) ∧ W1.cell? ⟨w0.heap.size, 1, none⟩ = some (.string fb) ∧ W1.cell? ⟨w0.heap.size, 2, none⟩ = some (.slice mao tl.length mcap) ∧ W1.cell? ⟨w0.heap.size, 3, none⟩ = some (.string dd)) := fun W1 k => by
              have hnp : ¬ (p = r5 ∨ ρ5.av.ownBlock = some p) := fun e => (hown p e).1 (.inr (.inr (.inr (.inr rfl))))
              have hnn : ¬ (w0.heap.size = r5 ∨ ρ5.av.ownBlock = some w0.heap.size) := fun e => by
                have := (hown _ e).2
                omega
              obtain ⟨x0, x1, x2, x3, _⟩ := mcells HX11.out
              exact ⟨cell_keeps k (mcells HC11.out).2.2.1 hnp, cell_keeps k x0 hnn, cell_keeps k x1 hnn, cell_keeps k x2 hnn, cell_keeps k x3 hnn⟩
            have htook := (HT11.out.fresh ((Keeps.refl (fun _ => False) w11).drew)).took (HR11.out.fresh ((Keeps.refl (fun _ => False) w11).drew)) (heap_lt HC11.out) HPS5.out.pw (by omega) (lv5 + 1) (by have := HPS5.out.top; omega) (by have := HPS5.out.wgs.lo; omega) fa fb dd mao mcap tl htl HMI.out
            unfold ptr mailV at htook
            clear hput hA11 ht11 k11 HT10 HR10 HC10
            go_wp2_with fail
            go_region_held3 (fun W1 => W1.cell? ⟨p, 2, none⟩ = some (.pointer (some ⟨r5, 0, none⟩)) ∧ W1.cell? ⟨w0.heap.size, 0, none⟩ = some (.string fa) ∧ W1.cell? ⟨w0.heap.size, 1, none⟩ = some (.string fb) ∧ W1.cell? ⟨w0.heap.size, 2, none⟩ = some (.slice mao tl.length mcap) ∧ W1.cell? ⟨w0.heap.size, 3, none⟩ = some (.string dd)) (first | exact HC.out _ ((Keeps.refl _ w11).drew) | exact HC.out _ kA) (first | (go_at_call 23; refine htook.mono ?_; rintro e w12 ⟨rfl, hr12, ht12, k12⟩; have kA : Keeps (fun q => q = r5 ∨ ρ5.av.ownBlock = some q) w11 w12 := ((Keeps.refl _ w11).drew).trans k12))
            obtain ⟨av, y, hr12⟩ := hr12
            have u2 := (HC.out _ kA).1
            have hsh2 := ht12.shows hG h8 hr12 rfl
            unfold ptr at hsh2
            clear htook hr12 ht12 k12 kA HC hown
            go_wp2_with fail
            refine hsh2.mono ?_
            rintro e w13 ⟨rfl, ht13, _, _⟩
            have hal := alive5 ht13.live.2.2.2 hG h8
            clear hsh2 ht13
            go_wp2_with (go_at_call 19; refine (num5 _ _).mono ?_; rintro e w' ⟨rfl, hw'⟩; have hw' := hw'.symm; subst hw')
            refine hal.mono ?_
            rintro e w14 ⟨rfl, hf14⟩
            have HF14 : Hid (Fresh w0 w14) := HF0.out.trans hf14
            clear hal hf14
            go_wp2_with fail
            go_ret
            exact ⟨rfl, HF14.out⟩

end Go.Proofs.YtegbkpjcjlihmabGreatDoor
