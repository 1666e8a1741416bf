/-
  The law DiskAll: its walk.
-/
import Derived.Test.YtegbkpjcjlihmaaTri
namespace Go.Proofs.Ytegbkpjcjlihmaa
open Go.RowKit Go.Maps

theorem new_live2 (K : List Text) (w wr : World) (hF : Fresh w wr) : Calls Try.prog 20 #[] wr fun e w' => ∃ d, e = .returned (ptr d) ∧ Live w w' (ext (fun _ => False) wr w') d K 0 0 Dk.empty ∧ Fresh wr w' := by
  refine (new_any K.length wr).mono ?_
  rintro e w' ⟨d, rfl, hd, k⟩
  have := hF.size
  refine ⟨d, rfl, ⟨fun i hi => ?_, hd, Fits.empty _ _ _, hF.trans k⟩, k⟩
  rcases hi with hi | hi
  · exact hi.elim
  · exact ⟨by omega, hi.2⟩

theorem tri_start {w w1 w2 w3 : World} {K : List Text} {d o r : Nat} (l1 : Live w w1 (ext (fun _ => False) w w1) d K 0 0 Dk.empty) (l2 : Live w w2 (ext (fun _ => False) w1 w2) o K 0 0 Dk.empty) (k2 : Fresh w1 w2) (h3 : RefAt w3 (ext (fun _ => False) w2 w3) r Rf.empty) (k3 : Fresh w2 w3) :
    Tri w w3 (ext (fun _ => False) w w1) (ext (fun _ => False) w1 w2) (ext (fun _ => False) w2 w3) d o r K 0 0 0 0 K.length Dk.empty Dk.empty Rf.empty := by
  have s1 := l1.2.2.2.size
  have s2 := k2.size
  have s3 := k3.size
  refine ⟨l1.fresh (k2.trans k3), l2.fresh k3, fun i hi => ?_, h3, fun i hi e => ?_, fun i hi e => ?_, fun i hi e => ?_, Nat.zero_le _, fun f hf => by cases hf⟩
  · rcases hi with hi | hi
    · exact hi.elim
    · exact ⟨by omega, hi.2⟩
  · rcases hi with hi | hi
    · exact hi
    · rcases e with e | e
      · exact e
      · omega
  · rcases hi with hi | hi
    · exact hi
    · rcases e with e | e
      · exact e
      · omega
  · rcases hi with hi | hi
    · exact hi
    · rcases e with e | e
      · exact e
      · omega

theorem Tri.monoA {w wr : World} {A O B : Nat → Prop} {d o r : Nat} {K : List Text} {C L C2 L2 F L' : Nat} {σ σ2 : Dk} {ρ : Rf} (h : Tri w wr A O B d o r K C L C2 L2 F σ σ2 ρ) (hL : L ≤ L') : Tri w wr A O B d o r K C L' C2 L2 F σ σ2 ρ := by
  obtain ⟨h1, h2, h3, h4⟩ := h.a
  exact { h with a := ⟨h1, h2, h3.mono (Nat.le_refl _) hL, h4⟩, sizes := fun f hf => ⟨(h.sizes f hf).1, Nat.le_trans (h.sizes f hf).2 hL⟩ }

set_option maxHeartbeats 16000000 in
set_option maxRecDepth 100000 in
theorem lawAll (K : List Text) (v1 v2 : Value) (xs ys : List Op) (w : World) (h1 : Script w v1 xs) (h2 : Script w v2 ys) (hc1 : Calm K xs) (hc2 : Calm K ys) (hKl : K.length ≤ 8388608) (hn1 : xs.length ≤ 2097152) (_hn2 : ys.length ≤ 2097152) :
    Calls Try.prog 7 #[v1, v2] w fun e w' => e = .returned (.bool true) ∧ Fresh w w' := by
  obtain ⟨a1, p1, rfl, hp1, hq1, hs1⟩ := h1
  obtain ⟨a2, p2, rfl, hp2, hq2, hs2⟩ := h2
  have n0 := new_live K w w (Keeps.refl _ w)
  have S1 : Hid _ := hs1
  have S2 : Hid _ := hs2
  have C1 : Hid (Calm K xs) := hc1
  have C2 : Hid (Calm K ys) := hc2
  clear hs1 hs2 hc1 hc2
  go_enter Try.func7, Try.ntmps7
  go_wp2_with fail
  refine n0.mono ?_
  rintro e w1 ⟨d, rfl, l1⟩
  have n1 := new_live2 K w w1 l1.2.2.2
  have L1 : Hid (Live w w1 (ext (fun _ => False) w w1) d K 0 0 Dk.empty) := l1
  clear n0 l1
  unfold ptr
  go_wp2_with fail
  refine n1.mono ?_
  rintro e w2 ⟨o, rfl, l2, k2⟩
  have n2 := rnew_any w2
  have L2 : Hid (Live w w2 (ext (fun _ => False) w1 w2) o K 0 0 Dk.empty) := l2
  clear n1 l2
  unfold ptr
  go_wp2_with fail
  refine n2.mono ?_
  rintro e w3 ⟨r, rfl, l3, k3⟩
  have T0 : Hid (Tri w w3 (ext (fun _ => False) w w1) (ext (fun _ => False) w1 w2) (ext (fun _ => False) w2 w3) d o r K 0 0 0 0 K.length Dk.empty Dk.empty Rf.empty) := tri_start L1.out L2.out k2 l3 k3
  clear n2 l3
  unfold ptr
  go_wp2_with fail
  go_loopw [8] (fun t8 wr => ∃ i : Nat, i ≤ xs.length ∧ t8 = .int .i64 i ∧ ∃ A O B σ σ2 ρ φ R, Tri w wr A O B d o r K i (loadTo xs i) i (loadTo ys i) (K.length + i) σ σ2 ρ ∧ Sim φ R σ ρ) (fun t8 _ => xs.length - (intOf t8).toNat)
  case atStart => exact ⟨0, Nat.zero_le _, rfl, _, _, _, _, _, _, _, _, T0.out, Sim.empty⟩
  case round =>
    obtain ⟨i, hi, rfl, A, O, B, σ, σ2, ρ, φ, R, T, hS⟩ := hrel
    have hlo1 := loadTo_le xs i
    have hlo2 := loadTo_le ys i
    have hlm1 := C1.out.2
    have hlm2 := C2.out.2
    by_cases hlt : i < xs.length
    · obtain ⟨b, off, rfl, hcs⟩ := S1.out (by omega)
      obtain ⟨x, hx⟩ : ∃ x, xs[i]? = some x := ⟨xs[i], List.getElem?_eq_getElem hlt⟩
      have hxm : x ∈ xs := List.mem_of_getElem? hx
      obtain ⟨tv, b0, b1, b2, b3, b4, hin⟩ := hcs i x hx
      have hxl := load_mem hxm
      have hxx : x.load = x.name.size + x.s.size + x.tails.length + 1 := rfl
      have HB : Hid (∀ W, Fresh w W → W.cell? ⟨b, off + i * 5, none⟩ = some (.int .i64 x.kind) ∧ W.cell? ⟨b, off + i * 5 + 1, none⟩ = some (.string x.name) ∧ W.cell? ⟨b, off + i * 5 + 2, none⟩ = some (.string x.s) ∧ W.cell? ⟨b, off + i * 5 + 3, none⟩ = some (.int .i64 x.n) ∧ W.cell? ⟨b, off + i * 5 + 4, none⟩ = some tv) := fun W F =>
        ⟨F.cell b0 (fun e => e), F.cell b1 (fun e => e), F.cell b2 (fun e => e), F.cell b3 (fun e => e), F.cell b4 (fun e => e)⟩
      have HIN : Hid (Ints w (fun _ => False) tv x.tails) := hin
      have HOK : Hid (OpOk K x) := C1.out.1 x hxm
      have HL1 : Hid (loadTo xs (i + 1) = loadTo xs i + x.load) := loadTo_succ hx
      have HXX : Hid (x.load = x.name.size + x.s.size + x.tails.length + 1) := hxx
      have z1 : (0 : Int) ≤ (i : Int) := by omega
      have z2 : (i : Int) < (xs.length : Int) := by omega
      have hsx : x.s.size ≤ 2097152 := by omega
      have htx : x.tails.length ≤ 2097152 := by omega
      clear hcs hin hx b0 b1 b2 b3 b4 hxx hxm hxl
      by_cases hlb : i < ys.length
      · obtain ⟨c, cff, rfl, hcs⟩ := S2.out (by omega)
        obtain ⟨y, hy⟩ : ∃ y, ys[i]? = some y := ⟨ys[i], List.getElem?_eq_getElem hlb⟩
        have hym : y ∈ ys := List.mem_of_getElem? hy
        obtain ⟨tw, b0, b1, b2, b3, b4, hin⟩ := hcs i y hy
        have F := T.o.2.2.2
        have g0 := F.cell b0 (fun e => e)
        have g1 := F.cell b1 (fun e => e)
        have g2 := F.cell b2 (fun e => e)
        have g3 := F.cell b3 (fun e => e)
        have g4 := F.cell b4 (fun e => e)
        have hyl := load_mem hym
        have hyy : y.load = y.name.size + y.s.size + y.tails.length + 1 := rfl
        have hc := T.o.call (by omega) (by omega) (by omega) y tw (C2.out.1 y hym) (by omega) (by omega) (hin.over F (fun k hk => (T.o.1 k hk).1))
        have HL2 : Hid (loadTo ys (i + 1) = loadTo ys i + y.load) := loadTo_succ hy
        have HYY : Hid (y.load = y.name.size + y.s.size + y.tails.length + 1) := hyy
        have z3 : (i : Int) < (ys.length : Int) := by omega
        have HT : Hid _ := T
        clear hcs hin hy b0 b1 b2 b3 b4 hyy hym hyl T
        unfold ptr opVal at hc
        go_wp2_with fail
        refine hc.mono ?_
        rintro e w4 ⟨_, σ2', rfl, _, l4, k4⟩
        have T4 := (HT.out.stepO l4 k4).mono (C2' := i + 1) (L2' := loadTo ys (i + 1)) (Nat.le_refl _) (by rw [HL2.out, HYY.out]; omega)
        clear hc l4 g0 g1 g2 g3 g4 HT F
        have F4 := T4.a.2.2.2
        obtain ⟨g0, g1, g2, g3, g4⟩ := HB.out _ F4
        have hc := T4.a.call (by omega) (by omega) (by omega) x tv HOK.out (by omega) (by omega) (HIN.out.over F4 (fun k hk => (T4.a.1 k hk).1))
        have hfit := T4.a.2.2.1
        have hfl := T4.files
        have hfz := T4.sizes
        obtain ⟨l, hg, hle, hnl⟩ := rg_of hS hfit (by omega) hKl (by omega) hfz
        have HT4 : Hid _ := T4
        have HG : Hid _ := hg
        have HLE : Hid (EntsOf φ σ.now l) := hle
        have HNL : Hid _ := hnl
        have HFZ : Hid _ := hfz
        have HFT : Hid (Fits K i (loadTo xs i) σ) := hfit
        clear T4 hg hle hnl hfz hfit F4
        unfold ptr opVal at hc
        go_wp2_with fail
        refine hc.mono ?_
        rintro e w5 ⟨r1, σ', rfl, st, l5, k5⟩
        have T5 := HT4.out.stepA l5 k5 (by omega)
        have F5 := T5.a.2.2.2
        obtain ⟨g0, g1, g2, g3, g4⟩ := HB.out _ F5
        have ht := told_any T5.ref HG.out x tv (by omega) HOK.out.n (HIN.out.over F5 (fun k hk => (T5.b k hk).1)) (by omega)
        have HT5 : Hid _ := T5
        clear hc l5 T5 F5
        unfold ptr opVal at ht
        go_wp2_with fail
        refine ht.mono ?_
        rintro e w6 ⟨r2, ρ', rfl, rt, h6, k6⟩
        obtain ⟨rfl, ψ, R', hS'⟩ := hS.step HFT.out HLE.out st rt
        obtain ⟨hf6, hz6⟩ := rstep_files (F := K.length + i) rt HFZ.out HNL.out hfl (by omega)
        have T6 := HT5.out.stepB h6 k6 hf6 hz6
        obtain ⟨l', hg', hle', _⟩ := rg_of hS' T6.a.2.2.1 (by omega) hKl (by omega) hz6
        have hsh := shows_any T6.a.2.1 (fun k hk => (T6.a.1 k hk).2) T6.a.2.2.1 (by omega) T6.ref (fun k hk e => T6.ab k e hk) hg' hS' hle'
        have HT6 : Hid _ := T6
        have HS' : Hid _ := hS'
        have HG' : Hid _ := hg'
        have HLE' : Hid _ := hle'
        clear ht rt h6 g0 g1 g2 g3 g4 T6 hg' hle' hS' hf6 hz6 hfl
        unfold ptr at hsh
        go_wp2_with fail
        refine hsh.mono ?_
        rintro e w7 ⟨rfl, hd7, k7⟩
        have T7 := HT6.out.sameA hd7 k7
        have hsh2 := shows_any T7.a.2.1 (fun k hk => (T7.a.1 k hk).2) T7.a.2.2.1 (by omega) T7.ref (fun k hk e => T7.ab k e hk) HG'.out HS'.out HLE'.out
        have HT7 : Hid _ := T7
        clear hsh hd7 T7
        unfold ptr at hsh2
        go_wp2_with fail
        refine hsh2.mono ?_
        rintro e w8 ⟨rfl, hd8, k8⟩
        have T8 := HT7.out.sameA hd8 k8
        have HT8 : Hid (Tri w w8 _ _ _ d o r K (i + 1) (loadTo xs i + x.s.size) (i + 1) (loadTo ys (i + 1)) (K.length + i + 1) σ' _ ρ') := T8
        clear hsh2 hd8 T8
        go_wp2_with fail
        go_roundw
        case rel =>
          exact ⟨i + 1, by omega, by go_num, _, _, _, _, _, _, _, _, HT8.out.monoA (by rw [HL1.out, HXX.out]; omega), HS'.out⟩
        case measure => simp [intOf]; omega
      · have z3 : ¬ ((i : Int) < (ys.length : Int)) := by omega
        have T4 := T.mono (C2' := i + 1) (L2' := loadTo ys (i + 1)) (by omega) (by rw [loadTo_ge (by omega)]; omega)
        clear T
        have F4 := T4.a.2.2.2
        obtain ⟨g0, g1, g2, g3, g4⟩ := HB.out _ F4
        have hc := T4.a.call (by omega) (by omega) (by omega) x tv HOK.out (by omega) (by omega) (HIN.out.over F4 (fun k hk => (T4.a.1 k hk).1))
        have hfit := T4.a.2.2.1
        have hfl := T4.files
        have hfz := T4.sizes
        obtain ⟨l, hg, hle, hnl⟩ := rg_of hS hfit (by omega) hKl (by omega) hfz
        have HT4 : Hid _ := T4
        have HG : Hid _ := hg
        have HLE : Hid (EntsOf φ σ.now l) := hle
        have HNL : Hid _ := hnl
        have HFZ : Hid _ := hfz
        have HFT : Hid (Fits K i (loadTo xs i) σ) := hfit
        clear T4 hg hle hnl hfz hfit F4
        unfold ptr opVal at hc
        go_wp2_with fail
        refine hc.mono ?_
        rintro e w5 ⟨r1, σ', rfl, st, l5, k5⟩
        have T5 := HT4.out.stepA l5 k5 (by omega)
        have F5 := T5.a.2.2.2
        obtain ⟨g0, g1, g2, g3, g4⟩ := HB.out _ F5
        have ht := told_any T5.ref HG.out x tv (by omega) HOK.out.n (HIN.out.over F5 (fun k hk => (T5.b k hk).1)) (by omega)
        have HT5 : Hid _ := T5
        clear hc l5 T5 F5
        unfold ptr opVal at ht
        go_wp2_with fail
        refine ht.mono ?_
        rintro e w6 ⟨r2, ρ', rfl, rt, h6, k6⟩
        obtain ⟨rfl, ψ, R', hS'⟩ := hS.step HFT.out HLE.out st rt
        obtain ⟨hf6, hz6⟩ := rstep_files (F := K.length + i) rt HFZ.out HNL.out hfl (by omega)
        have T6 := HT5.out.stepB h6 k6 hf6 hz6
        obtain ⟨l', hg', hle', _⟩ := rg_of hS' T6.a.2.2.1 (by omega) hKl (by omega) hz6
        have hsh := shows_any T6.a.2.1 (fun k hk => (T6.a.1 k hk).2) T6.a.2.2.1 (by omega) T6.ref (fun k hk e => T6.ab k e hk) hg' hS' hle'
        have HT6 : Hid _ := T6
        have HS' : Hid _ := hS'
        have HG' : Hid _ := hg'
        have HLE' : Hid _ := hle'
        clear ht rt h6 g0 g1 g2 g3 g4 T6 hg' hle' hS' hf6 hz6 hfl
        unfold ptr at hsh
        go_wp2_with fail
        refine hsh.mono ?_
        rintro e w7 ⟨rfl, hd7, k7⟩
        have T7 := HT6.out.sameA hd7 k7
        have hsh2 := shows_any T7.a.2.1 (fun k hk => (T7.a.1 k hk).2) T7.a.2.2.1 (by omega) T7.ref (fun k hk e => T7.ab k e hk) HG'.out HS'.out HLE'.out
        have HT7 : Hid _ := T7
        clear hsh hd7 T7
        unfold ptr at hsh2
        go_wp2_with fail
        refine hsh2.mono ?_
        rintro e w8 ⟨rfl, hd8, k8⟩
        have T8 := HT7.out.sameA hd8 k8
        have HT8 : Hid (Tri w w8 _ _ _ d o r K (i + 1) (loadTo xs i + x.s.size) (i + 1) (loadTo ys (i + 1)) (K.length + i + 1) σ' _ ρ') := T8
        clear hsh2 hd8 T8
        go_wp2_with fail
        go_roundw
        case rel =>
          exact ⟨i + 1, by omega, by go_num, _, _, _, _, _, _, _, _, HT8.out.monoA (by rw [HL1.out, HXX.out]; omega), HS'.out⟩
        case measure => simp [intOf]; omega
    · have z2 : ¬ (i : Int) < (xs.length : Int) := by omega
      have HF : Hid (Fresh w wr) := T.a.2.2.2
      clear T hS
      go_wp2_with fail
      refine (alive_any wr).mono ?_
      rintro e w4 ⟨rfl, f4⟩
      go_wp2
      go_ret
      exact ⟨rfl, HF.out.trans f4⟩
end Go.Proofs.Ytegbkpjcjlihmaa
