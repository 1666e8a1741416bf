/-
  The law DiskSafe: its walk.
-/
import Derived.Test.YtegbkpjcjlihmabSafe
import Derived.Deep.CutRange
namespace Go.Proofs.Ytegbkpjcjlihmab
open Go.RowKit Go.Maps

theorem info9 : (Try.prog.info? 9).map (fun i => (i.zero.map (fun z => z.cells.size), i.size, i.bytes)) = some (some 1, 1, 16) := by kernel_rfl
theorem info9' : ∃ i z, Try.prog.info? 9 = some i ∧ i.zero = some z ∧ z.cells.size = 1 ∧ i.size = 1 ∧ i.bytes = 16 := by
  obtain ⟨i, hi, h⟩ := Option.map_eq_some_iff.1 info9
  simp only [Prod.mk.injEq] at h
  obtain ⟨z, hz, h1⟩ := Option.map_eq_some_iff.1 h.1
  exact ⟨i, z, hi, hz, h1, h.2.1, h.2.2⟩

/-- a list of texts outside A -/
def Apart (A : Nat → Prop) (w : World) (v : Value) (ks : List Text) : Prop := Row9 w 0 v ks ∧ ∀ k, v.ownBlock = some k → ¬ A k

theorem Apart.next {A : Nat → Prop} {w w' : World} {v : Value} {ks : List Text} (h : Apart A w v ks) (k : Keeps A w w') : Apart (ext A w w') w' v ks := by
  refine ⟨k.owns h.1 h.2, fun j hj e => ?_⟩
  have := (h.1.lt j hj).2
  rcases e with e | e
  · exact h.2 j hj e
  · omega

theorem Apart.same {A : Nat → Prop} {w w' : World} {v : Value} {ks : List Text} (h : Apart A w v ks) (k : Keeps A w w') : Apart A w' v ks := ⟨k.owns h.1 h.2, h.2⟩

def strOf' (s : Text) : ByteArray := ⟨s.toArray⟩

/-- what the files of the first j names hold -/
def olds (σ : Dk) (ks : List Text) (j : Nat) : List Text := (ks.take j).map (fun s => (σ.read s).getD [])

theorem olds_succ {σ : Dk} {ks : List Text} {j : Nat} {s : Text} (h : ks[j]? = some s) : olds σ ks (j + 1) = olds σ ks j ++ [(σ.read s).getD []] := by
  unfold olds
  rw [List.take_add_one, h]
  simp

theorem olds_get {σ : Dk} {ks : List Text} {j : Nat} {s : Text} (h : ks[j]? = some s) : (olds σ ks ks.length)[j]? = some ((σ.read s).getD []) := by
  unfold olds
  rw [List.take_length]
  simp [h]

theorem olds_length (σ : Dk) (ks : List Text) {j : Nat} (hj : j ≤ ks.length) : (olds σ ks j).length = j := by
  unfold olds
  simp
  omega

/-- something else is written -/
theorem Live.side {w wr w1 : World} {A S : Nat → Prop} {d : Nat} {K : List Text} {C L : Nat} {σ : Dk} (h : Live w wr A d K C L σ) (k : Keeps S wr w1) (hS : ∀ i, S i → ¬ A i) (hw : ∀ i, S i → w.heap.size ≤ i) : Live w w1 A d K C L σ := by
  obtain ⟨h1, h2, h3, h4⟩ := h
  have := k.size
  exact ⟨fun i hi => ⟨(h1 i hi).1, by have := (h1 i hi).2; omega⟩, h2.kept k (fun i hi e => hS i e hi) (fun _ h => h), h3, h4.then k (fun i hi e => by have := hw i e; omega)⟩

set_option maxHeartbeats 8000000 in
set_option maxRecDepth 100000 in
theorem lawSafe (K : List Text) (v1 tv : Value) (os : List Op) (name data : ByteArray) (keep : Int) (ts : List Int) (w : World) (h1 : Script w v1 os) (hc1 : Calm K os) (hKl : K.length ≤ 2097152 + 2097152) (hn1 : os.length ≤ 2097152) (hin0 : Ints w (fun _ => False) tv ts)
    (hnm : name.size ≤ maxLen) (hnK : name.data.toList ∈ K) (hdl : data.size ≤ 2097152) :
    Calls Try.prog 3 #[v1, .string name, .string data, .int .i64 keep, tv] w fun e w' => e = .returned (.bool true) ∧ Fresh w w' := by
  obtain ⟨a1, p1, rfl, hp1, hq1, hs1⟩ := h1
  obtain ⟨i9, z9, hi9, hz0, hz1, hz2, hz3⟩ := info9'
  have n0 := new_live K w w (Keeps.refl _ w)
  have S1 : Hid _ := hs1
  have C1 : Hid (Calm K os) := hc1
  have I0 : Hid (Ints w (fun _ => False) tv ts) := hin0
  clear hs1 hc1 hin0
  go_enter Try.func3, Try.ntmps3
  go_wp2_with fail
  refine n0.mono ?_
  rintro e w1 ⟨d, rfl, l1⟩
  have L1 : Hid (Live w w1 (ext (fun _ => False) w w1) d K 0 0 Dk.empty) := l1
  clear n0 l1
  unfold ptr
  go_wp2_with fail
  go_loopw [12] (fun t12 wr => ∃ i : Nat, i ≤ os.length ∧ t12 = .int .i64 i ∧ ∃ A σ, Live w wr A d K i (loadTo os i) σ) (fun t12 _ => os.length - (intOf t12).toNat)
  case atStart => exact ⟨0, Nat.zero_le _, rfl, _, _, L1.out⟩
  case round =>
    obtain ⟨i, hi, rfl, A, σ, l⟩ := hrel
    have hlo := loadTo_le os i
    have hlm := C1.out.2
    by_cases hlt : i < os.length
    · obtain ⟨b, off, rfl, hcs⟩ := S1.out (by omega)
      obtain ⟨o, ho⟩ : ∃ o, os[i]? = some o := ⟨os[i], List.getElem?_eq_getElem hlt⟩
      have hom : o ∈ os := List.mem_of_getElem? ho
      obtain ⟨tv, b0, b1, b2, b3, b4, hin⟩ := hcs i o ho
      have F := l.2.2.2
      have g0 := F.cell b0 (fun e => e)
      have g1 := F.cell b1 (fun e => e)
      have g2 := F.cell b2 (fun e => e)
      have g3 := F.cell b3 (fun e => e)
      have g4 := F.cell b4 (fun e => e)
      have hld := load_mem hom
      have hll : o.load = o.name.size + o.s.size + o.tails.length + 1 := rfl
      have hc := l.call (by omega) (by omega) (by omega) o tv (C1.out.1 o hom) (by omega) (by omega) (hin.over F (fun k hk => (l.1 k hk).1))
      have HL : Hid (loadTo os (i + 1) = loadTo os i + o.load) := loadTo_succ ho
      have Hll : Hid (o.load = o.name.size + o.s.size + o.tails.length + 1) := hll
      clear hcs hin ho b0 b1 b2 b3 b4 hll hom
      have z1 : (0 : Int) ≤ (i : Int) := by omega
      have z2 : (i : Int) < (os.length : Int) := by omega
      unfold ptr opVal at hc
      go_wp2_with fail
      refine hc.mono ?_
      rintro e w2 ⟨r, σ', rfl, _, l2, _⟩
      have l2' : Live w w2 (ext A wr w2) d K (i + 1) (loadTo os (i + 1)) σ' := by
        obtain ⟨x1, x2, x3, x4⟩ := l2
        exact ⟨x1, x2, x3.mono (Nat.le_refl _) (by rw [HL.out, Hll.out]; omega), x4⟩
      clear hc l2 g0 g1 g2 g3 g4
      go_wp2_with fail
      go_roundw
      case rel => exact ⟨i + 1, by omega, by go_num, _, _, l2'⟩
      case measure => simp [intOf]; omega
    · have z2 : ¬ (i : Int) < (os.length : Int) := by omega
      have hcr := l.crash (by omega) (by omega) (by omega) keep tv ts (I0.out.over l.2.2.2 (fun k hk => (l.1 k hk).1))
      unfold ptr at hcr
      go_wp2_with fail
      refine hcr.mono ?_
      rintro e w2 ⟨kz, rfl, hkz, l2, _⟩
      have hsure := crashed_sure (ts := ts) hkz
      obtain ⟨τ, _, hc1', hc2', _, hc4', _⟩ := crashed_eq σ (min keep.toNat σ.chs.length) kz ts
      obtain ⟨σ1, hσ1⟩ : ∃ σ1 : Dk, σ1 = σ.crashed (min keep.toNat σ.chs.length) kz ts := ⟨_, rfl⟩
      rw [← hσ1] at l2 hsure hc1' hc2' hc4'
      have P1 : Hid (AllSure σ1 ∧ σ1.safe = σ1.now ∧ σ1.left = none) := ⟨hsure, by rw [hc1', hc2'], hc4'⟩
      obtain ⟨A2, hA2⟩ : ∃ A2, A2 = ext A wr w2 := ⟨_, rfl⟩
      rw [← hA2] at l2
      obtain ⟨L0, hL0⟩ : ∃ L0, L0 = loadTo os i := ⟨_, rfl⟩
      rw [← hL0] at l2
      have hL0b : L0 ≤ 2097152 := by omega
      clear hkz hsure hc1' hc2' hc4' hσ1 hA2 hcr l hL0 hlo hlm
      have hnm2 := l2.names (by omega)
      have hA2b : ∀ k, A2 k → k < w2.heap.size := fun k hk => (l2.1 k hk).2
      clear l2
      unfold ptr at hnm2
      go_wp2_with fail
      refine hnm2.mono ?_
      rintro e w3 ⟨v, ks, rfl, hks, hkl, hk3, hrow, l3, f3⟩
      have hAp : Apart A2 w3 v ks := ⟨owns_base hrow (fun _ _ => Nat.zero_le _), fun k hk e => by have h' := (hrow.lt k hk).1; have := hA2b k e; omega⟩
      have hvlt : ∀ k, v.ownBlock = some k → k < w3.heap.size := fun k hk => (hrow.lt k hk).2
      obtain ⟨ro, rc, rfl, hrc1, hrc2, hro⟩ := own_form hrow
      unfold maxLen at hrc1
      have hA3 : ∀ k, A2 k → k < w3.heap.size := fun k hk => (l3.1 k hk).2
      have L3 : Hid (Live w w3 A2 d K i L0 σ1 ∧ Apart A2 w3 (.slice ro ks.length rc) ks) := ⟨l3, hAp⟩
      have HB : Hid ((∀ k, (Value.slice ro ks.length rc).ownBlock = some k → k < w3.heap.size) ∧ (∀ k, A2 k → k < w3.heap.size)) := ⟨hvlt, hA3⟩
      clear l3 f3 hnm2 hrow hAp hA2b hvlt hA3
      go_wp2_with fail
      go_loopw [14, 15] (fun t14 t15 wr => ∃ j : Nat, j ≤ ks.length ∧ t15 = .int .i64 j ∧ Live w wr A2 d K i L0 σ1 ∧ Apart A2 wr (.slice ro ks.length rc) ks ∧ Row9 wr w3.heap.size t14 (olds σ1 ks j) ∧ w3.heap.size ≤ wr.heap.size) (fun _ t15 _ => ks.length - (intOf t15).toNat)
      case atStart => exact ⟨0, Nat.zero_le _, rfl, L3.out.1, L3.out.2, World.ownsRow_nil _ _ _ _, Nat.le_refl _⟩
      case round =>
        obtain ⟨j, hj, rfl, l, ap, orow, hs3⟩ := hrel
        by_cases hlt2 : j < ks.length
        · obtain ⟨g, rfl⟩ := hro (by omega)
          obtain ⟨s, hs⟩ : ∃ s, ks[j]? = some s := ⟨ks[j], List.getElem?_eq_getElem hlt2⟩
          have hsm : s ∈ ks := List.mem_of_getElem? hs
          have q1 : wr.cell? ⟨g, j, none⟩ = some (.string ⟨s.toArray⟩) := own_cell ap.1 j (encStr s) (by simp [hs])
          have hrd := l.read ⟨s.toArray⟩ (by simpa [ByteArray.size] using hk3 s hsm)
          have hex : (σ1.read s).isSome = true := by
            have := (hks.mem s).1 hsm
            unfold Dk.read
            rw [Option.isSome_map]; exact this
          have es : (⟨s.toArray⟩ : ByteArray).data.toList = s := by simp
          rw [es, hex] at hrd
          have HO : Hid (olds σ1 ks (j + 1) = olds σ1 ks j ++ [(σ1.read s).getD []]) := olds_succ hs
          have HOL : Hid ((olds σ1 ks j).length = j) := olds_length σ1 ks hj
          clear hs hsm hex es
          have z1 : (0 : Int) ≤ (j : Int) := by omega
          have z2 : (j : Int) < (ks.length : Int) := by omega
          obtain ⟨T, hT⟩ : ∃ T : ByteArray, T = ⟨((σ1.read s).getD []).toArray⟩ := ⟨_, rfl⟩
          rw [← hT] at hrd
          have HT : Hid (T = ⟨((σ1.read s).getD []).toArray⟩) := hT
          clear hT
          unfold ptr at hrd
          go_wp2_with fail
          refine hrd.mono ?_
          rintro e w4 ⟨rfl, l4, k4⟩
          have ap4 := ap.same k4
          have orow4 : Row9 w4 w3.heap.size u14 (olds σ1 ks j) := k4.owns orow (fun k hk e => by have h' := (orow.lt k hk).1; have := HB.out.2 k e; omega)
          have s34 : w3.heap.size ≤ w4.heap.size := Nat.le_trans hs3 k4.size
          clear l ap orow hrd q1
          go_wp2_with (at_builtin; refine wpList_append_placed _ rfl _ _ 30 rfl w3.heap.size 9 i9 z9 1 16 Try.underlying30 hi9 hz0 hz2 hz3 hz1 (by decide) _ (olds σ1 ks j).length ((olds σ1 ks j).map encStr) rfl (orow4.alloc _) ⟨w4.heap.size, 0, none⟩ 1 1 [.string T] rfl rfl ?c1 ?c2 ?c3 ?c4 ?c5 ?_)
          case c1 =>
            intro j u hj
            match j, hj with
            | 0, hj => simp at hj; subst hj; simp [Addr.add]
          case c2 => intro u hu; simp at hu; subst hu; rfl
          case c3 => unfold maxLen; have := HOL.out; omega
          case c4 => have := HOL.out; omega
          case c5 => simp; omega
          intro v' w5 hown' hgrow hpl
          have kS : Keeps (fun k => u14.ownBlock = some k) w4 w5 := ((Keeps.refl (fun k => u14.ownBlock = some k) w4).alloc _).grown hgrow (fun k hk _ => hk)
          have s35 : w3.heap.size ≤ w5.heap.size := Nat.le_trans s34 kS.size
          have l5 := l4.side kS (fun k hk e => by have h' := (orow4.lt k hk).1; have := HB.out.2 k e; omega) (fun k hk => by have h' := (orow4.lt k hk).1; have := L3.out.1.2.2.2.size; omega)
          have ap5 : Apart A2 w5 (.slice (some ⟨g, 0, none⟩) ks.length rc) ks := ⟨kS.owns ap4.1 (fun k hk e => by have h' := (orow4.lt k e).1; have := HB.out.1 k hk; omega), ap4.2⟩
          have orow5 : Row9 w5 w3.heap.size v' (olds σ1 ks (j + 1)) := by
            unfold Row9
            rw [HO.out, List.length_append, List.map_append]
            have e1 : ([(σ1.read s).getD []] : List Text).map encStr = [.string T] := by rw [HT.out]; rfl
            rw [e1]
            exact hown'
          clear hown' hgrow hpl kS l4 ap4 orow4
          go_wp2_with fail
          go_roundw
          case rel => exact ⟨j + 1, by omega, by go_num, l5, ap5, orow5, s35⟩
          case measure => simp [intOf]; omega
        · have z2 : ¬ (j : Int) < (ks.length : Int) := by omega
          have ej : j = ks.length := by omega
          subst ej
          have oap : Apart A2 wr u14 (olds σ1 ks ks.length) := ⟨owns_base orow (fun _ _ => Nat.zero_le _), fun k hk e => by have h' := (orow.lt k hk).1; have := HB.out.2 k e; omega⟩
          obtain ⟨oo, oc, ho14, hoc1, hoc2, hoo⟩ := own_form orow
          have hol := olds_length σ1 ks (Nat.le_refl ks.length)
          rw [hol] at ho14 hoc2 hoo
          subst ho14
          unfold maxLen at hoc1
          obtain ⟨th, hth⟩ : ∃ th, th = (σ1.read name.data.toList).isSome := ⟨_, rfl⟩
          have c1 := l.read name hnm
          rw [← hth] at c1
          have hth' : th = (σ1.now name.data.toList).isSome := by rw [hth]; unfold Dk.read; rw [Option.isSome_map]
          have HTH : Hid (th = (σ1.now name.data.toList).isSome) := hth'
          obtain ⟨R0, hR0⟩ : ∃ R0 : ByteArray, R0 = ⟨((σ1.read name.data.toList).getD []).toArray⟩ := ⟨_, rfl⟩
          rw [← hR0] at c1
          clear hth hth' hR0 orow hol l
          unfold ptr at c1
          go_wp2_with fail
          refine c1.mono ?_
          rintro e w4 ⟨rfl, l4, k4⟩
          have ap4 := ap.same k4
          have oap4 := oap.same k4
          have c2 := l4.create (by omega) (by omega) name hnm hnK
          have HF4 : Hid (Fits K i L0 σ1) := l4.2.2.1
          clear c1 ap oap k4 l4
          unfold ptr at c2
          go_wp2_with fail
          refine c2.mono ?_
          rintro e w5 ⟨ka, σ2, rfl, sa, l5, k5⟩
          have ap5 := ap4.next k5
          have oap5 := oap4.next k5
          obtain ⟨hka, x, c0, n0', sf2⟩ := sf_create HF4.out P1.out.2.2 sa
          rw [← HTH.out] at hka
          have HKA : Hid (ka = if th then 5 else 0) := hka
          clear hka
          have c3 := l5.append (by omega) name data hnm (by omega)
          generalize ext A2 w4 w5 = A5 at l5 ap5 oap5 c3
          clear c2 ap4 oap4 k5 sa l5
          unfold ptr at c3
          go_wp2_with fail
          refine c3.mono ?_
          rintro e w6 ⟨kb, σ3, rfl, sb, l6, k6⟩
          have ap6 := ap5.next k6
          have oap6 := oap5.next k6
          obtain ⟨rfl, sf3, _, _, _⟩ := sf_append sf2 sb
          have c4 := l6.sync name hnm
          generalize ext A5 w5 w6 = A6 at l6 ap6 oap6 c4
          clear c3 ap5 oap5 k6 sb l6 sf2
          unfold ptr at c4
          go_wp2_with fail
          refine c4.mono ?_
          rintro e w7 ⟨kc, σ4, rfl, sc, l7, k7⟩
          have ap7 := ap6.next k7
          have oap7 := oap6.next k7
          obtain ⟨rfl, sf4⟩ := sf_sync sf3 sc
          have c5 := l7.syncDir (by omega)
          have HF7 : Hid (Fits K (i + 1) (L0 + data.size) σ4) := l7.2.2.1
          generalize ext A6 w6 w7 = A7 at l7 ap7 oap7 c5
          clear c4 ap6 oap6 k7 sc l7 sf3
          unfold ptr at c5
          go_wp2_with fail
          refine c5.mono ?_
          rintro e w8 ⟨ke, σ5, rfl, se, l8, k8⟩
          have ap8 := ap7.next k8
          have oap8 := oap7.next k8
          obtain ⟨rfl, sf5, hsf5, hch5⟩ := sf_syncDir HF7.out sf4 se
          generalize ext A7 w7 w8 = A8 at l8 ap8 oap8
          have SF5 : Hid (Sf σ1 name.data.toList x (c0 ++ data.data.toList) (c0 ++ data.data.toList).length σ5 ∧ σ5.safe = σ5.now ∧ σ5.chs = []) := ⟨sf5, hsf5, hch5⟩
          have L8 : Hid (Live w w8 A8 d K (i + 1) (L0 + data.size) σ5 ∧ Apart A8 w8 (.slice ro ks.length rc) ks ∧ Apart A8 w8 (.slice oo ks.length oc) (olds σ1 ks ks.length)) := ⟨l8, ap8, oap8⟩
          clear c5 ap7 oap7 k8 se sf4 ap8 oap8 l8 sf5 hsf5 hch5
          go_upto_region 23 with fail
          go_cut [119] from 91 to 119 (fun t119 wx => t119 = .bool false ∧ wx = w8)
          case first =>
            cases th
            · obtain rfl : ka = 0 := HKA.out
              clear HKA
              go_wp2_with (go_at_call 14; refine (num_any _ _).mono ?_; rintro e w' ⟨rfl, rfl⟩)
              go_meet
              exact ⟨rfl, rfl⟩
            · obtain rfl : ka = 5 := HKA.out
              clear HKA
              go_wp2_with (go_at_call 14; refine (num_any _ _).mono ?_; rintro e w' ⟨rfl, rfl⟩)
              go_meet
              exact ⟨rfl, rfl⟩
          case rest =>
          obtain ⟨rfl, rfl⟩ := hcut
          obtain ⟨WB, hWB⟩ : ∃ WB : ByteArray, WB = ⟨(c0 ++ data.data.toList).toArray⟩ := ⟨_, rfl⟩
          have hWl : WB.data.toList = c0 ++ data.data.toList := by rw [hWB]
          have hWs : WB.size = c0.length + data.size := by
            have e1 : WB.size = WB.data.toList.length := by rw [Array.length_toList]; rfl
            rw [e1, hWl, List.length_append, Array.length_toList]; rfl
          have hlt0 : ¬ ((WB.size : Int) < (data.size : Int)) := by omega
          have hlo0 : (0 : Int) ≤ (WB.size : Int) - (data.size : Int) := by omega
          have hhi0 : (WB.size : Int) - (data.size : Int) ≤ (WB.size : Int) := by omega
          have hex0 : WB.extract ((WB.size : Int) - (data.size : Int)).toNat WB.size = data := by
            have e2 : ((WB.size : Int) - (data.size : Int)).toNat = c0.length := by omega
            rw [e2]
            have e3 : (WB.extract c0.length WB.size).data.toList = data.data.toList := by
              rw [extract_list, hWl, List.take_of_length_le (by rw [List.length_append, hWs, Array.length_toList]; exact Nat.le_refl _)]; simp
            have e4 : (WB.extract c0.length WB.size).data = data.data := Array.toList_inj.1 e3
            cases hh : WB.extract c0.length WB.size
            rw [hh] at e4
            cases data
            simp only at e4
            rw [e4]
          have hex1 : WB.extract (WB.size - data.size) WB.size = data := by
            have e2 : ((WB.size : Int) - (data.size : Int)).toNat = WB.size - data.size := by omega
            rw [← e2]; exact hex0
          have hWb : WB.size ≤ 4194304 := by
            have hx := (L8.out.1.2.2.1.sizes x (L8.out.1.2.2.1.nowIn _ x SF5.out.1.now)).2
            have hy : (σ5.cont x).length = WB.size := by rw [SF5.out.1.cont, ← hWl, Array.length_toList]; rfl
            have hz : L0 + data.size ≤ 4194304 := by omega
            rw [hy] at hx
            exact Nat.le_trans hx hz
          have hwr : wrap64 ((WB.size : Int) - (data.size : Int)) = (WB.size : Int) - (data.size : Int) := by
            have := IntWalk.i64_in ((WB.size : Int) - (data.size : Int)) ⟨by omega, by omega⟩
            rw [IntWalk.i64_left] at this
            exact this
          have HWB : Hid (WB = ⟨(c0 ++ data.data.toList).toArray⟩) := hWB
          clear hWB hWl
          have HWs : Hid (WB.size = c0.length + data.size) := hWs
          clear hWs
          have hrd5 : σ5.read name.data.toList = some (c0 ++ data.data.toList) := by
            unfold Dk.read
            rw [SF5.out.1.now]
            exact congrArg some SF5.out.1.cont
          have c6 := L8.out.1.read name hnm
          rw [hrd5] at c6
          simp only [Option.getD_some, Option.isSome_some] at c6
          rw [← HWB.out] at c6
          clear hrd5
          unfold ptr at c6
          go_wp2_with fail
          refine c6.mono ?_
          rintro e w9 ⟨rfl, l9, k9⟩
          have ap9 := L8.out.2.1.same k9
          have oap9 := L8.out.2.2.same k9
          have c7 := l9.append (by omega) name ⟨#[109, 111, 114, 101]⟩ hnm (by decide)
          clear c6 k9 l9
          unfold ptr at c7
          go_wp2_with fail
          refine c7.mono ?_
          rintro e w10 ⟨kf, σ6, rfl, sf, l10, k10⟩
          have ap10 := ap9.next k10
          have oap10 := oap9.next k10
          obtain ⟨rfl, sf6, hs6, hc6, hn6⟩ := sf_append SF5.out.1 sf
          have hs6' : σ6.safe = σ6.now := by rw [hs6, hn6]; exact SF5.out.2.1
          have hc6' : σ6.chs = [] := by rw [hc6]; exact SF5.out.2.2
          have hms : (⟨#[109, 111, 114, 101]⟩ : ByteArray).size = 4 := rfl
          have c8 := l10.crash (by omega) (by omega) (by omega) keep (.slice none 0 0) [] ⟨none, 0, rfl, by omega, Nat.le_refl _, fun e => absurd rfl e⟩
          generalize ext A8 w9 w10 = A10 at l10 ap10 oap10 c8
          clear c7 ap9 oap9 k10 sf l10 hs6 hc6 hn6
          unfold ptr at c8
          go_wp2_with fail
          refine c8.mono ?_
          rintro e w11 ⟨k8s, rfl, hk8, l11, k11⟩
          have ap11 := ap10.next k11
          have oap11 := oap10.next k11
          obtain ⟨r1, r2⟩ := sf_crash P1.out.1 P1.out.2.1 sf6 hs6' hc6' hk8
          obtain ⟨σ7, hσ7⟩ : ∃ σ7 : Dk, σ7 = σ6.crashed (min keep.toNat σ6.chs.length) k8s [] := ⟨_, rfl⟩
          rw [← hσ7] at l11 r1 r2
          have R2 : Hid (∀ s u, σ1.read s = some u → σ7.read s = some u ∨ (s = name.data.toList ∧ (σ7.read s).isSome = true)) := r2
          have c9 := l11.read name hnm
          rw [r1] at c9
          simp only [Option.getD_some, Option.isSome_some] at c9
          rw [← HWB.out] at c9
          generalize ext A10 w10 w11 = A11 at l11 ap11 oap11 c9
          clear c8 ap10 oap10 k11 hk8 sf6 hs6' hc6' r1 r2 hσ7 l11
          unfold ptr at c9
          go_wp2_with fail
          refine c9.mono ?_
          rintro e w12 ⟨rfl, l12, k12⟩
          have L12 : Hid (Live w w12 A11 d K (i + 1) (L0 + data.size + 4) σ7 ∧ Apart A11 w12 (.slice ro ks.length rc) ks ∧ Apart A11 w12 (.slice oo ks.length oc) (olds σ1 ks ks.length)) := ⟨l12, ap11.same k12, oap11.same k12⟩
          clear c9 ap11 oap11 k12 l12
          have hlt3 : decide ((WB.size : Int) < (data.size : Int)) = false := by simpa using hlt0
          have hlt4 : decide (WB.size < data.size) = false := by simp; omega
          go_upto_region 29 with fail
          go_cut [162] from 138 to 162 (fun t162 wx => t162 = .bool false ∧ wx = w12)
          case first =>
            go_wp2_with fail
            go_meet
            exact ⟨rfl, rfl⟩
          case rest =>
          obtain ⟨rfl, rfl⟩ := hcut
          clear hlt0 hlo0 hhi0 hex0 hex1 hwr hlt3 hlt4 hWb
          go_wp2_with fail
          go_loopw [28] (fun t28 wr => ∃ m : Nat, m ≤ ks.length ∧ t28 = .int .i64 m ∧ Live w wr A11 d K (i + 1) (L0 + data.size + 4) σ7 ∧ Apart A11 wr (.slice ro ks.length rc) ks ∧ Apart A11 wr (.slice oo ks.length oc) (olds σ1 ks ks.length)) (fun t28 _ => ks.length - (intOf t28).toNat)
          case atStart => exact ⟨0, Nat.zero_le _, rfl, L12.out⟩
          case round =>
            obtain ⟨m, hm, rfl, lm, apm, oapm⟩ := hrel
            by_cases hlt3 : m < ks.length
            · obtain ⟨g, rfl⟩ := hro (by omega)
              obtain ⟨go, rfl⟩ := hoo (by omega)
              obtain ⟨s, hs⟩ : ∃ s, ks[m]? = some s := ⟨ks[m], List.getElem?_eq_getElem hlt3⟩
              have hsm : s ∈ ks := List.mem_of_getElem? hs
              obtain ⟨u, hu⟩ : ∃ u, σ1.read s = some u := by
                have := (hks.mem s).1 hsm
                obtain ⟨y, hy⟩ := Option.isSome_iff_exists.1 this
                exact ⟨σ1.cont y, by unfold Dk.read; rw [hy]; rfl⟩
              have hog := olds_get (σ := σ1) hs
              rw [hu] at hog
              simp only [Option.getD_some] at hog
              have es : (⟨s.toArray⟩ : ByteArray).data.toList = s := by simp
              have hrd := lm.read ⟨s.toArray⟩ (by simpa [ByteArray.size] using hk3 s hsm)
              rw [es] at hrd
              have q1 : wr.cell? ⟨g, m, none⟩ = some (.string ⟨s.toArray⟩) := own_cell apm.1 m (encStr s) (by simp [hs])
              have hol := olds_length σ1 ks (Nat.le_refl ks.length)
              have q2 : ∀ W, Apart A11 W (.slice (some ⟨go, 0, none⟩) ks.length oc) (olds σ1 ks ks.length) → W.cell? ⟨go, m, none⟩ = some (.string ⟨u.toArray⟩) := fun W hW => by
                have h' := hW.1
                unfold Row9 at h'
                rw [hol] at h'
                exact own_cell h' m (encStr u) (by simp [hog])
              have q3 : ∀ W, Apart A11 W (.slice (some ⟨g, 0, none⟩) ks.length rc) ks → W.cell? ⟨g, m, none⟩ = some (.string ⟨s.toArray⟩) := fun W hW => own_cell hW.1 m (encStr s) (by simp [hs])
              have y1 : (0 : Int) ≤ (m : Int) := by omega
              have y2 : (m : Int) < (ks.length : Int) := by omega
              by_cases hsn : s = name.data.toList
              · have hsB : (⟨s.toArray⟩ : ByteArray) = name := by rw [hsn]
                have hsome : (σ7.read s).isSome = true := by
                  rcases R2.out s u hu with h' | h'
                  · rw [h']; rfl
                  · exact h'.2
                rw [hsome] at hrd
                rw [hsB] at hrd q1
                obtain ⟨R7, hR7⟩ : ∃ R7 : ByteArray, R7 = ⟨((σ7.read s).getD []).toArray⟩ := ⟨_, rfl⟩
                rw [← hR7] at hrd
                have q3' := fun W hW => q3 W hW
                rw [hsB] at q3'
                clear hs hsm hu hog es hsn hsB hsome hR7 q3 hol
                unfold ptr at hrd
                go_wp2_with fail
                refine hrd.mono ?_
                rintro e w13 ⟨rfl, l13, k13⟩
                have ap13 := apm.same k13
                have oap13 := oapm.same k13
                have t1 := q3' w13 ap13
                clear hrd q1 q2 q3' apm oapm lm k13
                go_wp2_with fail
                go_roundw
                case rel => exact ⟨m + 1, by omega, by go_num, l13, ap13, oap13⟩
                case measure => simp [intOf]; omega
              · have hsB : (⟨s.toArray⟩ : ByteArray) ≠ name := fun e => hsn (by rw [← e])
                have h7 : σ7.read s = some u := by
                  rcases R2.out s u hu with h' | h'
                  · exact h'
                  · exact absurd h'.1 hsn
                rw [h7] at hrd
                simp only [Option.getD_some, Option.isSome_some] at hrd
                have hbn : ((⟨s.toArray⟩ : ByteArray).toList == name.toList) = false := by
                  rw [ByteArray.toList_eq, ByteArray.toList_eq]
                  simpa using hsn
                have hsl : ¬ (s = name.toList) := by rw [ByteArray.toList_eq]; exact hsn
                clear hs hsm hu hog es hsn h7 hol hsB
                unfold ptr at hrd
                go_wp2_with fail
                refine hrd.mono ?_
                rintro e w13 ⟨rfl, l13, k13⟩
                have ap13 := apm.same k13
                have oap13 := oapm.same k13
                have t1 := q3 w13 ap13
                have t2 := q2 w13 oap13
                clear hrd q1 q2 q3 apm oapm lm k13
                go_wp2_with fail
                go_roundw
                case rel => exact ⟨m + 1, by omega, by go_num, l13, ap13, oap13⟩
                case measure => simp [intOf]; omega
            · have y2 : ¬ (m : Int) < (ks.length : Int) := by omega
              have F := lm.2.2.2
              clear lm apm oapm
              go_wp2_with fail
              refine (alive_any _).mono ?_
              rintro e w14 ⟨rfl, f14⟩
              go_wp2
              go_ret
              exact ⟨rfl, F.trans f14⟩
end Go.Proofs.Ytegbkpjcjlihmab
