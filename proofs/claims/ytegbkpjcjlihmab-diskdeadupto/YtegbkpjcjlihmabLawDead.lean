/-
  The law DiskDead: its walk.
-/
import Derived.Test.YtegbkpjcjlihmabLiv
namespace Go.Proofs.Ytegbkpjcjlihmab
open Go.RowKit Go.Maps

/-- a disk that has stopped does nothing -/
theorem step_dead {σ σ' : Dk} {o : Op} {r : Int} (hd : σ.left = some 0) (h0 : 0 ≤ o.kind) (h5 : o.kind ≤ 5) (h : Step σ o r σ') : r = 6 ∧ σ' = σ := by
  have hdd : σ.dead = true := by simp [Dk.dead, hd]
  have ht : σ.tick = σ := by cases σ; simp only at hd; simp [Dk.tick, hd]
  have no : ∀ {p : Prop}, σ.dead = false → p := fun h => by rw [hdd] at h; cases h
  rcases h with ⟨_, h⟩ | ⟨_, h⟩ | ⟨_, h⟩ | ⟨_, h⟩ | ⟨_, h⟩ | ⟨_, h⟩ | ⟨h, _⟩ | ⟨h, _⟩ | ⟨h, _⟩
  · rcases h with ⟨_, rfl, rfl⟩ | ⟨h, _⟩ | ⟨h, _⟩
    · exact ⟨rfl, ht⟩
    · exact no h
    · exact no h
  · rcases h with ⟨_, rfl, rfl⟩ | ⟨h, _⟩ | ⟨h, _⟩
    · exact ⟨rfl, ht⟩
    · exact no h
    · exact no h
  · rcases h with ⟨_, rfl, rfl⟩ | ⟨h, _⟩ | ⟨h, _⟩
    · exact ⟨rfl, ht⟩
    · exact no h
    · exact no h
  · rcases h with ⟨_, rfl, rfl⟩ | ⟨h, _⟩ | ⟨h, _⟩
    · exact ⟨rfl, ht⟩
    · exact no h
    · exact no h
  · rcases h with ⟨_, rfl, rfl⟩ | ⟨h, _⟩ | ⟨h, _⟩
    · exact ⟨rfl, ht⟩
    · exact no h
    · exact no h
  · rcases h with ⟨_, rfl, rfl⟩ | ⟨h, _⟩
    · exact ⟨rfl, ht⟩
    · exact no h
  · omega
  · omega
  · omega

set_option maxHeartbeats 8000000 in
set_option maxRecDepth 100000 in
theorem lawDead (K : List Text) (v1 v2 : Value) (os more : List Op) (w : World) (h1 : Script w v1 os) (h2 : Script w v2 more) (hc1 : Calm K os) (hc2 : Calm K more) (hKl : K.length ≤ 1099511627776) (hn1 : os.length ≤ 2097152) (hn2 : more.length ≤ 2097152) :
    Calls Try.prog 4 #[v1, v2] w fun e w' => e = .returned (.bool true) ∧ Fresh w w' := by
  obtain ⟨a1, p1, rfl, hp1, hq1, hs1⟩ := h1
  obtain ⟨a2, p2, rfl, hp2, hq2, hs2⟩ := h2
  have n0 := new_live K w w (Keeps.refl _ w)
  have S1 : Hid _ := hs1
  have S2 : Hid _ := hs2
  have C1 : Hid (Calm K os) := hc1
  have C2 : Hid (Calm K more) := hc2
  clear hs1 hs2 hc1 hc2
  go_enter Try.func4, Try.ntmps4
  go_wp2_with fail
  refine n0.mono ?_
  rintro e w1 ⟨d, rfl, l1⟩
  have L1 : Hid (Live w w1 (ext (fun _ => False) w w1) d K 0 0 Dk.empty) := l1
  clear n0 l1
  unfold ptr
  go_wp2_with fail
  go_loopw [6] (fun t6 wr => ∃ i : Nat, i ≤ os.length ∧ t6 = .int .i64 i ∧ ∃ A σ, Live w wr A d K i (loadTo os i) σ) (fun t6 _ => os.length - (intOf t6).toNat)
  case atStart => exact ⟨0, Nat.zero_le _, rfl, _, _, L1.out⟩
  case round =>
    obtain ⟨i, hi, rfl, A, σ, l⟩ := hrel
    have hlo := loadTo_le os i
    have hlm := C1.out.2
    by_cases hlt : i < os.length
    · obtain ⟨b, off, rfl, hcs⟩ := S1.out (by omega)
      obtain ⟨o, ho⟩ : ∃ o, os[i]? = some o := ⟨os[i], List.getElem?_eq_getElem hlt⟩
      have hom : o ∈ os := List.mem_of_getElem? ho
      obtain ⟨tv, b0, b1, b2, b3, b4, hin⟩ := hcs i o ho
      have F := l.2.2.2
      have g0 := F.cell b0 (fun e => e)
      have g1 := F.cell b1 (fun e => e)
      have g2 := F.cell b2 (fun e => e)
      have g3 := F.cell b3 (fun e => e)
      have g4 := F.cell b4 (fun e => e)
      have hld := load_mem hom
      have hll : o.load = o.name.size + o.s.size + o.tails.length + 1 := rfl
      have hc := l.call hKl (by omega) (by omega) o tv (C1.out.1 o hom) (by omega) (by omega) (hin.over F (fun k hk => (l.1 k hk).1))
      have HL : Hid (loadTo os (i + 1) = loadTo os i + o.load) := loadTo_succ ho
      have Hll : Hid (o.load = o.name.size + o.s.size + o.tails.length + 1) := hll
      clear hcs hin ho b0 b1 b2 b3 b4 hll hom
      have z1 : (0 : Int) ≤ (i : Int) := by omega
      have z2 : (i : Int) < (os.length : Int) := by omega
      unfold ptr opVal at hc
      go_wp2_with fail
      refine hc.mono ?_
      rintro e w2 ⟨r, σ', rfl, _, l2, _⟩
      have l2' : Live w w2 (ext A wr w2) d K (i + 1) (loadTo os (i + 1)) σ' := by
        obtain ⟨x1, x2, x3, x4⟩ := l2
        exact ⟨x1, x2, x3.mono (Nat.le_refl _) (by rw [HL.out, Hll.out]; omega), x4⟩
      clear hc l2 g0 g1 g2 g3 g4
      go_wp2_with fail
      go_roundw
      case rel => exact ⟨i + 1, by omega, by go_num, _, _, l2'⟩
      case measure => simp [intOf]; omega
    · have z2 : ¬ (i : Int) < (os.length : Int) := by omega
      have hst := l.stop 0 (by omega)
      have HC : Hid (i ≤ os.length) := hi
      unfold ptr at hst
      go_wp2_with fail
      refine hst.mono ?_
      rintro e w2 ⟨rfl, l2, _⟩
      clear hst l
      obtain ⟨σs, hσs⟩ : ∃ σs : Dk, σs = { σ with left := some (Int.toNat 0) } := ⟨_, rfl⟩
      rw [← hσs] at l2
      have hdl : σs.left = some 0 := by rw [hσs]; rfl
      have HDL : Hid (σs.left = some 0) := hdl
      clear hσs hdl
      obtain ⟨A2, hA2⟩ : ∃ A2, A2 = ext A wr w2 := ⟨_, rfl⟩
      rw [← hA2] at l2
      clear hA2
      have hnm := l2.names hKl
      have hA2b : ∀ k, A2 k → k < w2.heap.size := fun k hk => (l2.1 k hk).2
      clear l2
      unfold ptr at hnm
      go_wp2_with fail
      refine hnm.mono ?_
      rintro e w3 ⟨v, ks, rfl, hks, hkl, hk3, hrow, l3, f3⟩
      have hvA : ∀ k, v.ownBlock = some k → ¬ A2 k := fun k hk e => by
        have h' := (hrow.lt k hk).1
        have := hA2b k e
        omega
      obtain ⟨B, hB⟩ : ∃ B, B = w2.heap.size := ⟨_, rfl⟩
      rw [← hB] at hrow
      obtain ⟨LT, hLT⟩ : ∃ LT, LT = loadTo os i := ⟨_, rfl⟩
      rw [← hLT] at l3
      have hLTb : LT ≤ 2097152 := by rw [hLT]; omega
      obtain ⟨ro, rc, rfl, hrc1, hrc2, hro⟩ := own_form hrow
      unfold maxLen at hrc1
      have L3 : Hid (Live w w3 A2 d K i LT σs ∧ Row9 w3 B (.slice ro ks.length rc) ks ∧ (∀ k, (Value.slice ro ks.length rc).ownBlock = some k → ¬ A2 k)) := ⟨l3, hrow, hvA⟩
      clear hLT hB hA2b l3 f3 hnm hrow hvA hlo hlm
      go_wp2_with fail
      go_loopw [8] (fun t8 wq => ∃ j : Nat, j ≤ more.length ∧ t8 = .int .i64 j ∧ ∃ A, Live w wq A d K (i + j) (LT + loadTo more j) σs ∧ Row9 wq B (.slice ro ks.length rc) ks ∧ (∀ k, (Value.slice ro ks.length rc).ownBlock = some k → ¬ A k)) (fun t8 _ => more.length - (intOf t8).toNat)
      case atStart => exact ⟨0, Nat.zero_le _, rfl, A2, L3.out⟩
      case round =>
        obtain ⟨j, hj, rfl, A, l, hrow, hvA⟩ := hrel
        have hlo := loadTo_le more j
        have hlm := C2.out.2
        by_cases hlt : j < more.length
        · obtain ⟨b, off, rfl, hcs⟩ := S2.out (by omega)
          obtain ⟨o, ho⟩ : ∃ o, more[j]? = some o := ⟨more[j], List.getElem?_eq_getElem hlt⟩
          have hom : o ∈ more := List.mem_of_getElem? ho
          obtain ⟨tv, b0, b1, b2, b3, b4, hin⟩ := hcs j o ho
          obtain ⟨to, tcp, htv⟩ : ∃ to tcp, tv = .slice to o.tails.length tcp := by obtain ⟨to, tcp, h, _⟩ := hin; exact ⟨to, tcp, h⟩
          subst htv
          have F := l.2.2.2
          have g0 := F.cell b0 (fun e => e)
          have g1 := F.cell b1 (fun e => e)
          have g2 := F.cell b2 (fun e => e)
          have g3 := F.cell b3 (fun e => e)
          have g4 := F.cell b4 (fun e => e)
          have hld := load_mem hom
          have hll : o.load = o.name.size + o.s.size + o.tails.length + 1 := rfl
          obtain ⟨wb, hwb⟩ : ∃ wb, wb = wr.alloc (.cells #[.int .i64 o.kind, .string o.name, .string o.s, .int .i64 o.n, .slice to o.tails.length tcp] 28) := ⟨_, rfl⟩
          have kb : Fresh wr wb := by rw [hwb]; exact (Keeps.refl _ wr).alloc _
          have hbx : wb.heap[wr.heap.size]? = some (.cells #[.int .i64 o.kind, .string o.name, .string o.s, .int .i64 o.n, .slice to o.tails.length tcp] 28 (0, 0)) := by rw [hwb]; exact heap_alloc_new wr _
          have lb := l.fresh kb
          have rb : Row9 wb B (.slice ro ks.length rc) ks := kb.owns hrow (fun _ _ e => e)
          have HL : Hid (loadTo more (j + 1) = loadTo more j + o.load) := loadTo_succ ho
          have Hll : Hid (o.load = o.name.size + o.s.size + o.tails.length + 1) := hll
          have z1 : (0 : Int) ≤ (j : Int) := by omega
          have z2 : (j : Int) < (more.length : Int) := by omega
          have hint : Ints wb A (.slice to o.tails.length tcp) o.tails := hin.over (F.trans kb) (fun k hk => (lb.1 k hk).1)
          have LB : Hid (Live w wb A d K (i + (j + 1)) (LT + loadTo more (j + 1)) σs ∧ Row9 wb B (.slice ro ks.length rc) ks ∧ (∀ k, (Value.slice ro ks.length rc).ownBlock = some k → ¬ A k)) := by
            obtain ⟨x1, x2, x3, x4⟩ := lb
            exact ⟨⟨x1, x2, x3.mono (by omega) (by rw [HL.out]; omega), x4⟩, rb, hvA⟩
          by_cases hk0 : 0 ≤ o.kind
          · by_cases hk5 : o.kind ≤ 5
            · have hc := lb.call hKl (by omega) (by omega) o _ (C2.out.1 o hom) (by omega) (by omega) hint
              rw [hwb] at hc
              have HRB : Hid (Row9 wb B (.slice ro ks.length rc) ks ∧ (∀ k, (Value.slice ro ks.length rc).ownBlock = some k → ¬ A k ∧ k < wb.heap.size)) := ⟨rb, fun k hk => ⟨hvA k hk, (rb.lt k hk).2⟩⟩
              have HWB : Hid (wb = wr.alloc (.cells #[.int .i64 o.kind, .string o.name, .string o.s, .int .i64 o.n, .slice to o.tails.length tcp] 28)) := hwb
              clear hcs hin ho b0 b1 b2 b3 b4 hll hom hint rb lb hbx kb hwb hrow hvA l
              unfold ptr opVal at hc
              go_wp2_with fail
              refine hc.mono ?_
              rintro e w4 ⟨r, σ', rfl, hst, l4, k4⟩
              obtain ⟨rfl, rfl⟩ := step_dead HDL.out hk0 hk5 hst
              rw [← HWB.out] at l4 k4
              have L4 : Hid (Live w w4 (ext A wb w4) d K (i + (j + 1)) (LT + loadTo more (j + 1)) σ' ∧ Row9 w4 B (.slice ro ks.length rc) ks ∧ (∀ k, (Value.slice ro ks.length rc).ownBlock = some k → ¬ ext A wb w4 k)) := by
                obtain ⟨x1, x2, x3, x4⟩ := l4
                refine ⟨⟨x1, x2, x3.mono (by omega) (by rw [HL.out, Hll.out]; omega), x4⟩, k4.owns HRB.out.1 (fun k hk => (HRB.out.2 k hk).1), fun k hk e => ?_⟩
                have := HRB.out.2 k hk
                rcases e with e | e
                · exact this.1 e
                · omega
              clear hc hst l4 k4 g0 g1 g2 g3 g4
              go_wp2_with fail
              go_roundw
              case rel => exact ⟨j + 1, by omega, by go_num, _, L4.out⟩
              case measure => simp [intOf]; omega
            · clear hcs hin ho b0 b1 b2 b3 b4 hll hom hint rb lb hbx kb hrow hvA l
              rw [hwb] at LB
              clear hwb
              go_wp2_with fail
              go_roundw
              case rel => exact ⟨j + 1, by omega, by go_num, _, LB.out⟩
              case measure => simp [intOf]; omega
          · clear hcs hin ho b0 b1 b2 b3 b4 hll hom hint rb lb hbx kb hrow hvA l
            rw [hwb] at LB
            clear hwb
            go_wp2_with fail
            go_roundw
            case rel => exact ⟨j + 1, by omega, by go_num, _, LB.out⟩
            case measure => simp [intOf]; omega
        · have z2 : ¬ (j : Int) < (more.length : Int) := by omega
          have hnm := l.names hKl
          unfold ptr at hnm
          go_wp2_with fail
          refine hnm.mono ?_
          rintro e w4 ⟨v', ks', rfl, hks', _, _, hrow', l4, f4⟩
          obtain rfl := hks.unique hks'
          obtain ⟨mo, mc, rfl, hmc1, hmc2, hmo⟩ := own_form hrow'
          unfold maxLen at hmc1
          have hrow4 : Row9 w4 B (.slice ro ks.length rc) ks := f4.owns hrow (fun _ _ e => e)
          have HR : Hid (Row9 w4 B (.slice ro ks.length rc) ks ∧ Row9 w4 wr.heap.size (.slice mo ks.length mc) ks) := ⟨hrow4, hrow'⟩
          have L4 : Hid (Live w w4 A d K (i + j) (LT + loadTo more j) σs) := l4
          have hbd : LT + loadTo more j ≤ 1099511627776 := by omega
          clear hnm hrow hrow4 hrow' l4 l hvA hks' f4
          go_wp2_with fail
          go_loopw [11] (fun t11 wq => ∃ m : Nat, m ≤ ks.length ∧ t11 = .int .i64 m ∧ Fresh w4 wq) (fun t11 _ => ks.length - (intOf t11).toNat)
          case atStart => exact ⟨0, Nat.zero_le _, rfl, Keeps.refl _ _⟩
          case round =>
            obtain ⟨m, hm, rfl, fq⟩ := hrel
            by_cases hlt3 : m < ks.length
            · obtain ⟨gr, rfl⟩ := hro (by omega)
              obtain ⟨gm, rfl⟩ := hmo (by omega)
              obtain ⟨s, hs⟩ : ∃ s, ks[m]? = some s := ⟨ks[m], List.getElem?_eq_getElem hlt3⟩
              have q1 : wr.cell? ⟨gr, m, none⟩ = some (.string ⟨s.toArray⟩) := fq.cell (own_cell HR.out.1 m (encStr s) (by simp [hs])) (fun e => e)
              have q2 : wr.cell? ⟨gm, m, none⟩ = some (.string ⟨s.toArray⟩) := fq.cell (own_cell HR.out.2 m (encStr s) (by simp [hs])) (fun e => e)
              clear hs
              have y1 : (0 : Int) ≤ (m : Int) := by omega
              have y2 : (m : Int) < (ks.length : Int) := by omega
              go_wp2_with fail
              go_quiet (fail)
              go_wp2_with fail
              go_roundw
              case rel => exact ⟨m + 1, by omega, by go_num, fq.drewN _⟩
              case measure => simp [intOf]; omega
            · have y2 : ¬ (m : Int) < (ks.length : Int) := by omega
              have l5 := L4.out.fresh fq
              obtain ⟨wc, hwc⟩ : ∃ wc, wc = wr.alloc (.cells #[.int .i64 1099511627776] 3) := ⟨_, rfl⟩
              have kc : Fresh wr wc := by rw [hwc]; exact (Keeps.refl _ wr).alloc _
              have lc := l5.fresh kc
              have hcx : wc.heap[wr.heap.size]? = some (.cells #[.int .i64 1099511627776] 3 (0, 0)) := by rw [hwc]; exact heap_alloc_new wr _
              have hint : Ints wc A (.slice (some ⟨wr.heap.size, 0, none⟩) ([1099511627776] : List Int).length 1) [1099511627776] := by
                refine ⟨_, 1, rfl, by omega, Nat.le_refl _, fun _ => ⟨wr.heap.size, 0, rfl, fun e => by have := (l5.1 _ e).2; omega, fun k t ht => ?_⟩⟩
                match k, ht with
                | 0, ht => simp at ht; subst ht; rw [Lib.cell_of_heap hcx]; rfl
              have hcr := lc.crash hKl (by omega) hbd os.length _ _ hint
              rw [hwc] at hcr
              have HWC : Hid (wc = wr.alloc (.cells #[.int .i64 1099511627776] 3)) := hwc
              clear hint hcx lc kc hwc l5
              unfold ptr at hcr
              go_wp2_with fail
              refine hcr.mono ?_
              rintro e w6 ⟨ks6, rfl, _, l6, _⟩
              obtain ⟨σ6, hσ6⟩ : ∃ σ6 : Dk, σ6 = σs.crashed (min (os.length : Int).toNat σs.chs.length) ks6 [1099511627776] := ⟨_, rfl⟩
              rw [← hσ6] at l6
              have hal : σ6.dead = false := by rw [hσ6]; rfl
              have HAL : Hid (σ6.dead = false) := hal
              clear hσ6 hal hcr
              have hsd := l6.syncDir hKl
              clear l6
              unfold ptr at hsd
              go_wp2_with fail
              refine hsd.mono ?_
              rintro e w7 ⟨k7, σ7, rfl, h7, l7, _⟩
              obtain rfl : k7 = 0 := by
                rcases h7 with ⟨h, _⟩ | ⟨_, h, _⟩
                · rw [HAL.out] at h; cases h
                · exact h
              have F7 := l7.2.2.2
              clear h7 l7 hsd
              go_wp2_with fail
              refine (num_any 0 _).mono ?_
              rintro e w8 ⟨rfl, rfl⟩
              go_wp2_with fail
              refine (alive_any _).mono ?_
              rintro e w9 ⟨rfl, f9⟩
              go_wp2
              go_ret
              exact ⟨rfl, F7.trans f9⟩
end Go.Proofs.Ytegbkpjcjlihmab
