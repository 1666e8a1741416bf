/-
  The law's own Do: a crash.
-/
import Derived.Test.YtegbkpjcjlihmabDob
namespace Go.Proofs.Ytegbkpjcjlihmab
open Go.RowKit Go.Maps

theorem info3 : (Try.prog.info? 3).map (fun i => (i.zero.map (fun z => z.cells.size), i.size, i.bytes)) = some (some 1, 1, 8) := by kernel_rfl
theorem info3' : ∃ i z, Try.prog.info? 3 = some i ∧ i.zero = some z ∧ z.cells.size = 1 ∧ i.size = 1 ∧ i.bytes = 8 := by
  obtain ⟨i, hi, h⟩ := Option.map_eq_some_iff.1 info3
  simp only [Prod.mk.injEq] at h
  obtain ⟨z, hz, h1⟩ := Option.map_eq_some_iff.1 h.1
  exact ⟨i, z, hi, hz, h1, h.2.1, h.2.2⟩

theorem append_none (to : Option Addr) (tc ty : Nat) (w : World) : (Builtin.append_ #[23, 23] ty #[.slice none 0 0, .slice to 0 tc]).run Try.prog w = .ok (.slice none 0 0) w := by
  obtain ⟨i, z, hi, _⟩ := info3'
  cases to <;> simp [Builtin.append_, run_underlying Try.underlying23, sizeOf, typeInfo, hi, Builtin.lenOf, Builtin.firstCells, loadCells, loadCellsFrom]

theorem wpList_append_none {ops : Array Oper} {rest : List Oper} {o : Oper} {a : Act} {w : World} {Q : Exit → Act → World → Prop} (hgd : o.guard = none) (s x : Operand)
    (ho : o.op = .call { callee := .builtin .append, args := #[s, x], argTypes := #[23, 23] }) (to : Option Addr) (tc : Nat) (hs : a.eval s = .slice none 0 0) (hx : a.eval x = .slice to 0 tc)
    (h : wpList Try.prog ops Q rest (a.put o.dst (.slice none 0 0)) w) : wpList Try.prog ops Q (o :: rest) a w := by
  refine wpList_plain hgd fun _ hK => ?_
  have hr := append_none to tc o.type w
  unfold Oper.wp execOp
  simp only [ho, resolve, invoke, builtin, Sem.run_bind, Sem.run_pure, Result.andThen_ok, List.map_toArray, List.map_cons, List.map_nil, hs, hx, hr]
  exact hK _ _ h

section
variable {w : World} {A : Nat → Prop} {d : Nat} {σ : Dk} {K : List Text} {C L : Nat}

set_option maxHeartbeats 2000000 in
set_option maxRecDepth 100000 in
theorem do7_none (h : DiskAt w A d K.length σ) (hf : Fits K C L σ) (hKl : K.length ≤ 1099511627776) (hC : C ≤ 1099511627776) (hL : L ≤ 1099511627776) (o : Op) (to : Option Addr) (tc : Nat) (hts : o.tails = []) (hk : o.kind = 7) :
    Calls Try.prog 6 #[ptr d, opVal o (.slice to 0 tc)] w fun e w' => ∃ r σ', e = .returned (.int .i64 r) ∧ Step σ o r σ' ∧ DiskAt w' (ext A w w') d K.length σ' ∧ Keeps A w w' := by
  obtain ⟨mn, ms, cv, vals, bv, h⟩ := h
  obtain ⟨w0, hw0⟩ : ∃ w0, w0 = w.alloc (.cells #[.int .i64 o.kind, .string o.name, .string o.s, .int .i64 o.n, .slice to 0 tc] 28) := ⟨_, rfl⟩
  have k0 : Fresh w w0 := by rw [hw0]; exact (Keeps.refl _ w).alloc _
  have h0 := h.kept (A' := A) k0 (fun _ _ e => e) (fun _ h => h)
  have hc := crash_any h0 hf.setK hKl (Nat.le_trans hf.chgs hC) hf.setIn L hf.sizes hL o.n (.slice none 0 0) [] ⟨none, 0, rfl, by omega, Nat.le_refl _, fun e => absurd rfl e⟩
  rw [hw0] at hc k0
  have HT : Hid (o.tails = []) := hts
  clear hw0 h0 h hts
  unfold ptr opVal at *
  rw [hk] at hc k0 ⊢
  go_enter Try.func6, Try.ntmps6
  go_wp2_with (at_builtin; refine wpList_append_none rfl _ _ rfl to tc rfl rfl ?_)
  refine hc.mono ?_
  rintro e w1 ⟨rfl, ks, hks, hd, kA⟩
  have HB : Hid _ := boxed k0 ⟨hd, kA⟩
  clear hc hd kA
  go_wp2_with fail
  go_loopw [7] (fun t7 wr => t7 = .int .i64 0 ∧ wr = w1) (fun _ _ => 0)
  case atStart => exact ⟨rfl, rfl⟩
  case round =>
  obtain ⟨rfl, rfl⟩ := hrel
  go_wp2_with fail
  refine (num_any 0 _).mono ?_
  rintro e w2 ⟨rfl, rfl⟩
  go_wp2
  go_ret
  exact ⟨0, _, rfl, .inr (.inr (.inr (.inr (.inr (.inr (.inr (.inl ⟨hk, rfl, ks, hks, by rw [HT.out]⟩))))))), HB.out.1, HB.out.2⟩

/-- the row of numbers that is made; the first i of them spoilt -/
def Spoilt (wr : World) (g : Nat) (ts : List Int) (i : Nat) : Prop := ∃ cur, wr.heap[g]? = some (.cells cur 3 (0, 0)) ∧ ∀ j t, i ≤ j → ts[j]? = some t → cur[j]? = some (.int .i64 t)

theorem Spoilt.set {wr : World} {g : Nat} {ts : List Int} {i : Nat} (h : Spoilt wr g ts i) (v : Value) : Spoilt (wr.setCell ⟨g, i, none⟩ v) g ts (i + 1) := by
  obtain ⟨cur, hg, hc⟩ := h
  refine ⟨_, heap_setCell_at hg i v, fun j t hj ht => ?_⟩
  rw [Array.getElem?_setIfInBounds, if_neg (by omega)]
  exact hc j t (by omega) ht

set_option maxHeartbeats 4000000 in
set_option maxRecDepth 100000 in
theorem do7_some (h : DiskAt w A d K.length σ) (hA : ∀ k, A k → k < w.heap.size) (hf : Fits K C L σ) (hKl : K.length ≤ 1099511627776) (hC : C ≤ 1099511627776) (hL : L ≤ 1099511627776) (o : Op) (b off tc : Nat) (hn : o.tails.length ≠ 0) (hl : o.tails.length ≤ 1099511627776) (_htc1 : tc ≤ 9223372036854775807) (_htc2 : o.tails.length ≤ tc)
    (hb : ¬ A b) (hcs : ∀ k t, o.tails[k]? = some t → w.cell? ⟨b, off + k, none⟩ = some (.int .i64 t)) (hk : o.kind = 7) :
    Calls Try.prog 6 #[ptr d, opVal o (.slice (some ⟨b, off, none⟩) o.tails.length tc)] w fun e w' => ∃ r σ', e = .returned (.int .i64 r) ∧ Step σ o r σ' ∧ DiskAt w' (ext A w w') d K.length σ' ∧ Keeps A w w' := by
  obtain ⟨i3, z3, hi3, hz0, hz1, hz2, hz3⟩ := info3'
  obtain ⟨w0, hw0⟩ : ∃ w0, w0 = w.alloc (.cells #[.int .i64 o.kind, .string o.name, .string o.s, .int .i64 o.n, .slice (some ⟨b, off, none⟩) o.tails.length tc] 28) := ⟨_, rfl⟩
  have k0 : Fresh w w0 := by rw [hw0]; exact (Keeps.refl _ w).alloc _
  have hbox : w0.heap[w.heap.size]? = some (.cells #[.int .i64 o.kind, .string o.name, .string o.s, .int .i64 o.n, .slice (some ⟨b, off, none⟩) o.tails.length tc] 28 (0, 0)) := by rw [hw0]; exact heap_alloc_new w _
  have hs0 : w0.heap.size = w.heap.size + 1 := by rw [hw0]; simp
  have H0 : Hid (DiskAt w0 A d K.length σ) := h.kept k0 (fun _ _ e => e) (fun _ h => h)
  obtain ⟨ts, hts⟩ : ∃ ts, ts = o.tails := ⟨_, rfl⟩
  rw [← hts] at hn hl _htc2 hcs hbox hw0 ⊢
  have HW0 : Hid (w0 = w.alloc (.cells #[.int .i64 o.kind, .string o.name, .string o.s, .int .i64 o.n, .slice (some ⟨b, off, none⟩) ts.length tc] 28)) := hw0
  have HTS : Hid (ts = o.tails) := hts
  have HS0 : Hid (w0.heap.size = w.heap.size + 1) := hs0
  have HBX : Hid (w0.heap[w.heap.size]? = some (.cells #[.int .i64 o.kind, .string o.name, .string o.s, .int .i64 o.n, .slice (some ⟨b, off, none⟩) ts.length tc] 28 (0, 0))) := hbox
  have hnews : ∀ (j : Nat) u, (ts.map (Value.int .i64))[j]? = some u → (w.alloc (.cells #[.int .i64 7, .string o.name, .string o.s, .int .i64 o.n, .slice (some ⟨b, off, none⟩) ts.length tc] 28)).cell? ((⟨b, off, none⟩ : Addr).add j) = some u := by
    intro j u hj
    rw [List.getElem?_map] at hj
    obtain ⟨t, ht, rfl⟩ := Option.map_eq_some_iff.1 hj
    have hadd : (⟨b, off, none⟩ : Addr).add j = ⟨b, off + j, none⟩ := by unfold Addr.add; split <;> simp_all
    rw [hadd]
    have := k0.cell (hcs j t ht) (fun e => e)
    rw [hw0, hk] at this
    exact this
  have HN : Hid (∀ (j : Nat) u, (ts.map (Value.int .i64))[j]? = some u → (w.alloc (.cells #[.int .i64 7, .string o.name, .string o.s, .int .i64 o.n, .slice (some ⟨b, off, none⟩) ts.length tc] 28)).cell? ((⟨b, off, none⟩ : Addr).add j) = some u) := hnews
  have HCS : Hid (∀ k t, ts[k]? = some t → w0.cell? ⟨b, off + k, none⟩ = some (.int .i64 t)) := fun k t ht => k0.cell (hcs k t ht) (fun e => e)
  clear hbox hs0 h hw0 hts hnews hcs
  unfold ptr opVal at *
  rw [hk]
  go_enter Try.func6, Try.ntmps6
  go_wp2_with (at_builtin; refine wpList_append_placed _ rfl _ _ 23 rfl 0 3 i3 z3 1 8 Try.underlying23 hi3 hz0 hz2 hz3 hz1 (by decide) _ 0 [] rfl (World.ownsRow_nil _ _ _ _) ⟨b, off, none⟩ ts.length tc (ts.map (Value.int .i64)) rfl ?c0 ?c1 ?c2 ?c3 ?c4 ?c5 ?_)
  case c0 => simp
  case c1 => exact HN.out
  case c2 => intro u hu; obtain ⟨t, _, rfl⟩ := List.mem_map.1 hu; rfl
  case c3 => unfold maxLen; omega
  case c4 => omega
  case c5 => omega
  intro v' w1 hown hgrow hpl
  rw [← hk, ← HW0.out] at hgrow hpl
  have k1 : Fresh w0 w1 := (Keeps.refl _ w0).grown hgrow (fun k hk _ => by simp [Value.ownBlock] at hk)
  obtain ⟨g, cap, cur, rfl, hg, hcap1, hcap2, hcs1, htake⟩ : ∃ g cap cur, v' = .slice (some ⟨g, 0, none⟩) ts.length cap ∧ w1.heap[g]? = some (.cells cur 3 (0, 0)) ∧ ts.length ≤ cap ∧ cap ≤ maxLen ∧ cur.size = cap * 1 ∧ cur.toList.take (ts.length * 1) = ts.map (Value.int .i64) := by
    rcases hown.2 with ⟨_, h0⟩ | ⟨g, cap, cur, hv, _, hg, r⟩
    · omega
    · exact ⟨g, cap, cur, hv, hg, r⟩
  have hgs : g = w.heap.size + 1 := by
    rcases hpl with h' | h'
    · simp [Value.ownBlock] at h'
    · simp [Value.ownBlock] at h'
      rw [h']; exact HS0.out
  have hsp : ∀ (j : Nat) t, 0 ≤ j → ts[j]? = some t → cur[j]? = some (.int .i64 t) := by
    intro j t _ ht
    have e1 : (cur.toList.take (ts.length * 1))[j]? = some (.int .i64 t) := by rw [htake]; simp [ht]
    rw [List.getElem?_take] at e1
    split at e1
    · simpa using e1
    · cases e1
  have hgA : ¬ A g := fun e => by have := hA g e; omega
  obtain ⟨mn, ms, cv, vals, bv, h1⟩ := H0.out.kept (A' := A) k1 (fun _ _ e => e) (fun _ h => h)
  have hints : Ints w1 A (.slice (some ⟨g, 0, none⟩) ts.length cap) ts :=
    ⟨_, cap, rfl, by unfold maxLen at hcap2; omega, hcap1, fun _ => ⟨g, 0, rfl, hgA, fun k t ht => by rw [Lib.cell_of_heap hg]; simpa using hsp k t (Nat.zero_le _) ht⟩⟩
  have hc := crash_any h1 hf.setK hKl (Nat.le_trans hf.chgs hC) hf.setIn L hf.sizes hL o.n _ ts hints
  have HG : Hid (Spoilt w1 g ts 0) := ⟨cur, hg, hsp⟩
  have HGS : Hid (g = w.heap.size + 1) := hgs
  have hw1 := HW0.out
  rw [hk] at hw1
  have hgw : g < w1.heap.size := heap_lt hg
  have hgt : w.heap.size < g := by omega
  have cbx : w1.cell? ⟨w.heap.size, 3, none⟩ = some (.int .i64 o.n) := by rw [Lib.cell_of_heap (k1.heap HBX.out (fun e => e))]; rfl
  unfold maxLen at hcap2
  have hc2' : cap ≤ 9223372036854775807 := by omega
  clear hown hgrow hpl hg hsp hcs1 htake hints h1 hgs hw1 hcap2
  unfold ptr at hc
  go_wp2_with fail
  refine hc.mono ?_
  rintro e w2 ⟨rfl, ks, hks, hd, kA⟩
  have hsA : ¬ A w.heap.size := fun e => by have := hA _ e; omega
  have hbx2 : w2.heap[w.heap.size]? = some (.cells #[.int .i64 o.kind, .string o.name, .string o.s, .int .i64 o.n, .slice (some ⟨b, off, none⟩) ts.length tc] 28 (0, 0)) := kA.heap (k1.heap HBX.out (fun e => e)) hsA
  have hcs2 : ∀ k t, ts[k]? = some t → w2.cell? ⟨b, off + k, none⟩ = some (.int .i64 t) := fun k t ht => kA.cell (k1.cell (HCS.out k t ht) (fun e => e)) hb
  have hsp2 : Spoilt w2 g ts 0 := by
    obtain ⟨cur, hg, hsp⟩ := HG.out
    exact ⟨cur, kA.heap hg hgA, hsp⟩
  have hbw : b < w.heap.size + 1 := by
    obtain ⟨t, ht⟩ : ∃ t, ts[0]? = some t := ⟨ts[0]'(by omega), List.getElem?_eq_getElem _⟩
    have := cell_lt (HCS.out 0 t ht)
    have := HS0.out
    omega
  have hbg : b ≠ g := by omega
  have HD : Hid (DiskAt w2 (ext A w1 w2) d K.length (σ.crashed (min o.n.toNat σ.chs.length) ks ts)) := hd
  have HBX2 : Hid (w2.heap[w.heap.size]? = some (.cells #[.int .i64 o.kind, .string o.name, .string o.s, .int .i64 o.n, .slice (some ⟨b, off, none⟩) ts.length tc] 28 (0, 0))) := hbx2
  have HCS2 : Hid (∀ k t, ts[k]? = some t → w2.cell? ⟨b, off + k, none⟩ = some (.int .i64 t)) := hcs2
  have HSP : Hid (Spoilt w2 g ts 0) := hsp2
  clear hc hd hbx2 hcs2 hsp2 cbx
  go_wp2_with fail
  go_loopw [7] (fun t7 wr => ∃ i : Nat, i ≤ ts.length ∧ t7 = .int .i64 i ∧ Spoilt wr g ts i ∧ Keeps (fun k => k = g) w2 wr) (fun t7 _ => ts.length - (intOf t7).toNat)
  case atStart => exact ⟨0, Nat.zero_le _, rfl, HSP.out, Keeps.refl _ _⟩
  case round =>
    obtain ⟨i, hi, rfl, hsp, kk⟩ := hrel
    by_cases hlt : i < ts.length
    · obtain ⟨t, ht⟩ : ∃ t, ts[i]? = some t := ⟨ts[i], List.getElem?_eq_getElem hlt⟩
      obtain ⟨cur, hg, hcu⟩ := hsp
      have a1 : wr.cell? ⟨g, i, none⟩ = some (.int .i64 t) := by rw [Lib.cell_of_heap hg]; exact hcu i t (Nat.le_refl _) ht
      have a2 : wr.cell? ⟨b, off + i, none⟩ = some (.int .i64 t) := kk.cell (HCS2.out i t ht) hbg
      have a3 : wr.cell? ⟨w.heap.size, 4, none⟩ = some (.slice (some ⟨b, off, none⟩) ts.length tc) := by rw [Lib.cell_of_heap (kk.heap HBX2.out (fun e => by omega))]; rfl
      have f1 : ∀ m, (wr.drewN m).frozen? ⟨g, i, none⟩ = false := fun m => Lib.frozen_of_heap (w := wr.drewN m) hg i
      have b1 : ∀ m, (wr.drewN m).cell? ⟨g, i, none⟩ = some (.int .i64 t) := fun m => a1
      have HSPr : Hid (Spoilt wr g ts i) := ⟨cur, hg, hcu⟩
      have z1 : (0 : Int) ≤ (i : Int) := by omega
      have z2 : (i : Int) < (ts.length : Int) := by omega
      clear hg hcu ht
      go_wp2_with fail
      go_quiet (fail)
      go_wp2_with fail
      go_roundw
      case rel => exact ⟨i + 1, by omega, by go_num, HSPr.out.set _, (kk.drewN _).setCell (p := ⟨g, i, none⟩) (fun _ => rfl) _⟩
      case measure => simp [intOf]; omega
    · have z2 : ¬ (i : Int) < (ts.length : Int) := by omega
      clear hsp
      go_wp2_with fail
      refine (num_any 0 _).mono ?_
      rintro e w3 ⟨rfl, rfl⟩
      go_wp2
      go_ret
      have s0 := HS0.out
      have s1 := k1.size
      have s2 := kA.size
      have s3 := kk.size
      refine ⟨0, _, rfl, .inr (.inr (.inr (.inr (.inr (.inr (.inr (.inl ⟨hk, rfl, ks, hks, rfl⟩))))))), ?_, ?_⟩
      · rw [← HTS.out]
        refine HD.out.kept kk (fun j hj e => ?_) (fun j hj => ?_)
        · subst e
          rcases hj with hj | hj
          · exact hgA hj
          · omega
        · rcases hj with hj | hj
          · exact .inl hj
          · exact .inr ⟨by omega, by omega⟩
      · refine (((Keeps.ofFresh k0).then k1 (fun _ _ e => e.elim)).then kA (fun _ _ e => e)).then kk (fun j hj e => ?_)
        subst e
        omega
end
end Go.Proofs.Ytegbkpjcjlihmab
