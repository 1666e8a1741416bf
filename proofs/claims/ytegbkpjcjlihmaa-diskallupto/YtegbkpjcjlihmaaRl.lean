/-
  The reference disk: Crash.
-/
import Derived.Test.YtegbkpjcjlihmaaSn
namespace Go.Proofs.Ytegbkpjcjlihmaa
open Go.RowKit Go.Maps

/-- a row of files of one's own -/
def FilesAt (w : World) (base : Nat) (v : Value) (O : List (Text × Nat)) : Prop := w.ownsRow base 112 2 v O.length (rowOf O)

theorem wpList_append_file {ops : Array Oper} {rest : List Oper} {o : Oper} {a : Act} {wr : World} {Q : Exit → Act → World → Prop} (hgd : o.guard = none) (sx x : Operand)
    (ho : o.op = .call { callee := .builtin .append, args := #[sx, x], argTypes := #[82, 82] }) (base : Nat) (v : Value) (O : List (Text × Nat)) (t : ByteArray) (n : Nat) (T : Text) (hT : t.data.toList = T) (hs : a.eval sx = v) (hrow : FilesAt wr base v O) (hO : O.length ≤ 1099511627776) (hb : base ≤ wr.heap.size)
    (hx : a.eval x = .slice (some ⟨wr.heap.size, 0, none⟩) 1 1)
    (h : ∀ v' w', FilesAt w' base v' (O ++ [(T, n)]) → Keeps (fun k => v.ownBlock = some k) wr w' → wpList Try.prog ops Q rest (a.put o.dst v') w') : wpList Try.prog ops Q (o :: rest) a (wr.alloc (.cells #[.string t, .int .i64 n] 112)) := by
  obtain ⟨i0, z0, hi0, hz0, hz1, hz2, hz3⟩ := info112'
  subst hT
  refine wpList_append_placed _ hgd sx x 82 ho base 112 i0 z0 2 24 Try.underlying82 hi0 hz0 hz2 hz3 hz1 (by decide) v O.length (rowOf O) hs (World.ownsRow.alloc hrow _) ⟨wr.heap.size, 0, none⟩ 1 1 [.string t, .int .i64 n] hx rfl (cells_new2 _ _ _ _) (oneCell2 _ _) (by unfold maxLen; omega) (by omega) (by simp; omega) ?_
  intro v' w' hown hgrow _
  refine h v' w' ?_ (((Keeps.refl _ wr).alloc _).grown hgrow (fun k hk _ => hk))
  unfold FilesAt
  rw [rowOf_append, List.length_append]
  exact hown

theorem mapIdx_take {α β : Type} (f : Nat → α → β) (l : List α) (i : Nat) (e : α) (h : l[i]? = some e) : (l.take (i + 1)).mapIdx f = (l.take i).mapIdx f ++ [f i e] := by
  rw [List.take_add_one, h]
  have hl : (l.take i).length = i := by rw [List.length_take]; have := (List.getElem?_eq_some_iff.1 h).1; omega
  simp only [Option.toList_some, List.mapIdx_concat, hl]

/-- the loop of Crash: where it stands -/
structure CrAt (w wr : World) (ρ : Rf) (l : List Ent) (ts : List Int) (i : Nat) (t7 t8 : Value) : Prop where
  fresh : Fresh w wr
  files : FilesAt wr w.heap.size t7 ((l.take i).mapIdx (crFile ρ.files ts))
  names : EntsAt wr w.heap.size t8 ((l.take i).mapIdx crName)

section
variable {w : World} {A : Nat → Prop} {r : Nat} {ρ : Rf} {fv lv : Value} {vals : List Value}

/-- the stores behind the loop -/
theorem crash_cells (H : RefIn w A r ρ fv lv vals) {wr : World} (f : Fresh w wr) (u7 u8 : Value) (_hr : r < wr.heap.size) :
    (wr.cell? ⟨r, 0, none⟩ = some fv ∧ wr.frozen? ⟨r, 0, none⟩ = false) ∧
    (wr.setCell ⟨r, 0, none⟩ u7).heap[r]? = some (.cells #[u7, lv, .int .i64 ρ.left] 84 (0, 0)) ∧
    ((wr.setCell ⟨r, 0, none⟩ u7).alloc (.cells #[u8] 109)).heap[r]? = some (.cells #[u7, lv, .int .i64 ρ.left] 84 (0, 0)) ∧
    (((wr.setCell ⟨r, 0, none⟩ u7).alloc (.cells #[u8] 109)).setCell ⟨r, 1, none⟩ (.slice (some ⟨wr.heap.size, 0, none⟩) 1 1)).heap[r]? = some (.cells #[u7, .slice (some ⟨wr.heap.size, 0, none⟩) 1 1, .int .i64 ρ.left] 84 (0, 0)) := by
  have h0 := f.heap H.head (fun e => e)
  have h1 : (wr.setCell ⟨r, 0, none⟩ u7).heap[r]? = some (.cells #[u7, lv, .int .i64 ρ.left] 84 (0, 0)) := by rw [heap_setCell_at h0]; rfl
  have h2 : ((wr.setCell ⟨r, 0, none⟩ u7).alloc (.cells #[u8] 109)).heap[r]? = some (.cells #[u7, lv, .int .i64 ρ.left] 84 (0, 0)) := by
    rw [Lib.alloc_old _ _ _ (heap_lt h1)]; exact h1
  refine ⟨⟨by rw [Lib.cell_of_heap h0]; rfl, Lib.frozen_of_heap h0 0⟩, h1, h2, ?_⟩
  rw [heap_setCell_at h2]; rfl

theorem crash_done (H : RefIn w A r ρ fv lv vals) {wr : World} {l : List Ent} {ts : List Int} {u7 u8 : Value} (hc : CrAt w wr ρ l ts l.length u7 u8) (W : World)
    (hW : W = (((wr.setCell ⟨r, 0, none⟩ u7).alloc (.cells #[u8] 109)).setCell ⟨r, 1, none⟩ (.slice (some ⟨wr.heap.size, 0, none⟩) 1 1)).setCell ⟨r, 2, none⟩ (.int .i64 (-1))) : RefAt W (ext A w W) r (ρ.crashed l ts) ∧ Keeps A w W := by
  obtain ⟨f, hF, hN⟩ := hc
  rw [List.take_of_length_le (Nat.le_refl _)] at hF hN
  have h0 := f.heap H.head (fun e => e)
  have hr := heap_lt h0
  obtain ⟨_, h1, h2, h3⟩ := crash_cells H f u7 u8 hr
  have hs1 : (wr.setCell ⟨r, 0, none⟩ u7).heap.size = wr.heap.size := by simp [World.setCell]
  have hnew : ((wr.setCell ⟨r, 0, none⟩ u7).alloc (.cells #[u8] 109)).heap[wr.heap.size]? = some (.cells #[u8] 109 (0, 0)) := by rw [← hs1]; exact heap_alloc_new _ _
  have kb : Keeps (fun i => i = r) wr ((wr.setCell ⟨r, 0, none⟩ u7).alloc (.cells #[u8] 109)) := ((Keeps.refl (fun i => i = r) wr).setCell (p := ⟨r, 0, none⟩) (fun _ => rfl) _).alloc _
  have kc : Keeps (fun i => i = r) ((wr.setCell ⟨r, 0, none⟩ u7).alloc (.cells #[u8] 109)) W := by
    rw [hW]; exact ((Keeps.refl (fun i => i = r) _).setCell (p := ⟨r, 1, none⟩) (fun _ => rfl) _).setCell (p := ⟨r, 2, none⟩) (fun _ => rfl) _
  have k : Keeps (fun i => i = r) wr W := kb.then kc (fun _ _ e => e)
  have hnewW := kc.heap hnew (fun e => by omega)
  have hsW := heap_lt hnewW
  have s0 := f.size
  have ht : tag wr r = some 84 := tag_cells h0
  have nF : ∀ k, u7.ownBlock = some k → ¬ k = r := fun k hk e => ne_of_tag (owns_tag hF hk) ht (by decide) e
  have nN : ∀ k, u8.ownBlock = some k → ¬ k = r := fun k hk e => ne_of_tag (owns_tag hN hk) ht (by decide) e
  refine ⟨⟨u7, .slice (some ⟨wr.heap.size, 0, none⟩) 1 1, [u8], ?_⟩, (Keeps.ofFresh f).then k (fun i _ e => by rw [e]; exact H.ownR)⟩
  exact {
    head := by rw [hW, heap_setCell_at h3]; rfl
    files := k.owns (owns_base hF (fun _ _ => Nat.zero_le _)) nF
    log := ⟨rfl, .inr ⟨wr.heap.size, 1, #[u8], rfl, Nat.zero_le _, hnewW, Nat.le_refl _, by unfold maxLen; omega, rfl, rfl⟩⟩
    len := rfl
    ents := fun i v l' hv hl => by
      match i, hv, hl with
      | 0, hv, hl =>
        simp [Rf.crashed] at hv hl
        subst hv hl
        exact k.owns (owns_base hN (fun _ _ => Nat.zero_le _)) nN
    ownR := .inl H.ownR
    ownF := fun j hj => by
      have := World.ownsRow.lt hF j hj
      exact .inr ⟨this.1, by omega⟩
    ownL := fun j hj => by
      simp [Value.ownBlock] at hj
      subst hj
      exact .inr ⟨by omega, by omega⟩
    ownE := fun i v hv j hj => by
      match i, hv with
      | 0, hv =>
        simp at hv
        subst hv
        have := World.ownsRow.lt hN j hj
        exact .inr ⟨this.1, by omega⟩ }

set_option maxHeartbeats 8000000 in
set_option maxRecDepth 100000 in
theorem rcrash_any (h : RefIn w A r ρ fv lv vals) {m : Nat} (hm : ρ.log.length = m + 1) (hlog : ρ.log.length ≤ 1099511627) (keep : Int) (hkp : -9223372036854775808 ≤ keep ∧ keep < 9223372036854775808) {l : List Ent} (hl : ρ.log[min keep.toNat m]? = some l) (hll : l.length ≤ 1099511627)
    (hin : ∀ s n, (s, n) ∈ l → n < ρ.files.length) (hfs : ∀ f ∈ ρ.files, f.2 ≤ f.1.length ∧ f.1.length ≤ 1099511627776) (_hfl : ρ.files.length ≤ 1099511627) (tv : Value) (ts : List Int) (ht : Ints w A tv ts) (htl : ts.length ≤ 1099511627776) :
    Calls Try.prog 51 #[ptr r, .int .i64 keep, tv] w fun e w' => e = .returned (.tuple #[]) ∧ RefAt w' (ext A w w') r (ρ.crashed l ts) ∧ Keeps A w w' := by
  obtain ⟨tao, tcap, rfl, htc1, htc2, htc3⟩ := ht
  have HT : Hid (ts.length ≠ 0 → ∃ b off, tao = some ⟨b, off, none⟩ ∧ ¬ A b ∧ ∀ k t, ts[k]? = some t → w.cell? ⟨b, off + k, none⟩ = some (.int .i64 t)) := htc3
  clear htc3
  have hvl : vals.length = m + 1 := by rw [h.len]; exact hm
  obtain ⟨kk, hkk⟩ : ∃ kk, kk = min keep.toNat m := ⟨_, rfl⟩
  rw [← hkk] at hl
  obtain ⟨v, hv⟩ : ∃ v, vals[kk]? = some v := ⟨vals[kk]'(by omega), List.getElem?_eq_getElem _⟩
  have hE := h.ents kk v l hv hl
  obtain ⟨_, c1, _, _⟩ := h.cells w.drew rfl
  obtain ⟨lao, lcap, rfl, hlc1, hlc2, hlao⟩ := own_form' h.log
  obtain ⟨lg, rfl⟩ := hlao (by omega)
  have cv : w.drew.cell? ⟨lg, kk, none⟩ = some v := own_cell' h.log kk v hv
  rw [hvl] at c1 hlc2
  unfold maxLen at hlc1
  have zw : IntKind.i64.wrap (m : Int) = (m : Int) := IntWalk.i64_in _ ⟨by omega, by omega⟩
  have zk : max 0 (min keep (m : Int)) = (kk : Int) := by omega
  have z1 : (0 : Int) ≤ (kk : Int) := by omega
  have z2 : (kk : Int) < (m : Int) + 1 := by omega
  have H : Hid (RefIn w A r ρ fv (.slice (some ⟨lg, 0, none⟩) vals.length lcap) vals) := h
  have HE : Hid (EntsAt w 0 v l) := hE
  have HV : Hid (vals[kk]? = some v) := hv
  have HVL : Hid (vals.length = m + 1) := hvl
  clear h hE hlao hv hvl hkk
  unfold ptr
  go_enter Try.func51, Try.ntmps51
  go_wp2_with fail
  go_region
  refine (by assumption : ∀ (a : Act) (w : World), Code.wp Try.prog _ _ a w → _) _ _ ?_
  obtain ⟨ao, cap, rfl, hc1, hc2, hao⟩ := own_form' HE.out
  unfold maxLen at hc1
  have f0 : Fresh w w.drew := Keeps.drew (Keeps.refl _ w)
  clear c1 cv zw zk z1 z2
  go_wp2_with fail
  go_loopw [7, 8, 9] (fun t7 t8 t9 wr => ∃ i : Nat, i ≤ l.length ∧ t9 = .int .i64 i ∧ CrAt w wr ρ l ts i t7 t8) (fun _ _ t9 _ => l.length - (intOf t9).toNat)
  case atStart => exact ⟨0, Nat.zero_le _, rfl, f0, World.ownsRow_nil _ _ _ _, World.ownsRow_nil _ _ _ _⟩
  case round =>
    obtain ⟨i, hi, rfl, hinv⟩ := hrel
    by_cases hlt : i < l.length
    · obtain ⟨g, rfl⟩ := hao (by omega)
      obtain ⟨e, he⟩ : ∃ e, l[i]? = some e := ⟨l[i], List.getElem?_eq_getElem hlt⟩
      have hn : e.2 < ρ.files.length := hin e.1 e.2 (List.mem_of_getElem? he)
      obtain ⟨⟨d, q⟩, hf⟩ : ∃ f, ρ.files[e.2]? = some f := ⟨ρ.files[e.2], List.getElem?_eq_getElem hn⟩
      obtain ⟨hq, hd⟩ := hfs _ (List.mem_of_getElem? hf)
      simp only at hq hd
      obtain ⟨fao, fcap, hfe, hfc1, hfc2, hfao⟩ := own_form' H.out.files
      obtain ⟨fg, rfl⟩ := hfao (by omega)
      subst hfe
      unfold maxLen at hfc1
      have cs : ∀ W, Fresh w W → W.cell? ⟨g, i * 2 + 1, none⟩ = some (.int .i64 e.2) ∧ W.cell? ⟨r, 0, none⟩ = some (.slice (some ⟨fg, 0, none⟩) ρ.files.length fcap) ∧ W.cell? ⟨fg, e.2 * 2, none⟩ = some (.string ⟨d.toArray⟩) ∧ W.cell? ⟨fg, e.2 * 2 + 1, none⟩ = some (.int .i64 q) := fun W f =>
        ⟨f.cellOf (own_cell' HE.out _ _ (rowOf_get l i e he).2) (fun e => e), ((H.out.kept (A' := A) f (fun _ _ e => e) (fun _ h => h)).cells W rfl).1, f.cellOf (own_cell' H.out.files _ _ (rowOf_get _ _ _ hf).1) (fun e => e), f.cellOf (own_cell' H.out.files _ _ (rowOf_get _ _ _ hf).2) (fun e => e)⟩
      have cn : ∀ W, Fresh w W → W.cell? ⟨g, i * 2, none⟩ = some (.string ⟨e.1.toArray⟩) := fun W f => f.cellOf (own_cell' HE.out _ _ (rowOf_get l i e he).1) (fun e => e)
      obtain ⟨a1, a2, a3, a4⟩ := cs wr.drew (Keeps.drew hinv.fresh)
      obtain ⟨b1, b2, b3, b4⟩ := cs (wr.alloc (.cells #[.string ⟨#[]⟩, .int .i64 0] 112)) (hinv.fresh.alloc _)
      obtain ⟨a5, a6, a7, a8⟩ := cs wr hinv.fresh
      have HI : Hid (CrAt w wr ρ l ts i u7 u8) := hinv
      have HLE : Hid (l[i]? = some e ∧ ρ.files[e.2]? = some (d, q)) := ⟨he, hf⟩
      have HCS : Hid (∀ W, Fresh w W → W.cell? ⟨g, i * 2, none⟩ = some (.string ⟨e.1.toArray⟩)) := cn
      have z1 : (0 : Int) ≤ (i : Int) := by omega
      have z2 : (i : Int) < (l.length : Int) := by omega
      have z3 : (0 : Int) ≤ (e.2 : Int) := by omega
      have z4 : (e.2 : Int) < (ρ.files.length : Int) := by omega
      clear cs cn he hf hinv hfao
      go_wp2_with fail
      go_region
      refine (by assumption : ∀ (a : Act) (w : World), Code.wp Try.prog _ _ a w → _) _ _ ?_
      clear a1 a2 a3 a4 a5 a6 a7 a8 b1 b2 b3 b4 z3 z4
      have hbox : (wr.alloc (.cells #[.string ⟨d.toArray⟩, .int .i64 q] 112)).drew.heap[wr.heap.size]? = some (.cells #[.string ⟨d.toArray⟩, .int .i64 q] 112 (0, 0)) := heap_alloc_new wr _
      have fw : Fresh wr (wr.alloc (.cells #[.string ⟨d.toArray⟩, .int .i64 q] 112)).drew := Keeps.drew ((Keeps.refl _ wr).alloc _)
      have hsz1 : (wr.alloc (.cells #[.string ⟨d.toArray⟩, .int .i64 q] 112)).drew.heap.size = wr.heap.size + 1 := by show (wr.alloc _).heap.size = _; simp
      generalize hw1 : (wr.alloc (.cells #[.string ⟨d.toArray⟩, .int .i64 q] 112)).drew = w1 at hbox fw hsz1 ⊢
      clear hw1
      obtain ⟨B, hB⟩ : ∃ B : ByteArray, B = ⟨d.toArray⟩ := ⟨_, rfl⟩
      have hBs : B.size = d.length := by rw [hB]; simp [ByteArray.size]
      have HBS : Hid (B.size = d.length) := hBs
      have HBB : Hid (B = ⟨d.toArray⟩) := hB
      have x0 : w1.cell? ⟨wr.heap.size, 0, none⟩ = some (.string B) := by rw [Lib.cell_of_heap hbox, hB]; rfl
      have x1 : w1.cell? ⟨wr.heap.size, 1, none⟩ = some (.int .i64 q) := by rw [Lib.cell_of_heap hbox]; rfl
      have f1 : Fresh w w1 := HI.out.fresh.trans fw
      have R1 : FilesAt w1 w.heap.size u7 ((l.take i).mapIdx (crFile ρ.files ts)) := fw.owns HI.out.files (fun _ _ e => e)
      have N1 : EntsAt w1 w.heap.size u8 ((l.take i).mapIdx crName) := fw.owns HI.out.names (fun _ _ e => e)
      have s1 := f1.size
      have HCN := HCS
      clear hbox fw hB hsz1
      by_cases hts : ts.length = 0
      · have hta : tailAt ts i = 0 := by rw [List.eq_nil_of_length_eq_zero hts]; rfl
        have hz : ¬ ((0 : Int) < (ts.length : Int)) := by omega
        obtain ⟨E, hE⟩ : ∃ E, E = q + min (0 : Int).toNat (d.length - q) := ⟨_, rfl⟩
        have HEE : Hid (E = q + min (0 : Int).toNat (d.length - q)) := hE
        have y1 : IntKind.i64.wrap ((B.size : Int) - q) = (B.size : Int) - q := IntWalk.i64_in _ ⟨by omega, by omega⟩
        have y2 : (q : Int) + max 0 (min 0 ((B.size : Int) - q)) = (E : Int) := by omega
        have y5 : IntKind.i64.wrap (E : Int) = (E : Int) := IntWalk.i64_in _ ⟨by omega, by omega⟩
        have y3 : (0 : Int) ≤ (E : Int) := by omega
        have y4 : (E : Int) ≤ (B.size : Int) := by omega
        clear hE hts hBs hq hd
        have hsv : (B.extract 0 E).data.toList = survive d q 0 := by rw [extract_list, HBB.out, HEE.out]; simp [survive]
        have HSV : Hid ((B.extract 0 E).data.toList = survive d q 0) := hsv
        have hcf : crFile ρ.files ts i e = (survive d q 0, E) := by
          have hg : ρ.files.getD e.2 ([], 0) = (d, q) := by rw [List.getD_eq_getElem?_getD, HLE.out.2]; rfl
          have hln : (survive d q 0).length = E := by unfold survive; rw [List.length_take, HEE.out]; have := hfs _ (List.mem_of_getElem? HLE.out.2); simp only at this; omega
          unfold crFile
          rw [hg, hta, hln]
        have HCF : Hid (crFile ρ.files ts i e = (survive d q 0, E)) := hcf
        clear hcf hta hsv
        go_wp2_with (at_builtin; refine wpList_append_file rfl _ _ rfl w.heap.size u7 ((l.take i).mapIdx (crFile ρ.files ts)) (B.extract 0 E) E _ HSV.out rfl R1 (by simp; omega) (by omega) rfl ?_)
        intro v2 w2 hr2 hk2
        have f2 : Fresh w w2 := f1.then hk2 (fun j hj e => by have := (World.ownsRow.lt R1 j e).1; omega)
        have N2 : EntsAt w2 w.heap.size u8 ((l.take i).mapIdx crName) := hk2.owns N1 (fun j hj e => ne_of_tag (owns_tag N1 hj) (owns_tag R1 e) (by decide) rfl)
        have cn2 := HCN.out w2 f2
        have s2 := hk2.size
        have HR2 : Hid (FilesAt w2 w.heap.size v2 ((l.take i).mapIdx (crFile ρ.files ts) ++ [(survive d q 0, E)])) := hr2
        clear hr2 R1 N1
        go_wp2_with (at_builtin; refine wpList_append_ent rfl _ _ rfl w.heap.size u8 ((l.take i).mapIdx crName) ⟨e.1.toArray⟩ i rfl N2 (by simp; omega) (by omega) rfl ?_)
        intro v3 w3 hr3 hk3
        have hcr : CrAt w w3 ρ l ts (i + 1) v2 v3 := by
          refine ⟨f2.then hk3 (fun j hj e => by have := (N2.lt j e).1; omega), ?_, ?_⟩
          · rw [mapIdx_take _ l i e HLE.out.1, HCF.out]
            exact hk3.owns HR2.out (fun j hj e => ne_of_tag (owns_tag HR2.out hj) (owns_tag N2 e) (by decide) rfl)
          · rw [mapIdx_take _ l i e HLE.out.1]
            exact hr3
        have HCR : Hid (CrAt w w3 ρ l ts (i + 1) v2 v3) := hcr
        clear hcr hr3 hk3 N2 cn2 hk2
        go_wp2_with fail
        go_roundw
        case rel => exact ⟨i + 1, by omega, by go_num, HCR.out⟩
        case measure => simp [intOf]; omega
      · obtain ⟨b, off, rfl, hnA, hcs⟩ := HT.out hts
        have hmod : i % ts.length < ts.length := Nat.mod_lt _ (by omega)
        obtain ⟨t, htt⟩ : ∃ t, ts[i % ts.length]? = some t := ⟨_, List.getElem?_eq_getElem hmod⟩
        have hta : tailAt ts i = t := by simp [tailAt, List.getD, htt]
        have htc := f1.cell (hcs _ t htt) (fun e => e)
        obtain ⟨E, hE⟩ : ∃ E, E = q + min t.toNat (d.length - q) := ⟨_, rfl⟩
        have HEE : Hid (E = q + min t.toNat (d.length - q)) := hE
        have y1 : IntKind.i64.wrap ((B.size : Int) - q) = (B.size : Int) - q := IntWalk.i64_in _ ⟨by omega, by omega⟩
        have y2 : (q : Int) + max 0 (min t ((B.size : Int) - q)) = (E : Int) := by omega
        have y5 : IntKind.i64.wrap (E : Int) = (E : Int) := IntWalk.i64_in _ ⟨by omega, by omega⟩
        have y3 : (0 : Int) ≤ (E : Int) := by omega
        have y4 : (E : Int) ≤ (B.size : Int) := by omega
        have hp : (0 : Int) < (ts.length : Int) := by omega
        clear hE hts htt hcs hBs hq hd
        have hsv : (B.extract 0 E).data.toList = survive d q t := by rw [extract_list, HBB.out, HEE.out]; simp [survive]
        have HSV : Hid ((B.extract 0 E).data.toList = survive d q t) := hsv
        have hcf : crFile ρ.files ts i e = (survive d q t, E) := by
          have hg : ρ.files.getD e.2 ([], 0) = (d, q) := by rw [List.getD_eq_getElem?_getD, HLE.out.2]; rfl
          have hln : (survive d q t).length = E := by unfold survive; rw [List.length_take, HEE.out]; have := hfs _ (List.mem_of_getElem? HLE.out.2); simp only at this; omega
          unfold crFile
          rw [hg, hta, hln]
        have HCF : Hid (crFile ρ.files ts i e = (survive d q t, E)) := hcf
        clear hcf hta hsv
        go_wp2_with (at_builtin; refine wpList_append_file rfl _ _ rfl w.heap.size u7 ((l.take i).mapIdx (crFile ρ.files ts)) (B.extract 0 E) E _ HSV.out rfl R1 (by simp; omega) (by omega) rfl ?_)
        intro v2 w2 hr2 hk2
        have f2 : Fresh w w2 := f1.then hk2 (fun j hj e => by have := (World.ownsRow.lt R1 j e).1; omega)
        have N2 : EntsAt w2 w.heap.size u8 ((l.take i).mapIdx crName) := hk2.owns N1 (fun j hj e => ne_of_tag (owns_tag N1 hj) (owns_tag R1 e) (by decide) rfl)
        have cn2 := HCN.out w2 f2
        have s2 := hk2.size
        have HR2 : Hid (FilesAt w2 w.heap.size v2 ((l.take i).mapIdx (crFile ρ.files ts) ++ [(survive d q t, E)])) := hr2
        clear hr2 R1 N1
        go_wp2_with (at_builtin; refine wpList_append_ent rfl _ _ rfl w.heap.size u8 ((l.take i).mapIdx crName) ⟨e.1.toArray⟩ i rfl N2 (by simp; omega) (by omega) rfl ?_)
        intro v3 w3 hr3 hk3
        have hcr : CrAt w w3 ρ l ts (i + 1) v2 v3 := by
          refine ⟨f2.then hk3 (fun j hj e => by have := (N2.lt j e).1; omega), ?_, ?_⟩
          · rw [mapIdx_take _ l i e HLE.out.1, HCF.out]
            exact hk3.owns HR2.out (fun j hj e => ne_of_tag (owns_tag HR2.out hj) (owns_tag N2 e) (by decide) rfl)
          · rw [mapIdx_take _ l i e HLE.out.1]
            exact hr3
        have HCR : Hid (CrAt w w3 ρ l ts (i + 1) v2 v3) := hcr
        clear hcr hr3 hk3 N2 cn2 hk2
        go_wp2_with fail
        go_roundw
        case rel => exact ⟨i + 1, by omega, by go_num, HCR.out⟩
        case measure => simp [intOf]; omega
    · have z2 : ¬ (i : Int) < (l.length : Int) := by omega
      have ei : i = l.length := by omega
      subst ei
      obtain ⟨na, nc, rfl, _⟩ := own_form' hinv.names
      obtain ⟨fa, fc, rfl, _⟩ := own_form' hinv.files
      have hr := heap_lt (hinv.fresh.heap H.out.head (fun e => e))
      obtain ⟨⟨c0, z0⟩, h1, h2, h3⟩ := crash_cells H.out hinv.fresh (.slice fa ((l.take l.length).mapIdx (crFile ρ.files ts)).length fc) (.slice na ((l.take l.length).mapIdx crName).length nc) hr
      have HD : Hid _ := crash_done H.out hinv _ rfl
      have e7 : ((l.take l.length).mapIdx (crFile ρ.files ts)).length = l.length := by simp
      have e8 : ((l.take l.length).mapIdx crName).length = l.length := by simp
      rw [e7, e8] at h2 h3 HD
      rw [e7] at h1
      have g1 := Lib.cell_of_heap h2 1
      have g2 := Lib.cell_of_heap h3 2
      have y1 := Lib.frozen_of_heap h2 1
      have y2 := Lib.frozen_of_heap h3 2
      simp only [e7, e8]
      clear h1 h2 h3 hinv hao hr e7 e8
      go_wp2
      go_end0
      exact ⟨rfl, HD.out⟩
end
end Go.Proofs.Ytegbkpjcjlihmaa
