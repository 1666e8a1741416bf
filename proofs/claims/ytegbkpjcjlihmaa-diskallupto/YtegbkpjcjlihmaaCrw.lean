/-
  Crash: the walk.
-/
import Derived.Test.YtegbkpjcjlihmaaCr
namespace Go.Proofs.Ytegbkpjcjlihmaa
open Go.RowKit Go.Maps

/-- the disk behind a crash, its files' names ks -/
def Dk.crashed (σ : Dk) (k : Nat) (ks : List Text) (ts : List Int) : Dk :=
  let τ := { σ.settled k with chs := [] }.cr ks ts ks.length
  { τ with now := τ.safe, left := none, chs := [] }

theorem head_cells {w : World} {d mn ms : Nat} {cv : Value} {left : Option Nat} (h : w.heap[d]? = some (.cells (headOf mn ms cv left) 80 (0, 0))) :
    w.cell? ⟨d, 0, none⟩ = some (.map (some mn)) ∧ w.cell? ⟨d, 1, none⟩ = some (.map (some ms)) ∧ w.cell? ⟨d, 2, none⟩ = some cv ∧ w.cell? ⟨d, 3, none⟩ = some (.bool left.isSome) ∧ w.cell? ⟨d, 4, none⟩ = some (.int .i64 ((left.getD 0 : Nat) : Int)) ∧
    w.frozen? ⟨d, 0, none⟩ = false ∧ w.frozen? ⟨d, 1, none⟩ = false ∧ w.frozen? ⟨d, 2, none⟩ = false ∧ w.frozen? ⟨d, 3, none⟩ = false ∧ w.frozen? ⟨d, 4, none⟩ = false := by
  refine ⟨?_, ?_, ?_, ?_, ?_, Lib.frozen_of_heap h 0, Lib.frozen_of_heap h 1, Lib.frozen_of_heap h 2, Lib.frozen_of_heap h 3, Lib.frozen_of_heap h 4⟩ <;> rw [Lib.cell_of_heap h] <;> rfl

section
variable {w : World} {A : Nat → Prop} {d : Nat} {σ : Dk} {mn ms : Nat} {cv : Value} {vals : List Value} {bv : Nat → Value} {K : List Text}

theorem crash_step {wr w3 : World} {n x B m : Nat} {v' rv : Value} {ks : List Text} {c : Text} (hI : Inner wr (ext A w wr) d n σ mn ms cv vals bv) (hx : x ∈ σ.files) (hf : FileAt w3 x v' c m) (hnew : Newer wr (bv x) v')
    (k3 : Keeps (fun k => k = x ∨ (bv x).ownBlock = some k) wr w3) (hrow : Row9 wr B rv ks) (kk : Keeps A w wr) : (∃ bv', Inner w3 (ext A w w3) d n (σ.wrote x c m) mn ms cv vals bv') ∧ Row9 w3 B rv ks ∧ Keeps A w w3 := by
  have hlt : ∀ k, v'.ownBlock = some k → (bv x).ownBlock = some k ∨ (wr.heap.size ≤ k ∧ k < w3.heap.size) := fun k hk => (hnew k hk).imp id (fun h => ⟨h, by obtain ⟨cur, fz, hg⟩ := hf.2.row hk; exact heap_lt hg⟩)
  refine ⟨⟨_, (hI.setFile hx hf hlt k3).grow (ext_then kk.size k3.size)⟩, ?_, ?_⟩
  · refine k3.owns hrow (fun k hk e => ?_)
    have ht := owns_tag hrow hk
    rcases e with e | e
    · exact ne_of_tag ht (hI.tagX hx) (by decide) e
    · exact ne_of_tag ht (hI.tagB hx e) (by decide) rfl
  · refine kk.then k3 (fun i hi e => ?_)
    have hE : ext A w wr i := by
      rcases e with rfl | e
      · exact hI.ownX _ hx
      · exact hI.ownB x hx i e
    rcases hE with h | h
    · exact h
    · omega

theorem crash_end {wr w3 W : World} (hI : Inner wr (ext A w wr) d K.length σ mn ms cv vals bv) (kk : Keeps A w wr) (k3 : Fresh wr.drew w3) (hm3 : MapAt w3 wr.heap.size K.length σ.safe)
    (hh : w3.heap[d]? = some (.cells (headOf mn ms cv σ.left) 80 (0, 0)))
    (hW : W = ((((w3.setCell ⟨d, 0, none⟩ (.map (some wr.heap.size))).setCell ⟨d, 1, none⟩ (.map (some ms))).setCell ⟨d, 2, none⟩ (.slice none 0 0)).setCell ⟨d, 3, none⟩ (.bool false)).setCell ⟨d, 4, none⟩ (.int .i64 0)) :
    DiskAt W (ext A w W) d K.length { σ with now := σ.safe, left := none, chs := [] } ∧ Keeps A w W := by
  have k3' : Fresh wr w3 := ⟨k3.os, k3.tape, k3.output, k3.size, k3.block⟩
  have kW : Keeps (fun i => i = d) w3 W := by
    rw [hW]
    exact (((((Keeps.refl (fun i => i = d) w3).setCell (p := ⟨d, 0, none⟩) (fun _ => rfl) _).setCell (p := ⟨d, 1, none⟩) (fun _ => rfl) _).setCell (p := ⟨d, 2, none⟩) (fun _ => rfl) _).setCell (p := ⟨d, 3, none⟩) (fun _ => rfl) _).setCell (p := ⟨d, 4, none⟩) (fun _ => rfl) _
  have hhW : W.heap[d]? = some (.cells (headOf wr.heap.size ms (.slice none 0 0) none) 80 (0, 0)) := by
    rw [hW, heap_setCell_at (heap_setCell_at (heap_setCell_at (heap_setCell_at (heap_setCell_at hh 0 _) 1 _) 2 _) 3 _) 4 _]
    rfl
  have hc := hI.crashed k3' hm3 (Nat.le_refl _) hhW kW
  have s1 := k3'.size
  have s2 := kW.size
  refine ⟨⟨_, _, _, _, _, hc.grow (ext_then kk.size (by omega))⟩, (kk.then k3' (fun _ _ e => e.elim)).then kW (fun i hi e => ?_)⟩
  subst e
  rcases hI.ownD with h | h
  · exact h
  · omega

set_option maxHeartbeats 4000000 in
set_option maxRecDepth 100000 in
theorem crash_any (h : Inner w A d K.length σ mn ms cv vals bv) (hK : ∀ i, ∀ s, ((σ.settled i).safe s).isSome = true → s ∈ K) (hKl : K.length ≤ 1099511627776) (hC : σ.chs.length ≤ 1099511627776)
    (hin : ∀ i s x, (σ.settled i).safe s = some x → x ∈ σ.files) (L : Nat) (hsz : Sizes σ L) (hL : L ≤ 1099511627776) (keep : Int) (tv : Value) (ts : List Int) (ht : Ints w A tv ts) :
    Calls Try.prog 42 #[ptr d, .int .i64 keep, tv] w fun e w' => e = .returned (.tuple #[]) ∧ ∃ ks, Sorted (σ.settled (min keep.toNat σ.chs.length)).safe ks ∧ DiskAt w' (ext A w w') d K.length (σ.crashed (min keep.toNat σ.chs.length) ks ts) ∧ Keeps A w w' := by
  obtain ⟨k, hk⟩ : ∃ k, k = min keep.toNat σ.chs.length := ⟨_, rfl⟩
  rw [← hk]
  have hkl : k ≤ σ.chs.length := by omega
  have hkI : min (max keep 0) ((σ.chs.length : Nat) : Int) = (k : Int) := by omega
  have hset := settle_any h hK hKl k hkl
  have c2 := h.cell2
  have hlen := h.len
  obtain ⟨ao, cap, rfl, _, _, _⟩ := own_form h.row
  rw [hlen] at c2
  obtain ⟨to, tc, rfl, ht1, ht2, ht3⟩ := ht
  have H : Hid (Inner w A d K.length σ mn ms (.slice ao vals.length cap) vals bv) := h
  have HT : Hid (ts.length ≠ 0 → ∃ b off, to = some ⟨b, off, none⟩ ∧ ¬ A b ∧ ∀ k t, ts[k]? = some t → w.cell? ⟨b, off + k, none⟩ = some (.int .i64 t)) := ht3
  clear h hlen ht3 hk
  obtain ⟨τ, hτ⟩ : ∃ τ : Dk, τ = { σ.settled k with chs := [] } := ⟨_, rfl⟩
  rw [← hτ] at hset
  have Hτ : Hid (τ = { σ.settled k with chs := [] }) := hτ
  have hτs : τ.safe = (σ.settled k).safe := by rw [hτ]
  have hτf : τ.files = σ.files := by rw [hτ]; rfl
  have hszτ : Sizes τ L := by rw [hτ]; exact hsz
  have hinτ : ∀ s x, τ.safe s = some x → x ∈ τ.files := fun s x hx => by rw [hτf]; rw [hτs] at hx; exact hin k s x hx
  have HS : Hid (τ.safe = (σ.settled k).safe ∧ τ.files = σ.files) := ⟨hτs, hτf⟩
  clear hτ hτs hτf hsz hin hK
  unfold ptr at *
  go_enter Try.func42, Try.ntmps42
  go_wp2_with fail
  refine hset.mono ?_
  rintro e w1 ⟨rfl, h1, k1, hs1⟩
  have Hs1 : Hid (w1.heap.size = w.heap.size) := hs1
  clear hs1 hset c2
  have c1 := h1.cell1
  have hso := sorted_any ms K.length τ.safe w1 h1.safe hKl
  have H1 : Hid (Inner w1 A d K.length τ mn ms (.slice none 0 0) [] bv) := h1
  clear h1
  go_wp2_with fail
  refine hso.mono ?_
  rintro e w2 ⟨rv, ks, rfl, hks, hkl2, hks3, hrow, k2⟩
  obtain ⟨ro, rc, rfl, hrc1, hrc2, hro⟩ := own_form hrow
  unfold maxLen at hrc1
  have HR : Hid (Row9 w2 w1.heap.size (.slice ro ks.length rc) ks) := hrow
  clear hso hrow c1
  have h2 : Inner w2 (ext A w w2) d K.length τ mn ms (.slice none 0 0) [] bv := H1.out.kept k2 (fun _ _ e => e) (fun _ h => .inl h)
  have k12 : Keeps A w w2 := k1.then k2 (fun _ _ e => e.elim)
  have H2 : Hid (Inner w2 (ext A w w2) d K.length τ mn ms (.slice none 0 0) [] bv) := h2
  clear h2
  go_wp2_with fail
  go_loopw [25] (fun t25 wr => ∃ i : Nat, i ≤ ks.length ∧ t25 = .int .i64 i ∧ (∃ bv', Inner wr (ext A w wr) d K.length (τ.cr ks ts i) mn ms (.slice none 0 0) [] bv') ∧ Row9 wr w1.heap.size (.slice ro ks.length rc) ks ∧ Keeps A w wr) (fun t25 _ => ks.length - (intOf t25).toNat)
  case atStart => exact ⟨0, Nat.zero_le _, rfl, ⟨bv, H2.out⟩, HR.out, k12⟩
  case round =>
    obtain ⟨i, hi, rfl, ⟨bv', hI⟩, hrow, kk⟩ := hrel
    by_cases hlt : i < ks.length
    · obtain ⟨g, rfl⟩ := hro (by omega)
      obtain ⟨s, hs⟩ : ∃ s, ks[i]? = some s := ⟨ks[i], List.getElem?_eq_getElem hlt⟩
      have hcell : wr.cell? ⟨g, i, none⟩ = some (encStr s) := own_cell hrow i _ (by simp [hs])
      have hsm : s ∈ ks := List.mem_of_getElem? hs
      obtain ⟨x, hx⟩ : ∃ x, τ.safe s = some x := Option.isSome_iff_exists.1 ((hks.mem s).1 hsm)
      have hxf := hinτ s x hx
      have e1 := cr_safe τ ks ts i
      have hxf' : x ∈ (τ.cr ks ts i).files := by rw [e1.2.1]; exact hxf
      have hsz' := (hszτ.cr hinτ ks ts i) x hxf'
      have hf := hI.files x hxf'
      have hget := hI.safe.get ⟨s.toArray⟩ (by simpa [ByteArray.size] using hks3 s hsm) wr rfl x (by simp only [e1.1]; exact hx)
      have hcr := fun tail => fcrash_any x (bv' x) _ _ tail wr hf hsz'.1 (Nat.le_trans hsz'.2 hL)
      have HCR : Hid (τ.cr ks ts (i + 1) = (τ.cr ks ts i).wrote x (survive ((τ.cr ks ts i).cont x) ((τ.cr ks ts i).sure x) (tailAt ts i)) (survive ((τ.cr ks ts i).cont x) ((τ.cr ks ts i).sure x) (tailAt ts i)).length) := by
        show Dk.cr τ ks ts (i + 1) = _
        simp [Dk.cr, hs, hx]
      have c1 := hI.cell1
      have z1 : (0 : Int) ≤ (i : Int) := by omega
      have z2 : (i : Int) < (ks.length : Int) := by omega
      unfold encStr at hcell
      have HI : Hid (Inner wr (ext A w wr) d K.length (τ.cr ks ts i) mn ms (.slice none 0 0) [] bv') := hI
      have HRr : Hid (Row9 wr w1.heap.size (.slice (some ⟨g, 0, none⟩) ks.length rc) ks) := hrow
      have HXF : Hid (x ∈ (τ.cr ks ts i).files) := hxf'
      clear hs hsm hx hxf e1 hsz' hf hI hrow hxf'
      unfold ptr at *
      by_cases hts : ts.length = 0
      · have hta : tailAt ts i = 0 := by rw [List.eq_nil_of_length_eq_zero hts]; rfl
        have hz : ¬ ((0 : Int) < (ts.length : Int)) := by omega
        have hc := hcr 0
        rw [hta] at HCR
        clear hcr hta hts
        go_wp2_with fail
        refine hc.mono ?_
        rintro e w3 ⟨rfl, v', hf', hnew, k3⟩
        have hst := crash_step HI.out HXF.out hf' hnew k3 HRr.out kk
        have HST : Hid _ := hst
        clear hst hf' hnew k3 hc
        go_wp2_with fail
        go_roundw
        case rel =>
          refine ⟨i + 1, by omega, by go_num, ?_, HST.out.2⟩
          rw [HCR.out]
          exact HST.out.1
        case measure => simp [intOf]; omega
      · obtain ⟨b, off, rfl, hnA, hcs⟩ := HT.out hts
        have hmod : i % ts.length < ts.length := Nat.mod_lt _ (by omega)
        obtain ⟨t, htt⟩ : ∃ t, ts[i % ts.length]? = some t := ⟨_, List.getElem?_eq_getElem hmod⟩
        have hta : tailAt ts i = t := by simp [tailAt, List.getD, htt]
        have htc := kk.cell (hcs _ t htt) hnA
        have hc := hcr t
        rw [hta] at HCR
        clear hcr htt hta hcs
        have hp : (0 : Int) < (ts.length : Int) := by omega
        go_wp2_with fail
        refine hc.mono ?_
        rintro e w3 ⟨rfl, v', hf', hnew, k3⟩
        have hst := crash_step HI.out HXF.out hf' hnew k3 HRr.out kk
        have HST : Hid _ := hst
        clear hst hf' hnew k3 hc
        go_wp2_with fail
        go_roundw
        case rel =>
          refine ⟨i + 1, by omega, by go_num, ?_, HST.out.2⟩
          rw [HCR.out]
          exact HST.out.1
        case measure => simp [intOf]; omega
    · have z2 : ¬ (i : Int) < (ks.length : Int) := by omega
      have ei : i = ks.length := by omega
      subst ei
      have HI : Hid (Inner wr (ext A w wr) d K.length (τ.cr ks ts ks.length) mn ms (.slice none 0 0) [] bv') := hI
      have c1 : wr.drew.cell? ⟨d, 1, none⟩ = some (.map (some ms)) := hI.cell1
      have hcl := clone_any ms K.length (τ.cr ks ts ks.length).safe wr.drew hI.safe
      have hhd : wr.drew.heap[d]? = some (.cells (headOf mn ms (.slice none 0 0) (τ.cr ks ts ks.length).left) 80 (0, 0)) := hI.head
      have hsm := fun (w3 : World) (k3 : Fresh wr.drew w3) => k3.heap hhd (fun e => e)
      have HSM : Hid (∀ w3, Fresh wr.drew w3 → w3.heap[d]? = some (.cells (headOf mn ms (.slice none 0 0) (τ.cr ks ts ks.length).left) 80 (0, 0))) := hsm
      clear hI hhd hsm
      go_wp2_with fail
      go_region_with (go_at_call 72; refine hcl.mono ?_; rintro e w3 ⟨rfl, hm3, k3⟩; obtain ⟨g0, g1, g2, g3, g4, f0, f1, f2, f3, f4⟩ := head_cells (HSM.out w3 k3))
      all_goals
        have hfin := crash_end HI.out kk k3 hm3 (HSM.out w3 k3) rfl
        have HF : Hid _ := hfin
        clear hfin hcl g0 g1 g2 g3 g4 f0 f1 f2 f3 f4 hm3 k3
        go_wp2
        go_end0
        refine ⟨rfl, ks, ?_, ?_, HF.out.2⟩
        · rw [← HS.out.1]; exact hks
        · have := HF.out.1
          unfold Dk.crashed
          rw [← Hτ.out]
          exact this
end
end Go.Proofs.Ytegbkpjcjlihmaa
