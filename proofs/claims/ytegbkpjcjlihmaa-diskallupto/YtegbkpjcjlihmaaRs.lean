/-
  The law's own 'shows': the disk's names and texts are the reference's.
-/
import Derived.Test.YtegbkpjcjlihmaaRt
import Derived.Test.YtegbkpjcjlihmaaOpc
namespace Go.Proofs.Ytegbkpjcjlihmaa
open Go.RowKit Go.Maps

theorem Sim.reads {φ : Nat → Nat} {R : Nat → Prop} {σ : Dk} {ρ : Rf} {K : List Text} {C L : Nat} (h : Sim φ R σ ρ) (hf : Fits K C L σ) {l : List Ent} (hl : EntsOf φ σ.now l) {s t : Text} {b : Bool} (hr : Reads ρ l s t b) : t = (σ.read s).getD [] ∧ b = (σ.read s).isSome := by
  rcases hr with ⟨n, k, hm, hfl, rfl⟩ | ⟨hno, rfl, rfl⟩
  · obtain ⟨x, hx, rfl⟩ := (hl.2 s n).1 hm
    rw [h.file x (h.nowRef hf hx)] at hfl
    obtain ⟨rfl, _⟩ := Prod.mk.inj (Option.some.inj hfl)
    simp [Dk.read, hx]
  · cases e : σ.now s with
    | none => simp [Dk.read, e]
    | some x => exact absurd ((hl.2 s (φ x)).2 ⟨x, e, rfl⟩) (hno _)

/-- where the loop of 'shows' stands -/
structure ShAt (w wr : World) (A : Nat → Prop) (d n : Nat) (σ : Dk) (ks : List Text) (v1 v2 : Value) (b2 i : Nat) : Prop where
  disk : DiskAt wr A d n σ
  keeps : Keeps A w wr
  want : Row9 wr b2 v2 ks
  got : ∃ xs, wr.ownsRow w.heap.size 9 1 v1 ks.length xs ∧ ∀ (j : Nat) s, i ≤ j → ks[j]? = some s → xs[j]? = some (.string ⟨s.toArray⟩)

section
variable {w : World} {A B : Nat → Prop} {d r : Nat} {σ : Dk} {ρ : Rf} {K : List Text} {C L : Nat} {φ : Nat → Nat} {R : Nat → Prop} {m : Nat} {l : List Ent}

set_option maxHeartbeats 8000000 in
set_option maxRecDepth 100000 in
theorem shows_any (hD : DiskAt w A d K.length σ) (hA : ∀ k, A k → k < w.heap.size) (hf : Fits K C L σ) (hKl : K.length ≤ 1099511627) (hR : RefAt w B r ρ) (hAB : ∀ k, B k → ¬ A k) (hg : Rg ρ m l L) (hS : Sim φ R σ ρ) (hl : EntsOf φ σ.now l) :
    Calls Try.prog 24 #[ptr d, ptr r] w fun e w' => e = .returned (.bool true) ∧ DiskAt w' A d K.length σ ∧ Keeps A w w' := by
  obtain ⟨mn, ms, cv, vs, bv, hI⟩ := hD
  obtain ⟨fv, lv, vals, hI2⟩ := hR
  have hll := (hg.names m l hg.last).1
  have hin := (hg.names m l hg.last).2
  have hn := names_any hI (by omega)
  have H2 : Hid (RefIn w B r ρ fv lv vals) := hI2
  have H1 : Hid (Inner w A d K.length σ mn ms cv vs bv) := hI
  clear hI hI2
  unfold ptr at *
  go_enter Try.func24, Try.ntmps24
  go_wp2_with fail
  refine hn.mono ?_
  rintro e w1 ⟨v1, ks, rfl, hks, hkl, hkm, hr1, f1⟩
  have hsort := hl.sorted hks
  have hn2 := rnames_any (H2.out.kept (A' := B) f1 (fun _ _ e => e) (fun _ h => h)) hg.len hg.last hll
  rw [hsort] at hn2
  clear hn
  unfold ptr at hn2
  go_wp2_with fail
  refine hn2.mono ?_
  rintro e w2 ⟨v2, rfl, hr2, f2⟩
  obtain ⟨o1, p1, rfl, hp1, hp2, ho1⟩ := own_form' hr1
  obtain ⟨o2, p2, rfl, hq1, hq2, ho2⟩ := own_form' hr2
  unfold maxLen at hp1 hq1
  have HG1 : Hid (∀ j, (Value.slice o1 ks.length p1).ownBlock = some j → j < w1.heap.size) := fun j hj => (World.ownsRow.lt hr1 j hj).2
  have s1 := f1.size
  have hst : ShAt w w2 A d K.length σ ks (.slice o1 ks.length p1) (.slice o2 ks.length p2) w1.heap.size 0 := by
    refine ⟨⟨mn, ms, cv, vs, bv, H1.out.kept (f1.trans f2) (fun _ _ e => e) (fun _ h => h)⟩, Keeps.ofFresh (f1.trans f2), hr2, ks.map encStr, f2.owns hr1 (fun _ _ e => e), fun j s _ hs => ?_⟩
    rw [List.getElem?_map, hs]; rfl
  have HST : Hid _ := hst
  have HRD : Hid (∀ (wr : World), DiskAt wr A d K.length σ → ∀ s : ByteArray, s.size ≤ maxLen → Calls Try.prog 54 #[.pointer (some ⟨d, 0, none⟩), .string s] wr fun e w' => e = .returned (.tuple #[.string ⟨((σ.read s.data.toList).getD []).toArray⟩, .bool (σ.read s.data.toList).isSome]) ∧ DiskAt w' A d K.length σ ∧ Keeps A wr w' ∧ w'.heap.size = wr.heap.size) := fun wr hd s hs => by
    obtain ⟨mn, ms, cv, vs, bv, hi⟩ := hd
    refine (read_any hi hf.nowIn s hs).mono ?_
    rintro e w' ⟨rfl, h1, h2, h3⟩
    exact ⟨rfl, ⟨mn, ms, cv, vs, bv, h1⟩, h2, h3⟩
  have HRR : Hid (∀ (wr : World), Keeps A w wr → ∀ s : ByteArray, Calls Try.prog 55 #[.pointer (some ⟨r, 0, none⟩), .string s] wr fun e w' => e = .returned (.tuple #[.string ⟨((σ.read s.data.toList).getD []).toArray⟩, .bool (σ.read s.data.toList).isSome]) ∧ Fresh wr w') := fun wr hk s => by
    have hi := H2.out.kept (A' := B) hk hAB (fun _ h => h)
    refine (rread_any hi hg.len hg.last hll hin s wr (Keeps.refl _ wr)).mono ?_
    rintro e w' ⟨t, b, rfl, hrd, f⟩
    obtain ⟨rfl, rfl⟩ := hS.reads hf hl hrd
    exact ⟨rfl, f⟩
  clear hst hr1 hr2 hn2
  go_wp2_with fail
  go_loopw [7] (fun t7 wr => ∃ i : Nat, i ≤ ks.length ∧ t7 = .int .i64 i ∧ ShAt w wr A d K.length σ ks (.slice o1 ks.length p1) (.slice o2 ks.length p2) w1.heap.size i) (fun t7 _ => ks.length - (intOf t7).toNat)
  case atStart => exact ⟨0, Nat.zero_le _, rfl, HST.out⟩
  case round =>
    obtain ⟨i, hi, rfl, hinv⟩ := hrel
    by_cases hlt : i < ks.length
    · obtain ⟨g1, rfl⟩ := ho1 (by omega)
      obtain ⟨g2, rfl⟩ := ho2 (by omega)
      obtain ⟨s, hs⟩ : ∃ s, ks[i]? = some s := ⟨ks[i], List.getElem?_eq_getElem hlt⟩
      have hsm : (⟨s.toArray⟩ : ByteArray).size ≤ maxLen := by
        have := hkm s (List.mem_of_getElem? hs)
        simpa [ByteArray.size] using this
      obtain ⟨T, hT⟩ : ∃ T, σ.read s = some T := by
        have := (hks.mem s).1 (List.mem_of_getElem? hs)
        obtain ⟨x, hx⟩ := Option.isSome_iff_exists.1 this
        exact ⟨σ.cont x, by simp [Dk.read, hx]⟩
      have hrd := HRD.out wr hinv.disk ⟨s.toArray⟩ hsm
      have e0 : (⟨s.toArray⟩ : ByteArray).data.toList = s := rfl
      rw [e0, hT] at hrd
      simp only [Option.getD_some, Option.isSome_some] at hrd
      have cw : wr.cell? ⟨g2, i, none⟩ = some (.string ⟨s.toArray⟩) := own_cell' hinv.want i _ (by rw [List.getElem?_map, hs]; rfl)
      have z1 : (0 : Int) ≤ (i : Int) := by omega
      have z2 : (i : Int) < (ks.length : Int) := by omega
      have HI : Hid _ := hinv
      have HS' : Hid (ks[i]? = some s) := hs
      have HT : Hid (σ.read s = some T) := hT
      clear hinv hs hT e0
      go_wp2_with fail
      refine hrd.mono ?_
      rintro e w3 ⟨rfl, hd3, k3, hs3⟩
      have n2 : ∀ j, (Value.slice (some ⟨g2, 0, none⟩) ks.length p2).ownBlock = some j → ¬ A j := fun j hj e => by
        have h1 := (World.ownsRow.lt HI.out.want j hj).1
        have h2 := hA j e
        omega
      have n1 : ∀ j, (Value.slice (some ⟨g1, 0, none⟩) ks.length p1).ownBlock = some j → ¬ A j := fun j hj e => by
        obtain ⟨xs, hx, _⟩ := HI.out.got
        have h1 := (World.ownsRow.lt hx j hj).1
        have h2 := hA j e
        omega
      have hw3 : Row9 w3 w1.heap.size (.slice (some ⟨g2, 0, none⟩) ks.length p2) ks := k3.owns HI.out.want n2
      have cw3 : w3.cell? ⟨g2, i, none⟩ = some (.string ⟨s.toArray⟩) := own_cell' hw3 i _ (by rw [List.getElem?_map, HS'.out]; rfl)
      have k03 : Keeps A w w3 := HI.out.keeps.then k3 (fun _ _ e => e)
      have hrr := HRR.out w3 k03 ⟨s.toArray⟩
      have e0 : (⟨s.toArray⟩ : ByteArray).data.toList = s := rfl
      rw [e0, HT.out] at hrr
      simp only [Option.getD_some, Option.isSome_some] at hrr
      have HW3 : Hid _ := hw3
      have HD3 : Hid (DiskAt w3 A d K.length σ) := hd3
      clear hrd cw hw3 hd3 e0
      go_wp2_with fail
      refine hrr.mono ?_
      rintro e w4 ⟨rfl, f4⟩
      have hw4 : Row9 w4 w1.heap.size (.slice (some ⟨g2, 0, none⟩) ks.length p2) ks := f4.owns HW3.out (fun _ _ e => e)
      obtain ⟨xs, hx, hxs⟩ := HI.out.got
      have hx4 : w4.ownsRow w.heap.size 9 1 (.slice (some ⟨g1, 0, none⟩) ks.length p1) ks.length xs := f4.owns (k3.owns hx n1) (fun _ _ e => e)
      have cg : w4.cell? ⟨g1, i, none⟩ = some (.string ⟨s.toArray⟩) := own_cell' hx4 i _ (hxs i s (Nat.le_refl _) HS'.out)
      have cw4 : w4.cell? ⟨g2, i, none⟩ = some (.string ⟨s.toArray⟩) := own_cell' hw4 i _ (by rw [List.getElem?_map, HS'.out]; rfl)
      have HX4 : Hid _ := hx4
      have HXS : Hid _ := hxs
      have HW4 : Hid _ := hw4
      clear hrr cw3 hx hxs hx4 hw4
      go_wp2_with fail
      go_quiet (fail)
      have f5 : Fresh w4 (w4.drewN nq) := (Keeps.refl _ _).drewN nq
      generalize w4.drewN nq = w5 at f5 ⊢
      have hx5 : w5.ownsRow w.heap.size 9 1 (.slice (some ⟨g1, 0, none⟩) ks.length p1) ks.length xs := f5.owns HX4.out (fun _ _ e => e)
      have c5 : w5.cell? ⟨g1, i, none⟩ = some (.string ⟨s.toArray⟩) := own_cell' hx5 i _ (HXS.out i s (Nat.le_refl _) HS'.out)
      have z5 : w5.frozen? ⟨g1, i, none⟩ = false := owns_frozen hx5 i
      have nA : ¬ A g1 := n1 g1 rfl
      have g1lt := HG1.out g1 rfl
      have g1ge := (World.ownsRow.lt hx5 g1 rfl).1
      have hnx : ShAt w (w5.setCell ⟨g1, i, none⟩ (.string ⟨#[115, 112, 111, 105, 108, 116]⟩)) A d K.length σ ks (.slice (some ⟨g1, 0, none⟩) ks.length p1) (.slice (some ⟨g2, 0, none⟩) ks.length p2) w1.heap.size (i + 1) := by
        have ks5 : Keeps (fun k => k = g1) w5 (w5.setCell ⟨g1, i, none⟩ (.string ⟨#[115, 112, 111, 105, 108, 116]⟩)) := (Keeps.refl (fun k => k = g1) w5).setCell (p := ⟨g1, i, none⟩) (fun _ => rfl) _
        refine ⟨DiskAt.kept (DiskAt.kept HD3.out (f4.trans f5) (fun _ _ e => e) (fun _ h => h)) ks5 (fun j hj e => nA (e ▸ hj)) (fun _ h => h), ((k03.then f4 (fun _ _ e => e.elim)).then f5 (fun _ _ e => e.elim)).then ks5 (fun j hj e => by omega), ?_, xs.set i (.string ⟨#[115, 112, 111, 105, 108, 116]⟩), ?_, ?_⟩
        · have hw5 := f5.owns HW4.out (fun _ _ e => e)
          refine ks5.owns hw5 (fun j hj e => ?_)
          have := (World.ownsRow.lt hw5 j hj).1
          omega
        · exact owns_set hx5 i _ (by omega)
        · intro j t hj ht
          rw [List.getElem?_set_ne (by omega)]
          exact HXS.out j t (by omega) ht
      have HNX : Hid (ShAt w (w5.setCell ⟨g1, i, none⟩ (.string ⟨#[115, 112, 111, 105, 108, 116]⟩)) A d K.length σ ks (.slice (some ⟨g1, 0, none⟩) ks.length p1) (.slice (some ⟨g2, 0, none⟩) ks.length p2) w1.heap.size (i + 1)) := hnx
      refine (by assumption : ∀ (a : Act) (w : World), Code.wp Try.prog _ _ a w → _) _ _ ?_
      clear hnx hx5 cg cw4 n1 n2
      go_wp2_with fail
      go_roundw
      case rel => exact ⟨i + 1, by omega, by go_num, HNX.out⟩
      case measure => simp [intOf]; omega
    · have z2 : ¬ (i : Int) < (ks.length : Int) := by omega
      obtain ⟨T, hT⟩ : ∃ T, T = (σ.read [115, 112, 111, 105, 108, 116]).getD [] := ⟨_, rfl⟩
      obtain ⟨q, hq⟩ : ∃ q, q = (σ.read [115, 112, 111, 105, 108, 116]).isSome := ⟨_, rfl⟩
      have e0 : (⟨#[115, 112, 111, 105, 108, 116]⟩ : ByteArray).data.toList = [115, 112, 111, 105, 108, 116] := rfl
      have hrd := HRD.out wr hinv.disk ⟨#[115, 112, 111, 105, 108, 116]⟩ (by decide)
      rw [e0, ← hT, ← hq] at hrd
      clear e0
      have HI : Hid _ := hinv
      clear hinv
      go_wp2_with fail
      refine hrd.mono ?_
      rintro e w3 ⟨rfl, hd3, k3, hs3⟩
      have k03 : Keeps A w w3 := HI.out.keeps.then k3 (fun _ _ e => e)
      have hrr := HRR.out w3 k03 ⟨#[115, 112, 111, 105, 108, 116]⟩
      rw [show (⟨#[115, 112, 111, 105, 108, 116]⟩ : ByteArray).data.toList = [115, 112, 111, 105, 108, 116] from rfl, ← hT, ← hq] at hrr
      have HD3 : Hid (DiskAt w3 A d K.length σ) := hd3
      clear hrd hd3 hT hq
      go_wp2_with fail
      refine hrr.mono ?_
      rintro e w4 ⟨rfl, f4⟩
      clear hrr
      go_wp2
      go_ret
      refine ⟨?_, DiskAt.kept HD3.out f4 (fun _ _ e => e) (fun _ h => h), k03.then f4 (fun _ _ e => e.elim)⟩
      simp
end
end Go.Proofs.Ytegbkpjcjlihmaa
