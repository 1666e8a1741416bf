/-
  The first Open; a new player of mails. | A plain spool: alive. | The law SpoolKeeps, walked. | What SpoolKeeps's row needs: a script that came in, and what the listed variables give.
-/
import Derived.Test.YtegbkpjcjlihmabGreatDoorIk
import Derived.Test.YtegbkpjcjlihmabGreatDoorIj
import Derived.Test.YtegbkpjcjlihmabGreatDoorHb
namespace Go.Proofs.YtegbkpjcjlihmabGreatDoor
open Go.RowKit Go.Maps Go.Sort Go.Lib

section
variable {w we wr w' : World} {t p d C L : Nat} {A T : Nat → Prop} {σ σ' : Dk} {ks : List Text} {k : Int} {K : List Text}

theorem open_first (hs : Sorted Dk.empty.now ks) (hr : runs ((openW ks).map Wr.rel) Dk.empty k σ') (hf : Fits K C L σ') : k = 0 ∧ σ'.left = none ∧ ks = [] ∧ Alive σ' [] 0 := by
  have hks : ks = [] := List.eq_nil_iff_forall_not_mem.2 (fun s h => by
    have := (hs.mem s).1 h
    cases this)
  subst hks
  have e : openW [] = [(0, lName 0, []), (5, [], [])] := rfl
  rw [e] at hr
  obtain ⟨k1, σ1, h1, h2⟩ := hr
  have h1' : Dk.empty.creates (lName 0) k1 σ1 := h1
  have lf1 : σ1.left = none := Wr.leftN (0, lName 0, []) rfl h1
  rcases h1' with ⟨q, _⟩ | ⟨_, q, _⟩ | ⟨_, _, x, _, rfl, hσ1⟩
  · cases q
  · cases q
  rcases h2 with ⟨_, k2, σ2, h2, h3⟩ | ⟨q, _⟩
  · have h2' : σ1.syncsDir k2 σ2 := h2
    have lf2 : σ2.left = none := Wr.leftN (5, [], []) lf1 h2
    have hk2 : k2 = 0 := by
      rcases h2' with ⟨q, _⟩ | ⟨_, q, _⟩
      · unfold Dk.dead at q
        rw [lf1] at q
        cases q
      · exact q
    subst hk2
    rcases h3 with ⟨_, h3⟩ | ⟨q, _⟩
    · obtain ⟨rfl, rfl⟩ := h3
      have n2 : ∀ s, σ'.now s = σ1.now s := fun s => Wr.nowOther (5, [], []) (fun e => e) (fun e => e) h2
      have n0 : ∀ s, s ≠ lName 0 → σ'.now s = none := fun s hn => by
        rw [n2 s, Wr.nowOther (0, lName 0, []) (fun e => hn e) (fun e => e) h1]
        rfl
      have n1 : (σ'.now (lName 0)).isSome = true := by
        rw [n2, hσ1]
        simp [Dk.did, Dk.add, Chg.app, putN]
      have hml : ∀ s, MlN s → σ'.now s = none := fun s hs => n0 s (fun e => lName_not (n := 0) (by decide) (by decide) (e ▸ hs))
      have hnew : σ'.now newT = none := n0 newT (by decide)
      refine ⟨rfl, lf2, rfl, Alive.of hf ⟨by decide, by decide, (fun w hw => by cases hw), List.Pairwise.nil⟩ (fun s _ => firm_synced hf h2 s) hnew ⟨⟨0, .inl rfl, fun s hs => ⟨fun h => ?_, fun h => by rw [h]; exact n1⟩⟩, fun s hs h => ?_, (fun w hw => by cases hw)⟩ (fun s x hs hx => ?_)⟩
      · by_cases e : s = lName 0
        · exact e
        · rw [n0 s e] at h
          cases h
      · rw [hml s hs] at h
        cases h
      · rw [hml s hs] at hx
        cases hx
    · exact absurd rfl q
  · exact absurd rfl q

/-- an Open of a new disk -/
theorem open0 (h : Live w we A d (K5 t) 0 0 Dk.empty) (hG : Gl w) (h8 : 8 ≤ w.heap.size) (ht : t ≤ 1000000) :
    Calls Tryz.prog 18 #[ptr d] we fun e w' => ∃ s mw N W σ' A', e = .returned (.tuple #[ptr s, .int .i64 0]) ∧ Live w w' A' d (K5 t) 2 0 σ' ∧ (∀ i, A' i → A i ∨ we.heap.size ≤ i) ∧ Keeps A we w' ∧ σ'.left = none ∧ we.heap.size ≤ s ∧ we.heap.size ≤ mw ∧ N ≤ 2 * t + 5 ∧ SpAt w A' d 0 s mw N (Pm []) 0 false W w' ∧ Dom [] W ∧ Alive σ' [] 0 := by
  have hK := K5_len t
  refine (open_any h hG h8 (by omega) (K5_size ht) (by omega) (by omega) (K5_l (n := 0) (by omega) (by omega))).mono ?_
  rintro e w' ⟨ks, k, σ', A', hso, hr, hl, hA, hk, hc⟩
  obtain ⟨rfl, lf, rfl, al⟩ := open_first hso hr hl.2.2.1
  rcases hc with ⟨c1, _⟩ | ⟨_, s, mw, N, W, rfl, c2, c3, c4, c5, c6⟩
  · exact absurd rfl c1
  · refine ⟨s, mw, N, W, σ', A', rfl, hl, hA, hk, lf, c3, c4, by omega, c6.monoP (fun n M hP => ?_), fun n => ?_, al⟩
    · obtain ⟨s, hs, _⟩ := hP
      cases hs
    · constructor
      · intro e
        obtain ⟨b, hb⟩ := Option.isSome_iff_exists.1 e
        obtain ⟨s, hs, _⟩ := c5.1 n b hb
        cases hs
      · intro e
        cases e

def ρ0 : Rs := ⟨.slice none 0 0, [], [], 0, false, false, ⟨#[]⟩, ⟨#[]⟩, .slice none 0 0, ⟨#[]⟩, [], false, 0, ⟨#[]⟩, ⟨#[]⟩⟩

set_option maxHeartbeats 4000000 in
set_option maxRecDepth 100000 in
theorem newP (hF : Fresh w we) (hG : Gl w) (h8 : 8 ≤ w.heap.size) :
    Calls Tryz.prog 8 #[] we fun e w' => ∃ p d, e = .returned (ptr p) ∧ ∃ stop, PNext5 w 0 p d 2 0 stop w' := by
  have n0 := new_live (K5 0) w we hF
  have hwz := hF.size
  go_enter Tryz.func8, Tryz.ntmps8
  go_wp2_with fail
  refine n0.mono ?_
  rintro e w1 ⟨d, rfl, l1, k1⟩
  have hk1 := k1.size
  have hop := open0 l1 hG h8 (by omega)
  unfold ptr at *
  go_wp2_with fail
  refine hop.mono ?_
  rintro e w2 ⟨s, mw, N, W, σ', A', rfl, hl, hA, hk, lf, c3, c4, c5, c6, c7, al⟩
  have hk2 := hk.size
  have f2 : Fresh w2 ((w2.alloc (rCells ρ0)).alloc (.cells #[.pointer (some ⟨d, 0, none⟩), .pointer (some ⟨s, 0, none⟩), .pointer (some ⟨w2.heap.size, 0, none⟩), .bool false] 38)) := ((Keeps.refl _ _).alloc _).alloc _
  obtain ⟨ha, hb⟩ := heap2 w2 (rCells ρ0) (.cells #[.pointer (some ⟨d, 0, none⟩), .pointer (some ⟨s, 0, none⟩), .pointer (some ⟨w2.heap.size, 0, none⟩), .bool false] 38)
  have hsl := c6.lt
  have hml := c6.wt.lt
  have hA2 : ∀ i, A' i → i < w2.heap.size := fun i hi => (hl.1 i hi).2
  have hWn : ∀ n i, W n ≠ some i := fun n i e => by
    have := (c7 n).1 (by rw [e]; rfl)
    cases this
  have HN : Hid (∃ stop, PNext5 w 0 (w2.heap.size + 1) d 2 0 stop ((w2.alloc (rCells ρ0)).alloc (.cells #[.pointer (some ⟨d, 0, none⟩), .pointer (some ⟨s, 0, none⟩), .pointer (some ⟨w2.heap.size, 0, none⟩), .bool false] 38))) := by
    refine ⟨false, A', σ', s, mw, N, W, 0, false, w2.heap.size, ρ0, hl.fresh f2, hb, (fun e => by have := hA2 _ e; omega), by omega, c6.fresh f2, ⟨by omega, by omega, fun n => hWn n _⟩, ⟨ha, World.ownsRow_nil _ _ _ _, rfl, (fun i x g hx hg => by cases hx), AdAt.nil _ _, fun e => ?_, (fun k hk => by cases hk), by omega⟩, fun _ => lf, Int.le_refl _, Int.le_refl _, ⟨c5, Nat.le_refl _⟩, (fun g hg => by cases hg), .inl ⟨rfl, rfl, rfl, rfl, c7, al⟩⟩
    rcases e with e | e | e | ⟨n, e⟩ | e
    · have := hA2 _ e; omega
    · omega
    · omega
    · exact hWn n _ e
    · omega
  clear n0 hop l1 k1 hl hA hk lf c3 c4 c5 c6 c7 al f2 ha hb hWn hA2
  unfold rCells ρ0 at HN
  go_wp2_with (go_at_call 19; refine (num5 _ _).mono ?_; rintro e w' ⟨rfl, hw'⟩; have hw' := hw'.symm; subst hw')
  go_ret
  exact ⟨w2.heap.size + 1, d, rfl, HN.out⟩

end
end Go.Proofs.YtegbkpjcjlihmabGreatDoor

namespace Go.Proofs.YtegbkpjcjlihmabGreatDoor
open Go.RowKit Go.Maps Go.Sort Go.Lib

def m1 : Ml := ([], [], [([97], [98])], [120, 13, 10])

section
variable {w we wr w' : World} {t p d C L : Nat} {A T : Nat → Prop} {σ σ' : Dk} {s mw N : Nat} {W : Waits} {k : Int}

theorem put1 (h : Live w we A d (K5 1) 2 0 σ) (hG : Gl w) (hsp : SpAt w A d 0 s mw N (Pm []) 0 false W we) (hN : N ≤ 7) (hal : Alive σ [] 0) (hlf : σ.left = none) (g : Nat) (hc0 : we.cell? ⟨g, 0, none⟩ = some (.string ⟨#[97]⟩)) (hc1 : we.cell? ⟨g, 1, none⟩ = some (.string ⟨#[98]⟩)) (hgA : ¬ A g ∧ g ≠ s) :
    Calls Tryz.prog 21 #[ptr s, .agg #[.string ⟨#[]⟩, .string ⟨#[]⟩, .slice (some ⟨g, 0, none⟩) 1 1, .string ⟨#[120, 13, 10]⟩]] we fun e w' => e = .returned (.tuple #[.int .i64 1, .int .i64 0]) ∧ ∃ A' σ', Live w w' A' d (K5 1) 8 1000 σ' ∧ (∀ i, A' i → A i ∨ we.heap.size ≤ i) ∧ σ'.left = none ∧ Alive σ' [(1, m1, once (mlTo m1))] 1 := by
  have hw : mlW m1 ≤ 1048576 := by decide
  have hT : (mlText m1).length ≤ 1000 := by
    have h1 := mlT_len hw
    have h2 : mlW m1 = 6 := by decide
    omega
  have hTo := mlT_to m1
  have htt := toT_len (l := m1.2.2.1) (by decide)
  have h3 : toW m1.2.2.1 = 3 := by decide
  have hK := K5_len 1
  refine (put_any h hG hsp ⟨#[]⟩ ⟨#[]⟩ ⟨#[120, 13, 10]⟩ (some ⟨g, 0, none⟩) 1 [([97], [98])] (by decide) (by decide) (by decide) (by decide) (by omega) (fun q hq => by
    rw [List.mem_singleton.1 hq]
    unfold okA maxLen
    decide) (fun j u hj => ⟨g, rfl, by
      match j, hj with
      | 0, hj => rw [hc0]; exact hj
      | 1, hj => rw [hc1]; exact hj
      | j + 2, hj => cases hj⟩) (fun g' e => by
        injection e with e
        injection e with e
        subst e
        exact hgA) (by show (mlText m1).length ≤ _; omega) (by show (wt (m1.2.2.1.flatMap twoOf)).length ≤ _; omega) hTo (by omega) (K5_new 1) (K5_l (n := 0 + 1) (by decide) (by decide)) (K5_m (n := 0 + 1) (by decide) (by decide)) (by omega) (by omega)).mono ?_
  rintro e w' ⟨b', σ', A', hs, hl, hA', k, hres⟩
  rcases hs with ⟨hb, _⟩ | ⟨_, kk, hr, hk⟩
  · cases hb
  have hp := hal.put h.2.2.1 (by decide) (mlOk_of hw) (m := m1) (by decide) (K5_new 1) (K5_l (n := 0 + 1) (by decide) (by decide)) (K5_m (n := 0 + 1) (by decide) (by decide)) hr
  rcases hp with ⟨_, h2, _⟩ | ⟨h2, hal'⟩
  · exact absurd hlf h2
  rcases hres with ⟨rfl, _⟩ | ⟨rfl, rfl, _⟩
  · rcases hk with ⟨e1, _⟩ | ⟨_, e1⟩
    · cases e1
    · exact absurd h2 e1
  · exact ⟨rfl, A', σ', hl.mono (by omega) (by
      have h9 : 0 + (mlText m1).length ≤ 1000 := by omega
      exact h9), hA', runs_left hr hlf, hal'⟩

set_option maxHeartbeats 8000000 in
set_option maxRecDepth 100000 in
theorem alive5 (hF : Fresh w we) (hG : Gl w) (h8 : 8 ≤ w.heap.size) : Calls Tryz.prog 12 #[] we fun e w' => e = .returned (.bool true) ∧ Fresh w w' := by
  have n0 := new_live (K5 1) w we hF
  have hwz := hF.size
  have hK5 := K5_len 1
  go_enter Tryz.func12, Tryz.ntmps12
  go_wp2_with fail
  refine n0.mono ?_
  rintro e w1 ⟨d, rfl, l1, k1⟩
  have hk1 := k1.size
  have hop := open0 l1 hG h8 (by omega)
  unfold ptr at *
  go_wp2_with fail
  refine hop.mono ?_
  rintro e w2 ⟨s, mw, N, W, σ1, A1, rfl, hl, hA, hk, lf, c3, c4, c5, c6, c7, al⟩
  have f2 : Fresh w2 ((w2.alloc (.cells #[.string ⟨#[97]⟩, .string ⟨#[98]⟩] 56)).alloc (.cells #[.string ⟨#[]⟩, .string ⟨#[]⟩, .slice (some ⟨w2.heap.size, 0, none⟩) 1 1, .string ⟨#[120, 13, 10]⟩] 59)) := ((Keeps.refl _ _).alloc _).alloc _
  obtain ⟨ha, hb⟩ := heap2 w2 (.cells #[.string ⟨#[97]⟩, .string ⟨#[98]⟩] 56) (.cells #[.string ⟨#[]⟩, .string ⟨#[]⟩, .slice (some ⟨w2.heap.size, 0, none⟩) 1 1, .string ⟨#[120, 13, 10]⟩] 59)
  have hsl := c6.lt
  have hA2 : ∀ i, A1 i → i < w2.heap.size := fun i hi => (hl.1 i hi).2
  obtain ⟨a0, a1, _, _⟩ := cells2 ha
  obtain ⟨b0, b1, b2, b3, _⟩ := mcells hb
  have hput := put1 (hl.fresh f2) hG (c6.fresh f2) (by omega) al lf w2.heap.size a0 a1 ⟨fun e => by have := hA2 _ e; omega, by omega⟩
  unfold ptr at hput
  clear n0 hop l1 k1 hl hA hk lf c3 c4 c5 c6 c7 al hA2 hsl a0 a1 ha hb
  go_upto_region 6 with (go_at_call 19; refine (num5 _ _).mono ?_; rintro e w' ⟨rfl, hw'⟩; have hw' := hw'.symm; subst hw')
  generalize (w2.alloc (.cells #[.string ⟨#[97]⟩, .string ⟨#[98]⟩] 56)).alloc (.cells #[.string ⟨#[]⟩, .string ⟨#[]⟩, .slice (some ⟨w2.heap.size, 0, none⟩) 1 1, .string ⟨#[120, 13, 10]⟩] 59) = w3 at *
  go_wp2_with fail
  refine hput.mono ?_
  rintro e w4 ⟨rfl, A4, σ4, l4, hA4, lf4, al4⟩
  have hcr := l4.crash (by omega) (by omega) (by omega) 0 (.slice none 0 0) [] ⟨none, 0, rfl, by omega, Nat.le_refl _, fun e => absurd rfl e⟩
  unfold ptr at hcr
  have HAL4 : Hid (Alive σ4 [(1, m1, once (mlTo m1))] 1) := al4
  have HF4 : Hid (Fits (K5 1) 8 1000 σ4) := l4.2.2.1
  clear hput l4 hA4 lf4 al4 b0 b1 b2 b3 f2
  go_wp2_with fail
  refine hcr.mono ?_
  rintro e w5 ⟨ks, rfl, hso, l5, k5⟩
  have hI := HAL4.out.inv.crashed HF4.out (min (Int.toNat 0) σ4.chs.length) ks []
  have lf5 : (σ4.crashed (min (Int.toNat 0) σ4.chs.length) ks []).left = none := rfl
  generalize σ4.crashed (min (Int.toNat 0) σ4.chs.length) ks [] = σ5 at *
  have hop := open5 l5 hG h8 (by omega) (by omega) (by omega) hI (by omega)
  unfold ptr at hop
  clear hcr hso l5 k5 hI
  go_wp2_with fail
  refine hop.mono ?_
  rintro e w6 ⟨sv, ev, rfl, σ6, A6, l6, hA6, k6, _, hcase⟩
  clear hop
  rcases hcase with ⟨_, _, q, _⟩ | ⟨_, rfl, s6, mw6, N6, W6, l', lv', hsv, c2, c3, c4, c5, c6, c7, c8⟩
  · exact absurd lf5 q
  unfold ptr at hsv
  subst hsv
  obtain ⟨rfl, rfl⟩ := (show l' = [(1, m1, once (mlTo m1))] ∧ lv' = 1 from c5)
  have HT : Hid (Tells w A6 d (K5 1) (8 + 2) 1000 σ6 s6 mw6 N6 W6 1 false [(1, m1, once (mlTo m1))] 1 w6) := ⟨l6, c6, c7, c8, fun g hg => by rw [List.mem_singleton.1 hg]; decide, by omega, by decide, by decide⟩
  have hmail := mail5 l6 hG c6 h8 (by omega) 1 (by unfold okI; omega)
  have hW1 : (W6 1).isSome = true := (c7 1).2 (by simp [ids])
  unfold ptr mailV at hmail
  have HD : Hid (Dom [(1, m1, once (mlTo m1))] W6) := c7
  clear lf5 l6 hA6 k6 c2 c3 c4 c5 c6 c7 c8
  have hnil : ((1 : Int) == 0) = false := rfl
  go_wp2_with (go_at_call 19; refine (num5 _ _).mono ?_; rintro e w' ⟨rfl, hw'⟩; have hw' := hw'.symm; subst hw')
  refine hmail.mono ?_
  rintro e w7 ⟨hcase, l7, k7⟩
  clear hmail
  rcases hcase with ⟨hn, _⟩ | ⟨_, fa, fb, dd, tv, tl, rr, rfl, hm, hrow⟩
  · rw [hn] at hW1
    cases hW1
  obtain ⟨_, _, e3, e4⟩ := HT.out.al.told HT.out.live.2.2.1 (List.mem_singleton.2 rfl) hm
  have edd : dd = ⟨#[120, 13, 10]⟩ := ba_ext e4
  subst edd
  obtain ⟨ma, mc, rfl, _, _, _⟩ := own_form hrow
  have HT7 : Hid (Tells w A6 d (K5 1) (8 + 2) 1000 σ6 s6 mw6 N6 W6 1 false [(1, m1, once (mlTo m1))] 1 w7) := HT.out.keep l7 k7
  clear hm hrow e3 e4 l7 k7 hW1
  have f8 : Fresh w7 (w7.alloc (.cells #[.string fa, .string fb, .slice ma tl.length mc, .string ⟨#[120, 13, 10]⟩] 59)) := (Keeps.refl _ _).alloc _
  obtain ⟨b0, b1, b2, b3, _⟩ := mcells (heap_new w7 (.cells #[.string fa, .string fb, .slice ma tl.length mc, .string ⟨#[120, 13, 10]⟩] 59))
  have HT8 : Hid (Tells w A6 d (K5 1) (8 + 2) 1000 σ6 s6 mw6 N6 W6 1 false [(1, m1, once (mlTo m1))] 1 (w7.alloc (.cells #[.string fa, .string fb, .slice ma tl.length mc, .string ⟨#[120, 13, 10]⟩] 59))) := HT7.out.fresh f8
  have hlist := list5 HT8.out.sp HT8.out.num.1
  unfold ptr at hlist
  clear f8
  go_upto_region 12 with fail
  generalize w7.alloc (.cells #[.string fa, .string fb, .slice ma tl.length mc, .string ⟨#[120, 13, 10]⟩] 59) = w8 at *
  have e1 : ((byId [(1, m1, once (mlTo m1))] 1).map (fun v => v.2.2.length)).getD 0 = 1 := by decide
  go_wp2_with (first | (go_at_call 44; refine hlist.mono ?_; rintro e w9 ⟨v, ns, rfl, hns, hnl, hrow, k9⟩; have hns1 : ns = [1] := hns.ids HD.out HT8.out.al.inv.wgs; subst hns1; obtain ⟨va, vc, rfl, _, _, _⟩ := own_form (show w9.ownsRow w8.heap.size 3 1 v 1 ([1].map intV) from hrow); have HT9 : Hid (Tells w A6 d (K5 1) (8 + 2) 1000 σ6 s6 mw6 N6 W6 1 false [(1, m1, once (mlTo m1))] 1 w9) := HT8.out.fresh k9; have hleft := HT9.out.left 1 (by unfold okI; omega); rw [e1] at hleft; unfold ptr at hleft; clear hlist hns hnl hrow k9 e1 b0 b1 b2 b3) | (go_at_call 45; refine hleft.mono ?_; rintro e wz ⟨⟨la, lc, rfl⟩, kz⟩))
  have HFin : Hid (Fresh w wz) := HT9.out.live.2.2.2.trans kz
  clear hleft kz
  go_wp2_with fail
  go_ret
  exact ⟨rfl, HFin.out⟩

end
end Go.Proofs.YtegbkpjcjlihmabGreatDoor

namespace Go.Proofs.YtegbkpjcjlihmabGreatDoor
open Go.RowKit Go.Maps Go.Sort Go.Lib

/-- a step of a script -/
structure OpS where
  kind : Int
  fa : ByteArray
  fb : ByteArray
  tv : Value
  dd : ByteArray
  nn : Int
  mm : Int
  sv : Value
  tl : List Ltr
  ts : List Int

def OpS.ml (o : OpS) : Ml := (o.fa.data.toList, o.fb.data.toList, o.tl, o.dd.data.toList)
def OpS.load (o : OpS) : Nat := mlW o.ml + 4
def OpS.cost (o : OpS) : Nat := 44 * mlW o.ml + 100
def OpS.fits (w : World) (o : OpS) : Prop := Op5 w o.kind o.fa o.fb o.tv o.dd o.nn o.mm o.sv o.tl o.ts

/-- a script, as it came in -/
def Script8 (w : World) (v : Value) (os : List OpS) : Prop :=
  ∃ ao cap, v = .slice ao os.length cap ∧ cap ≤ 9223372036854775807 ∧ os.length ≤ cap ∧
    (os.length ≠ 0 → ∃ b off, ao = some ⟨b, off, none⟩ ∧ ∀ (i : Nat) o, os[i]? = some o →
      w.cell? ⟨b, off + i * 8, none⟩ = some (.int .i64 o.kind) ∧ w.cell? ⟨b, off + i * 8 + 1, none⟩ = some (.string o.fa) ∧ w.cell? ⟨b, off + i * 8 + 2, none⟩ = some (.string o.fb) ∧
      w.cell? ⟨b, off + i * 8 + 3, none⟩ = some o.tv ∧ w.cell? ⟨b, off + i * 8 + 4, none⟩ = some (.string o.dd) ∧ w.cell? ⟨b, off + i * 8 + 5, none⟩ = some (.int .i64 o.nn) ∧
      w.cell? ⟨b, off + i * 8 + 6, none⟩ = some (.int .i64 o.mm) ∧ w.cell? ⟨b, off + i * 8 + 7, none⟩ = some o.sv)

theorem len_loadS (os : List OpS) : 4 * os.length ≤ (os.map OpS.load).sum := by
  induction os with
  | nil => simp
  | cons a l ih => simp only [List.map_cons, List.sum_cons, List.length_cons, OpS.load]; omega

theorem cost_loadS (os : List OpS) : (os.map OpS.cost).sum ≤ 44 * (os.map OpS.load).sum := by
  induction os with
  | nil => simp
  | cons a l ih =>
    simp only [List.map_cons, List.sum_cons]
    have e1 : a.load = mlW a.ml + 4 := rfl
    have e2 : a.cost = 44 * mlW a.ml + 100 := rfl
    omega

theorem cost_takeS (os : List OpS) (i : Nat) : ((os.take i).map OpS.cost).sum ≤ (os.map OpS.cost).sum := by
  have h := congrArg (fun l => (l.map OpS.cost).sum) (List.take_append_drop i os)
  simp only [List.map_append, List.sum_append] at h
  omega

section
variable {w we wr w' : World} {t p d C L : Nat} {A T : Nat → Prop} {σ σ' : Dk} {stop : Bool} {s mw N : Nat} {W : Waits} {lv lv' : Int} {b : Bool} {r : Nat} {ρ : Rs} {k : Int}

/-- a step, whatever it is -/
theorem step5 (h0 : PNext5 w t p d C L stop we) (hG : Gl w) (h8 : 8 ≤ w.heap.size) (ht : t < 1000000) (hC : C ≤ 800000000) (hL : L ≤ 400000000) (kind : Int) (fa fb : ByteArray) (tv : Value) (dd : ByteArray) (nn mm : Int) (sv : Value) (tl : List Ltr) (ts : List Int) (o : Op5 w kind fa fb tv dd nn mm sv tl ts) :
    Calls Tryz.prog 9 #[ptr p, opV5 kind fa fb tv dd nn mm sv] we (Step5 w (t + 1) p d (C + 10) (L + (44 * mlW (fa.data.toList, fb.data.toList, tl, dd.data.toList) + 100))) := by
  obtain ⟨A, σ, s, mw, N, W, lv, b, r, ρ, h⟩ := h0
  by_cases k0 : kind = 0
  · subst k0; exact step5_0 h hG h8 ht hC hL fa fb tv dd nn mm sv tl ts o
  by_cases k1 : kind = 1
  · subst k1; exact step5_1 h hG h8 ht hC hL fa fb tv dd nn mm sv tl ts o
  by_cases k2 : kind = 2
  · subst k2; exact step5_2 h hG h8 ht hC hL fa fb tv dd nn mm sv tl ts o
  by_cases k3 : kind = 3
  · subst k3; exact step5_3 h hG h8 ht hC hL fa fb tv dd nn mm sv tl ts o
  by_cases k4 : kind = 4
  · subst k4; exact step5_4 h hG h8 ht hC hL fa fb tv dd nn mm sv tl ts o
  by_cases k5 : kind = 5
  · subst k5; exact step5_5 h hG h8 ht hC hL fa fb tv dd nn mm sv tl ts o
  by_cases k6 : kind = 6
  · subst k6; exact step5_6 h hG h8 ht hC hL fa fb tv dd nn mm sv tl ts o
  exact step5_kind h hG h8 ht hC hL kind fa fb tv dd nn mm sv tl ts o k0 k1 k2 k3 k4 k5 k6

theorem PNext5.frame (h : PNext5 w t p d C L stop we) : Fresh w we := by
  obtain ⟨A, σ, s, mw, N, W, lv, b, r, ρ, h⟩ := h
  exact h.live.2.2.2

theorem PNext5.mono {C' L' : Nat} (h : PNext5 w t p d C L stop we) (hC : C ≤ C') (hL : L ≤ L') : PNext5 w t p d C' L' stop we := by
  obtain ⟨A, σ, s, mw, N, W, lv, b, r, ρ, h⟩ := h
  exact ⟨A, σ, s, mw, N, W, lv, b, r, ρ, h.mono hC hL⟩

end
end Go.Proofs.YtegbkpjcjlihmabGreatDoor

namespace Go.Proofs.YtegbkpjcjlihmabGreatDoor
open Go.ChangeShapes Go.WideShapes Go.ChangeAt Go.RowKit
open Go.ChangeMaps (open_string shut_string)

/-- what the list gives -/
theorem gl_skeeps {W : World} (h : laidMetH Tryz.prog Rows.spoolKeepsUptoRow.laid W) (hs : W.ShapedOpen Tryz.prog) : Gl W := by
  rw [MakeChecks.laidMetH_plain _ _ _ (by kernel_rfl)] at h
  have h2 := laidMet.tail (laidMet.tail h)
  have h3 := laidMet.tail (laidMet.tail h2)
  have h4 := laidMet.tail h3
  rw [pow_tab] at h2
  obtain ⟨a0, s0, hv0, -, -, -⟩ := laid_sentinel h3 gER gERType Tryz.underlying117 row285 Tryz.underlying285 Tryz.underlying287 rfl rfl Tryz.underlying9 cells287 cells9
  obtain ⟨a1, s1, hv1, -, -, -⟩ := laid_sentinel h4 gES gESType Tryz.underlying117 row285 Tryz.underlying285 Tryz.underlying287 rfl rfl Tryz.underlying9 cells287 cells9
  exact ⟨Lib.tabIs_of_head gPow gPowType Tryz.underlying274 Tryz.underlying225 cells225 cells274 h2, ⟨_, _, hv1⟩, ⟨_, _, hv0⟩, maxLen_cell W hs⟩

theorem cells27 : Tryz.prog.cellsOf 27 = 2 := by kernel_rfl
theorem cells28 : Tryz.prog.cellsOf 28 = 1 := by kernel_rfl
theorem cells30 : Tryz.prog.cellsOf 30 = 4 := by kernel_rfl
theorem cells31 : Tryz.prog.cellsOf 31 = 1 := by kernel_rfl
theorem cells33 : Tryz.prog.cellsOf 33 = 8 := by kernel_rfl

section
variable {H : Type} {enc : TypeId × Value → H} {W : World} {fuel : Nat} {x : DataW H × List MemPlace}

theorem read_adr {c0 c1 : Value} (h : DataW.trod enc Tryz.prog W 0 (fun _ => true) true fuel 27 [c0, c1] = some x) : ∃ a b : ByteArray, c0 = .string a ∧ c1 = .string b ∧ a.size + b.size + 3 ≤ Rows.uptoBulk x.1 := by
  obtain ⟨xs, n, _, rfl, _, hxl, hf⟩ := DataW.trod_struct Tryz.underlying27 h
  match xs, hxl with
  | [x0, x1], _ =>
    have f0 := hf 0 _ rfl
    have f1 := hf 1 _ rfl
    simp [cells9] at f0 f1
    obtain ⟨a, ha, b0, _⟩ := read_str f0
    obtain ⟨b, hb, b1, _⟩ := read_str f1
    simp at ha hb
    refine ⟨a, b, ha, hb, ?_⟩
    simp only [List.map_cons, List.map_nil, Rows.uptoBulk, Rows.uptoBulkAll]
    omega

theorem ba_eta (a : ByteArray) : (⟨a.data.toList.toArray⟩ : ByteArray) = a := by simp

theorem toW_sum (l : List Ltr) : toW l = (l.map (fun p => p.1.length + p.2.length + 1)).sum := by
  induction l with
  | nil => rfl
  | cons p l ih => rw [toW_cons, List.map_cons, List.sum_cons, ih]

set_option maxRecDepth 100000 in
theorem read_adrs {c : Value} (h : DataW.trod enc Tryz.prog W 0 (fun _ => true) true fuel 28 [c] = some x) : ∃ tl : List Ltr, AdAt W (fun q => W.heap.size ≤ q) c tl ∧ toW tl ≤ Rows.uptoBulk x.1 := by
  rcases Deep.open_slice Tryz.underlying28 h with ⟨hcs, hx⟩ | ⟨a, len, cap, m, n, D, Pl, hcs, _, hl, hm, hmm, hx, hel⟩
  · simp at hcs
    subst hcs
    exact ⟨[], AdAt.nil _ _, Nat.zero_le _⟩
  · simp at hcs
    subst hcs
    subst hx
    simp only [if_true] at hmm
    subst hmm
    rw [cells27] at hel
    obtain ⟨O, hO⟩ := Deep.choose_lt (α := ByteArray × ByteArray) (n := len) (p := fun i o => W.cell? (a.add (i * 2)) = some (.string o.1) ∧ W.cell? (a.add (i * 2 + 1)) = some (.string o.2) ∧ o.1.size + o.2.size + 3 ≤ Rows.uptoBulk (D i)) (fun i hi => by
      obtain ⟨cs', h1, h2⟩ := hel i (by omega)
      obtain ⟨hl2, hcell⟩ := cells_at h1
      match cs', hl2 with
      | [d0, d1], _ =>
        obtain ⟨a', b', rfl, rfl, hb⟩ := read_adr h2
        refine ⟨(a', b'), ?_, ?_, hb⟩
        · exact hcell 0 _ rfl
        · have := hcell 1 _ rfl; rw [Deep.add_add] at this; exact this)
    have hlen : ((List.range len).map (fun i => ((O i).1.data.toList, (O i).2.data.toList))).length = len := by simp
    refine ⟨(List.range len).map (fun i => ((O i).1.data.toList, (O i).2.data.toList)), ⟨some a, m, by rw [hlen], fun h0 => ?_, fun b off e h0 => ?_⟩, ?_⟩
    · rw [hlen] at h0
      obtain ⟨b, off, spot⟩ := a
      have hspot : spot = none := by
        obtain ⟨h0', _⟩ := hO 0 (by omega)
        simpa [Addr.add] using World.cell?_spot h0'
      subst hspot
      refine ⟨b, off, rfl, fun k o hk => ?_⟩
      have hkl : k < len := by
        have := (List.getElem?_eq_some_iff.1 hk).1
        rwa [hlen] at this
      have hok : ((O k).1.data.toList, (O k).2.data.toList) = o := by
        simp [hkl] at hk
        exact hk
      have hadd : ∀ j, (⟨b, off, none⟩ : Addr).add j = ⟨b, off + j, none⟩ := fun j => by unfold Addr.add; split <;> simp_all
      obtain ⟨q0, q1, _⟩ := hO k hkl
      subst hok
      simp only [hadd, ← Nat.add_assoc] at q0 q1
      rw [ba_eta, ba_eta]
      exact ⟨q0, q1⟩
    · rw [hlen] at h0
      injection e with e
      subst e
      obtain ⟨q0, _⟩ := hO 0 (by omega)
      have hadd : (⟨b, off, none⟩ : Addr).add (0 * 2) = ⟨b, off, none⟩ := by unfold Addr.add; split <;> simp_all
      rw [hadd] at q0
      have := Go.Proofs.YtegbkpjcjlihmabGreatDoor.cell_lt q0
      exact ⟨by omega, this⟩
    · have := sum_bulk D (fun i => (O i).1.size + (O i).2.size + 1) (List.range len) (fun i hi => by have := (hO i (List.mem_range.1 hi)).2.2; omega)
      simp only [Rows.uptoBulk]
      rw [toW_sum, List.map_map]
      have e : ((fun p : Ltr => p.1.length + p.2.length + 1) ∘ fun i => ((O i).1.data.toList, (O i).2.data.toList)) = fun i => (O i).1.size + (O i).2.size + 1 := by
        funext i
        simp
      rw [e]
      omega

/-- what is known of one operation that was read -/
def OpAt8 (W : World) (a : Addr) (i : Nat) (o : OpS) : Prop :=
  W.cell? (a.add (i * 8)) = some (.int .i64 o.kind) ∧ W.cell? (a.add (i * 8 + 1)) = some (.string o.fa) ∧ W.cell? (a.add (i * 8 + 2)) = some (.string o.fb) ∧ W.cell? (a.add (i * 8 + 3)) = some o.tv ∧
  W.cell? (a.add (i * 8 + 4)) = some (.string o.dd) ∧ W.cell? (a.add (i * 8 + 5)) = some (.int .i64 o.nn) ∧ W.cell? (a.add (i * 8 + 6)) = some (.int .i64 o.mm) ∧ W.cell? (a.add (i * 8 + 7)) = some o.sv

theorem ints_all {v : Value} {ts : List Int} (h : Ints W (fun _ => False) v ts) (A : Nat → Prop) (hA : ∀ i, A i → W.heap.size ≤ i) : Ints W A v ts := by
  obtain ⟨ao, cap, e, h1, h2, h3⟩ := h
  refine ⟨ao, cap, e, h1, h2, fun hn => ?_⟩
  obtain ⟨b, off, e1, _, e3⟩ := h3 hn
  refine ⟨b, off, e1, fun ha => ?_, e3⟩
  obtain ⟨t0, ht0⟩ : ∃ t0, ts[0]? = some t0 := ⟨ts[0]'(by omega), List.getElem?_eq_getElem (by omega)⟩
  have := Go.Proofs.YtegbkpjcjlihmabGreatDoor.cell_lt (e3 0 t0 ht0)
  have := hA b ha
  omega

theorem read_mail {c0 c1 c2 c3 : Value} (h : DataW.trod enc Tryz.prog W 0 (fun _ => true) true fuel 30 [c0, c1, c2, c3] = some x) : ∃ (a b d : ByteArray) (tl : List Ltr), c0 = .string a ∧ c1 = .string b ∧ c3 = .string d ∧ AdAt W (fun q => W.heap.size ≤ q) c2 tl ∧ mlW (a.data.toList, b.data.toList, tl, d.data.toList) + 4 ≤ Rows.uptoBulk x.1 := by
  obtain ⟨xs, n, _, rfl, _, hxl, hf⟩ := DataW.trod_struct Tryz.underlying30 h
  match xs, hxl with
  | [x0, x1, x2], _ =>
    have f0 := hf 0 _ rfl
    have f1 := hf 1 _ rfl
    have f2 := hf 2 _ rfl
    simp [cells9, cells27, cells28] at f0 f1 f2
    obtain ⟨a, b, ha, hb, b0⟩ := read_adr f0
    obtain ⟨tl, ht, b1⟩ := read_adrs f1
    obtain ⟨d, hd, b2, _⟩ := read_str f2
    simp at hd
    refine ⟨a, b, d, tl, ha, hb, hd, ht, ?_⟩
    have e0 : a.data.toList.length = a.size := rfl
    have e1 : b.data.toList.length = b.size := rfl
    have e2 : d.data.toList.length = d.size := rfl
    simp only [mlW, List.map_cons, List.map_nil, Rows.uptoBulk, Rows.uptoBulkAll]
    omega

set_option maxRecDepth 100000 in
/-- one operation that came in -/
theorem open_op8 {i : Nat} {a : Addr} {cs : List Value}
    (hc : W.cells? 0 (a.add (i * 8)) 8 = some cs) (h : DataW.trod enc Tryz.prog W 0 (fun _ => true) true fuel 33 cs = some x) : ∃ o, OpAt8 W a i o ∧ (o.load ≤ 1048576 → o.fits W) ∧ o.load ≤ Rows.uptoBulk x.1 := by
  obtain ⟨hl, hcell⟩ := cells_at hc
  obtain ⟨xs, n, _, rfl, _, hxl, hf⟩ := DataW.trod_struct Tryz.underlying33 h
  match cs, hl, xs, hxl with
  | [c0, c1, c2, c3, c4, c5, c6, c7], _, [x0, x1, x2, x3, x4], _ =>
    have f0 := hf 0 _ rfl
    have f1 := hf 1 _ rfl
    have f2 := hf 2 _ rfl
    have f3 := hf 3 _ rfl
    have f4 := hf 4 _ rfl
    simp [cells3, cells30, cells31] at f0 f1 f2 f3 f4
    obtain ⟨k, hk, b0, kb⟩ := read_int f0
    obtain ⟨fa, fb, dd, tl, h1, h2, h4, ht, b1⟩ := read_mail f1
    obtain ⟨nn, hn, b2, nb⟩ := read_int f2
    obtain ⟨mm, hm, b3, mb⟩ := read_int f3
    obtain ⟨ts, hts, b4, _⟩ := open_nums f4
    simp at hk hn hm
    subst hk hn hm h1 h2 h4
    have g := fun j v hj => hcell j v hj
    refine ⟨⟨k, fa, fb, c3, dd, nn, mm, c7, tl, ts⟩, ⟨?_, ?_, ?_, ?_, ?_, ?_, ?_, ?_⟩, fun hld => ⟨?_, ht, ⟨nb.1, by simp only; omega⟩, ⟨mb.1, by simp only; omega⟩, fun A hA => ints_all hts A hA⟩, ?_⟩
    · have := g 0 _ rfl; rw [Deep.add_add] at this; exact this
    · have := g 1 _ rfl; rw [Deep.add_add] at this; exact this
    · have := g 2 _ rfl; rw [Deep.add_add] at this; exact this
    · have := g 3 _ rfl; rw [Deep.add_add] at this; exact this
    · have := g 4 _ rfl; rw [Deep.add_add] at this; exact this
    · have := g 5 _ rfl; rw [Deep.add_add] at this; exact this
    · have := g 6 _ rfl; rw [Deep.add_add] at this; exact this
    · have := g 7 _ rfl; rw [Deep.add_add] at this; exact this
    · have e : OpS.load ⟨k, fa, fb, c3, dd, nn, mm, c7, tl, ts⟩ = mlW (fa.data.toList, fb.data.toList, tl, dd.data.toList) + 4 := rfl
      rw [e] at hld
      show mlW (fa.data.toList, fb.data.toList, tl, dd.data.toList) ≤ 1048576
      omega
    · have e : OpS.load ⟨k, fa, fb, c3, dd, nn, mm, c7, tl, ts⟩ = mlW (fa.data.toList, fb.data.toList, tl, dd.data.toList) + 4 := rfl
      rw [e]
      simp only [List.map_cons, List.map_nil, Rows.uptoBulk, Rows.uptoBulkAll]
      omega

theorem load_leS : ∀ (os : List OpS) o, o ∈ os → o.load ≤ (os.map OpS.load).sum
  | [], o, h => by cases h
  | a :: os, o, h => by
    rw [List.map_cons, List.sum_cons]
    rcases List.mem_cons.1 h with rfl | h
    · omega
    · have := load_leS os o h; omega

set_option maxRecDepth 100000 in
/-- a script that came in, nil or not -/
theorem open_ops8 {base : Nat} {v : Value} {d : DataW H} {p : List MemPlace}
    (hv : Value.okWide Tryz.prog W .any base 22 v) (h : DataW.Trod enc Tryz.prog W 0 (fun _ => true) true 22 v d p) :
    ∃ os, Script8 W v os ∧ (∀ o ∈ os, o.load ≤ 1048576 → o.fits W) ∧ (os.map OpS.load).sum ≤ Rows.uptoBulk d := by
  obtain ⟨a0, len, cap, rfl⟩ := okWide_slice Tryz.underlying22 hv
  obtain ⟨fuel, hf⟩ := h
  rcases Deep.open_slice Tryz.underlying22 hf with ⟨hcs, hx⟩ | ⟨a, len', cap', m, n, D, Pl, hcs, _, hl, hm, hmm, hx, hel⟩
  · simp [Value.cells] at hcs
    obtain ⟨rfl, rfl, rfl⟩ := hcs
    exact ⟨[], ⟨none, 0, rfl, by omega, Nat.le_refl _, fun h => absurd rfl h⟩, (by intro o ho; cases ho), Nat.zero_le _⟩
  · simp [Value.cells] at hcs
    obtain ⟨rfl, rfl, rfl⟩ := hcs
    simp only [Prod.mk.injEq] at hx
    obtain ⟨rfl, rfl⟩ := hx
    simp only [if_true] at hmm
    subst hmm
    rw [cells33] at hel
    haveI : Inhabited OpS := ⟨⟨0, ⟨#[]⟩, ⟨#[]⟩, .bool false, ⟨#[]⟩, 0, 0, .bool false, [], []⟩⟩
    obtain ⟨O, hO⟩ := Deep.choose_lt (α := OpS) (n := len) (p := fun i o => OpAt8 W a i o ∧ (o.load ≤ 1048576 → o.fits W) ∧ o.load ≤ Rows.uptoBulk (D i)) (fun i hi => by
      obtain ⟨cs', h1, h2⟩ := hel i (by omega)
      exact open_op8 h1 h2)
    have hlen : ((List.range len).map O).length = len := by simp
    refine ⟨(List.range len).map O, ⟨some a, m, by rw [hlen], by unfold maxLen at hm; omega, by rw [hlen]; exact hl, fun h0 => ?_⟩, fun o ho => ?_, ?_⟩
    · rw [hlen] at h0
      obtain ⟨b, off, spot⟩ := a
      have hspot : spot = none := by
        obtain ⟨⟨h0', _⟩, _⟩ := hO 0 (by omega)
        simpa [Addr.add] using World.cell?_spot h0'
      subst hspot
      refine ⟨b, off, rfl, fun k o hk => ?_⟩
      have hkl : k < len := by
        have := (List.getElem?_eq_some_iff.1 hk).1
        rwa [hlen] at this
      have hok : O k = o := by
        simp [hkl] at hk
        exact hk
      have hadd : ∀ j, (⟨b, off, none⟩ : Addr).add j = ⟨b, off + j, none⟩ := fun j => by unfold Addr.add; split <;> simp_all
      obtain ⟨⟨h0, h1, h2, h3, h4, h5, h6, h7⟩, _⟩ := hO k hkl
      rw [hok] at h0 h1 h2 h3 h4 h5 h6 h7
      simp only [hadd, ← Nat.add_assoc] at h0 h1 h2 h3 h4 h5 h6 h7
      exact ⟨h0, h1, h2, h3, h4, h5, h6, h7⟩
    · obtain ⟨i, hi, rfl⟩ := List.mem_map.1 ho
      exact (hO i (List.mem_range.1 hi)).2.1
    · have := sum_bulk D (fun i => (O i).load) (List.range len) (fun i hi => (hO i (List.mem_range.1 hi)).2.2)
      simp only [Rows.uptoBulk]
      rw [List.map_map]
      have e : (OpS.load ∘ O) = fun i => (O i).load := rfl
      rw [e]
      omega

end
end Go.Proofs.YtegbkpjcjlihmabGreatDoor
