/-
  The player of boxes: step. | The player of boxes: step.
-/
import Derived.Test.YtegbkpjcjlihmabGreatDoorGx
namespace Go.Proofs.YtegbkpjcjlihmabGreatDoor
open Go.RowKit Go.Maps Go.Sort Go.Lib

section
variable {w wr : World} {B : List Text} {p d C L n t : Nat} {A : Nat → Prop} {σ : Dk} {D : Text → Text} {l : List Lt3} {stop maybe : Bool} {x1 x2 x3 : ByteArray} {v : Value}

set_option maxHeartbeats 8000000 in
set_option maxRecDepth 100000 in
theorem step_put (h0 : PSt w (KK B t) p d C L n A σ D l stop maybe x1 x2 x3 v wr) (hG : Gl w) (h8 : 8 ≤ w.heap.size) (hB : BOk B) (ht : t < 1000000) (hn : n < 1000000) (us ke da : ByteArray) (nn : Int) (tv : Value) (ts : List Int) (o : OpOk w (KK B (t + 1)) 4 us ke da nn tv ts) (hC : C + 8 ≤ 1000000000) (hL : L + 4000000 ≤ 1000000000) :
    Calls Tryz.prog 25 #[ptr p, opV 4 us ke da nn tv] wr (Stepped w (KK B (t + 1)) p d (C + 8) (L + (us.size + ke.size + da.size + 132)) (n + 1)) := by
  have HF0 : Hid (Fits (KK B t) C L σ) := h0.live.2.2.1
  have h := h0.moreK (K' := KK B (t + 1)) (fun s hs => KK_sub hs) (by rw [KK_len, KK_len]; omega)
  have hK := hB.names (t + 1) (by omega)
  obtain ⟨hus, hke, hda, hnm, hother, hnn, hints, hkd⟩ := o
  clear h0
  have fa : Fresh wr (wr.alloc (.cells #[.int .i64 4, .string us, .string ke, .string da, .int .i64 nn, tv] 71)) := (Keeps.refl _ _).alloc _
  have ho := heap_new wr (.cells #[.int .i64 4, .string us, .string ke, .string da, .int .i64 nn, tv] 71)
  have HA : Hid (PSt w (KK B (t + 1)) p d C L n A σ D l stop maybe x1 x2 x3 v (wr.alloc (.cells #[.int .i64 4, .string us, .string ke, .string da, .int .i64 nn, tv] 71))) := h.freshen fa
  have hpl := h.lt
  have hAw : ∀ i, A i → i < wr.heap.size := fun i hi => (h.live.1 i hi).2
  have Hsz1 : Hid ((wr.alloc (.cells #[.int .i64 4, .string us, .string ke, .string da, .int .i64 nn, tv] 71)).heap.size = wr.heap.size + 1) := by
    show _ = _
    simp
  have HO : Hid ((wr.alloc (.cells #[.int .i64 4, .string us, .string ke, .string da, .int .i64 nn, tv] 71)).heap[wr.heap.size]? = some (.cells #[.int .i64 4, .string us, .string ke, .string da, .int .i64 nn, tv] 71)) := ho
  have c0 := HA.out.at 0 _ rfl
  have c1 := HA.out.at 1 _ rfl
  have c2 := HA.out.at 2 _ rfl
  have c3 := HA.out.at 3 _ rfl
  have c4 := HA.out.at 4 _ rfl
  have c5 := HA.out.at 5 _ rfl
  have c6 := HA.out.at 6 _ rfl
  have f1 := HA.out.fz 1
  have f2 := HA.out.fz 2
  have f3 := HA.out.fz 3
  clear h fa ho
  unfold opV ptr at *
  go_enter Tryz.func25, Tryz.ntmps25
  have hop := open_any HA.out.live hG h8 (by have := hK.len; omega) (fun s hs => by have := hK.size s hs; omega) (by omega) (by omega) (mem_KK.2 (.inr ⟨0, by omega, .inl rfl⟩))
  unfold ptr at hop
  go_wp2_with fail
  generalize (wr.alloc (.cells #[.int .i64 4, .string us, .string ke, .string da, .int .i64 nn, tv] 71)) = W at *
  refine hop.mono ?_
  rintro e w3 ⟨ks, k, σ', A', hso, hrun, h3, hA', k3, hcase⟩
  have hb3 := HA.out.st.off HA.out.live.2.2.1 (off_open (K := KK B (t + 1)) (mem_KK.2 (.inr ⟨0, by omega, .inl rfl⟩))) hrun
  have HP3 : Hid (PSt w (KK B (t + 1)) p d (C + 2) L n A' σ' D l stop maybe x1 x2 x3 v w3) := HA.out.disk h3 k3 hA' hb3
  have HO3 : Hid (w3.heap[wr.heap.size]? = some (.cells #[.int .i64 4, .string us, .string ke, .string da, .int .i64 nn, tv] 71)) := k3.heap HO.out (fun e => by have := hAw _ e; omega)
  have HLV : Hid (∃ i : Nat, i ≤ t ∧ (findLast ks).getD 0 = (i : Int)) := by
    cases hfl : findLast ks with
    | none => exact ⟨0, by omega, rfl⟩
    | some m =>
      obtain ⟨s, hs, hm⟩ := findLast_mem hfl
      obtain ⟨i, hi, e⟩ := hB.last (by omega) (HF0.out.nowK s ((hso.mem s).1 hs)) hm
      exact ⟨i, hi, e⟩
  have HK3 : Hid (Keeps A W w3) := k3
  have HA3 : Hid (∀ i, A' i → A i ∨ W.heap.size ≤ i) := hA'
  clear hop h3 k3 hA' hb3 hrun hso
  rcases hcase with ⟨hk, rfl⟩ | ⟨hk, s, mw, N, Wt, rfl, hN, hsW, hmW, hWts, hSp⟩
  · go_wp2_with fail
    have hlook := (HP3.out.freshen ((Keeps.refl _ w3).drew)).look hG hK (by omega)
    have q0 := HP3.out.at 0 _ rfl
    unfold ptr at hlook
    go_region_held3 (fun w' => w'.cell? ⟨p, 0, none⟩ = some (.pointer (some ⟨d, 0, none⟩))) (first | exact q0 | exact hs7.at 0 _ rfl | exact hs6.at 0 _ rfl) (first | (go_at_call 32; refine hlook.mono ?_; rintro e w6 ⟨v6, rfl, hv6, hs6, k6⟩) | (go_at_call 33; refine (hs6.shows hG hK (by omega) hv6).mono ?_; rintro e w7 ⟨rfl, hs7, k7⟩))
    have HS7 : Hid (PAny w (KK B (t + 1)) p d (C + 8) (L + (us.size + ke.size + da.size + 132)) (n + 1) w7) := hs7.any (by omega) (by omega) (by omega)
    clear hs7 hs6 hv6 hlook k6 k7
    go_wp2_with fail
    go_ret
    exact ⟨rfl, HS7.out⟩
  · have HSP : Hid (SpAt w A' d L s mw N (Found σ ks) ((findLast ks).getD 0) false Wt w3) := hSp
    clear hSp hWts c0 c1 c2 c3 c4 c5 c6 f1 f2 f3
    have o1 : w3.cell? ⟨wr.heap.size, 1, none⟩ = some (.string us) := by rw [Lib.cell_of_heap HO3.out]; rfl
    have o2 : w3.cell? ⟨wr.heap.size, 2, none⟩ = some (.string ke) := by rw [Lib.cell_of_heap HO3.out]; rfl
    have o3 : w3.cell? ⟨wr.heap.size, 3, none⟩ = some (.string da) := by rw [Lib.cell_of_heap HO3.out]; rfl
    have hAl : ∀ i, A' i → i < w3.heap.size := fun i hi => (HP3.out.live.1 i hi).2
    have hws := (Array.getElem?_eq_some_iff.1 HO3.out).1
    have ka : Fresh w3 (w3.alloc (.cells #[.string us, .string ke] 56)) := (Keeps.refl _ _).alloc _
    have o3' := cell_keeps ka o3 (fun e => e)
    have hsl := HSP.out.lt
    obtain ⟨i, hit, hiv⟩ := HLV.out
    have hml := mail_len us.data.toList ke.data.toList da.data.toList hus hke hda
    have e1 : us.data.toList.length = us.size := rfl
    have e2 : ke.data.toList.length = ke.size := rfl
    have e3 : da.data.toList.length = da.size := rfl
    have hmt : 1 ≤ (mailText [] [] [(us.data.toList, ke.data.toList)] da.data.toList).length := by
      unfold mailText
      rw [wt_cons]
      simp only [List.length_append, List.length_cons]
      omega
    have hca := heap_new w3 (.cells #[.string us, .string ke] 56)
    have hput : Calls Tryz.prog 21 #[.pointer (some ⟨s, 0, none⟩), .agg #[.string ⟨#[]⟩, .string ⟨#[]⟩, .slice (some ⟨w3.heap.size, 0, none⟩) 1 1, .string da]] (w3.alloc (.cells #[.string us, .string ke] 56)) (PutDone w (w3.alloc (.cells #[.string us, .string ke] 56)) A' d (KK B (t + 1)) (C + 2) L σ' s mw N (Found σ ks) ((findLast ks).getD 0) false Wt (mailText [] [] [(us.data.toList, ke.data.toList)] da.data.toList) [(us.data.toList, ke.data.toList)]) :=
      put_any (HP3.out.live.fresh ka) hG (HSP.out.fresh ka) ⟨#[]⟩ ⟨#[]⟩ da (some ⟨w3.heap.size, 0, none⟩) 1 [(us.data.toList, ke.data.toList)] (by simp) (by simp) (by rw [hiv]; omega) (by rw [hiv]; omega) (by have := hK.len; omega) (fun q hq => by
        simp only [List.mem_singleton] at hq
        subst hq
        exact ⟨by unfold maxLen; show us.data.toList.length ≤ _; omega, by unfold maxLen; show ke.data.toList.length ≤ _; omega⟩) (fun j u hj => ⟨w3.heap.size, rfl, by
        match j, hj with
        | 0, hj => simp [encL] at hj; subst hj; rw [Lib.cell_of_heap hca]; rfl
        | 1, hj => simp [encL] at hj; subst hj; rw [Lib.cell_of_heap hca]; rfl
        | j + 2, hj => simp [encL] at hj⟩) (fun g hg => by
        have e : w3.heap.size = g := by injection hg with hg; injection hg
        exact ⟨fun ha => by have := hAl g ha; omega, by omega⟩) (show (mailText [] [] [(us.data.toList, ke.data.toList)] da.data.toList).length ≤ _ by omega) (by omega) hmt (by have := hK.len; omega) (mem_KK.2 (.inl hB.new)) (mem_KK.2 (.inr ⟨i + 1, by omega, .inl (by rw [hiv]; rfl)⟩)) (mem_KK.2 (.inr ⟨i + 1, by omega, .inr (by rw [hiv]; rfl)⟩)) (by omega) (by omega)
    have Hka : Hid (Fresh w3 (w3.alloc (.cells #[.string us, .string ke] 56))) := ka
    have HBN : Hid (newT ∈ KK B (t + 1) ∧ lName ((findLast ks).getD 0 + 1) ∈ KK B (t + 1) ∧ mName ((findLast ks).getD 0 + 1) ∈ KK B (t + 1)) := ⟨mem_KK.2 (.inl hB.new), mem_KK.2 (.inr ⟨i + 1, by omega, .inl (by rw [hiv]; rfl)⟩), mem_KK.2 (.inr ⟨i + 1, by omega, .inr (by rw [hiv]; rfl)⟩)⟩
    clear ka hca hiv
    unfold ptr
    go_wp2_with fail
    refine hput.mono ?_
    rintro e w4 ⟨b', σ2, A2, hsd, h4, hA2, k4, hcs⟩
    obtain ⟨k', hrun⟩ : ∃ k', runs ((putWs (mailText [] [] [(us.data.toList, ke.data.toList)] da.data.toList) (lName ((findLast ks).getD 0)) (lName ((findLast ks).getD 0 + 1)) (mName ((findLast ks).getD 0 + 1))).map Wr.rel) σ' k' σ2 := by
      rcases hsd with ⟨h, _⟩ | ⟨_, k', h, _⟩
      · cases h
      · exact ⟨k', h⟩
    have hka := Hka.out.size
    have hk3 := HK3.out.size
    have HP4 : Hid (PSt w (KK B (t + 1)) p d (C + 2 + 6) (L + (mailText [] [] [(us.data.toList, ke.data.toList)] da.data.toList).length) n A2 σ2 D l stop maybe x1 x2 x3 v w4) := HA.out.disk h4 ((HK3.out.then Hka.out (fun _ _ e => e.elim)).then k4 (fun i hi e => by
        rcases e with e | e | e
        · exact (HA3.out i e).resolve_right (by omega)
        · omega
        · omega)) (fun i hi => (hA2 i hi).elim (HA3.out i) (fun e => .inr (by omega))) (HP3.out.st.off HP3.out.live.2.2.1 (off_put HBN.out.1 HBN.out.2.1 HBN.out.2.2) hrun)
    obtain ⟨r1, r2, he⟩ : ∃ r1 r2, e = .returned (.tuple #[.int .i64 r1, .int .i64 r2]) := by
      rcases hcs with ⟨_, h, _⟩ | ⟨_, h, _⟩
      · exact ⟨_, _, h⟩
      · exact ⟨_, _, h⟩
    subst he
    clear hput hsd h4 hA2 k4 hcs hrun o1 o2 o3 o3'
    go_wp2_with fail
    have hlook := (HP4.out.freshen ((Keeps.refl _ w4).drew)).look hG hK (by omega)
    have q0 := HP4.out.at 0 _ rfl
    unfold ptr at hlook
    go_region_held3 (fun w' => w'.cell? ⟨p, 0, none⟩ = some (.pointer (some ⟨d, 0, none⟩))) (first | exact q0 | exact hs7.at 0 _ rfl | exact hs6.at 0 _ rfl) (first | (go_at_call 32; refine hlook.mono ?_; rintro e w6 ⟨v6, rfl, hv6, hs6, k6⟩) | (go_at_call 33; refine (hs6.shows hG hK (by omega) hv6).mono ?_; rintro e w7 ⟨rfl, hs7, k7⟩))
    have HS7 : Hid (PAny w (KK B (t + 1)) p d (C + 8) (L + (us.size + ke.size + da.size + 132)) (n + 1) w7) := hs7.any (by omega) (by omega) (by omega)
    clear hs7 hs6 hv6 hlook k6 k7
    go_wp2_with fail
    go_ret
    exact ⟨rfl, HS7.out⟩


end
end Go.Proofs.YtegbkpjcjlihmabGreatDoor

namespace Go.Proofs.YtegbkpjcjlihmabGreatDoor
open Go.RowKit Go.Maps Go.Sort Go.Lib

theorem Bst.off1 {K : List Text} {D : Text → Text} {σ σ' : Dk} {l : List Lt3} {stop maybe : Bool} {x : Lt3} {C L : Nat} {k : Int} (h : Bst K D σ l stop maybe x) (hf : Fits K C L σ) (y : Wr) (hm : ∀ s, y.makes s → s ∈ K ∧ ¬ LtrN s) (ht : ∀ s, y.takes s ∨ y.writes s → ¬ LtrN s) (hr : y.rel σ k σ') : Bst K D σ' l stop maybe x where
  up := h.up
  boxed := y.boxed h.boxed hf hm ht hr
  stay := fun z hz => by
    obtain ⟨h1, h2, h3⟩ := h.stay z hz
    exact ⟨y.stays h1 hf (fun e => ht _ (.inl e) ⟨lk z, h3, rfl⟩) hr, h2, h3⟩
  gone := fun p hp h1 h2 => y.nowhere (h.gone p hp h1 h2) hf (fun e => (hm _ e).2 ⟨p, hp, rfl⟩) hr
  may := h.may
  left := fun e => y.leftN (h.left e) hr

theorem boxT_not : ¬ LtrN boxT := fun hl => by
  obtain ⟨r, h⟩ := ltrN_pre hl
  simp [boxT] at h

section
variable {w wr : World} {B : List Text} {p d C L n t : Nat} {A : Nat → Prop} {σ : Dk} {D : Text → Text} {l : List Lt3} {stop maybe : Bool} {x1 x2 x3 : ByteArray} {v : Value}

set_option maxHeartbeats 8000000 in
set_option maxRecDepth 100000 in
theorem step_beside (h0 : PSt w (KK B t) p d C L n A σ D l stop maybe x1 x2 x3 v wr) (hG : Gl w) (_h8 : 8 ≤ w.heap.size) (hB : BOk B) (ht : t < 1000000) (hn : n < 1000000) (us ke da : ByteArray) (nn : Int) (tv : Value) (ts : List Int) (o : OpOk w (KK B (t + 1)) 5 us ke da nn tv ts) (hC : C + 8 ≤ 1000000000) (hL : L + 4000000 ≤ 1000000000) :
    Calls Tryz.prog 25 #[ptr p, opV 5 us ke da nn tv] wr (Stepped w (KK B (t + 1)) p d (C + 8) (L + (us.size + ke.size + da.size + 132)) (n + 1)) := by
  have HF0 : Hid (Fits (KK B t) C L σ) := h0.live.2.2.1
  have h := h0.moreK (K' := KK B (t + 1)) (fun s hs => KK_sub hs) (by rw [KK_len, KK_len]; omega)
  have hK := hB.names (t + 1) (by omega)
  obtain ⟨hus, hke, hda, hnm, hother, hnn, hints, hkd⟩ := o
  clear h0
  have fa : Fresh wr (wr.alloc (.cells #[.int .i64 5, .string us, .string ke, .string da, .int .i64 nn, tv] 71)) := (Keeps.refl _ _).alloc _
  have ho := heap_new wr (.cells #[.int .i64 5, .string us, .string ke, .string da, .int .i64 nn, tv] 71)
  have HA : Hid (PSt w (KK B (t + 1)) p d C L n A σ D l stop maybe x1 x2 x3 v (wr.alloc (.cells #[.int .i64 5, .string us, .string ke, .string da, .int .i64 nn, tv] 71))) := h.freshen fa
  have hpl := h.lt
  have hAw : ∀ i, A i → i < wr.heap.size := fun i hi => (h.live.1 i hi).2
  have Hsz1 : Hid ((wr.alloc (.cells #[.int .i64 5, .string us, .string ke, .string da, .int .i64 nn, tv] 71)).heap.size = wr.heap.size + 1) := by
    show _ = _
    simp
  have HO : Hid ((wr.alloc (.cells #[.int .i64 5, .string us, .string ke, .string da, .int .i64 nn, tv] 71)).heap[wr.heap.size]? = some (.cells #[.int .i64 5, .string us, .string ke, .string da, .int .i64 nn, tv] 71)) := ho
  have c0 := HA.out.at 0 _ rfl
  have c1 := HA.out.at 1 _ rfl
  have c2 := HA.out.at 2 _ rfl
  have c3 := HA.out.at 3 _ rfl
  have c4 := HA.out.at 4 _ rfl
  have c5 := HA.out.at 5 _ rfl
  have c6 := HA.out.at 6 _ rfl
  have f1 := HA.out.fz 1
  have f2 := HA.out.fz 2
  have f3 := HA.out.fz 3
  clear h fa ho
  unfold opV ptr at *
  go_enter Tryz.func25, Tryz.ntmps25
  go_wp2_with fail
  generalize (wr.alloc (.cells #[.int .i64 5, .string us, .string ke, .string da, .int .i64 nn, tv] 71)) = W at *
  obtain ⟨huK, huN⟩ := hother (by trivial)
  have hKl : (KK B (t + 1)).length ≤ 1099511627776 := by have := hK.len; omega
  have hbK : boxT ∈ KK B (t + 1) := mem_KK.2 (.inl hB.box)
  have hc := HA.out.live.create hKl (by omega) ⟨#[98, 111, 120]⟩ (by decide) hbK
  unfold ptr at hc
  refine hc.mono ?_
  rintro e w1 ⟨k1, σ1, rfl, hr1, h1, g1⟩
  have HP1 : Hid (PSt w (KK B (t + 1)) p d (C + 1) L n (ext A W w1) σ1 D l stop maybe x1 x2 x3 v w1) := HA.out.disk h1 g1 (fun i hi => hi.elim .inl (fun e => .inr e.1)) (HA.out.st.off1 HA.out.live.2.2.1 (0, boxT, []) (fun s (e : s = boxT) => by rw [e]; exact ⟨hbK, boxT_not⟩) (fun s e => by rcases e with e | e <;> exact e.elim) hr1)
  have HO1 : Hid (w1.heap[wr.heap.size]? = some (.cells #[.int .i64 5, .string us, .string ke, .string da, .int .i64 nn, tv] 71)) := g1.heap HO.out (fun e => by have := hAw _ e; omega)
  have c10 := HP1.out.at 0 _ rfl
  have hwz := Hsz1.out
  have hz1 := g1.size
  have HN1 : Hid (¬ ext A W w1 wr.heap.size) := fun e => e.elim (fun e => by have := hAw _ e; omega) (fun e => by omega)
  clear hc hr1 h1 g1 c0 c1 c2 c3 c4 c5 c6 f1 f2 f3
  have hc := HP1.out.live.append (by omega) ⟨#[98, 111, 120]⟩ ⟨#[98, 111, 120, 47]⟩ (by decide) (by decide)
  unfold ptr at hc
  go_wp2_with fail
  refine hc.mono ?_
  rintro e w2 ⟨k2, σ2, rfl, hr2, h2, g2⟩
  have HP2 : Hid (PSt w (KK B (t + 1)) p d (C + 1) (L + 4) n (ext (ext A W w1) w1 w2) σ2 D l stop maybe x1 x2 x3 v w2) := HP1.out.disk h2 g2 (fun i hi => hi.elim .inl (fun e => .inr e.1)) (HP1.out.st.off1 HP1.out.live.2.2.1 (1, boxT, [98, 111, 120, 47]) (fun s e => e.elim) (fun s e => by
    rcases e with e | e
    · exact e.elim
    · have e : s = boxT := e
      rw [e]; exact boxT_not) hr2)
  have HO2 : Hid (w2.heap[wr.heap.size]? = some (.cells #[.int .i64 5, .string us, .string ke, .string da, .int .i64 nn, tv] 71)) := g2.heap HO1.out HN1.out
  have hz2 := g2.size
  have HN2 : Hid (¬ ext (ext A W w1) w1 w2 wr.heap.size) := fun e => e.elim HN1.out (fun e => by omega)
  clear hc hr2 h2 g2 c10
  have c20 := HP2.out.at 0 _ rfl
  have o1 : w2.cell? ⟨wr.heap.size, 1, none⟩ = some (.string us) := by rw [Lib.cell_of_heap HO2.out]; rfl
  have hc := (HP2.out.live.fresh ((Keeps.refl _ w2).drew)).create hKl (by omega) us (by unfold maxLen; omega) huK
  unfold ptr at hc
  go_wp2_with fail
  go_region_held3 (fun w' => w'.cell? ⟨p, 0, none⟩ = some (.pointer (some ⟨d, 0, none⟩)) ∧ w'.cell? ⟨wr.heap.size, 1, none⟩ = some (.string us)) (first | exact ⟨c20, o1⟩ | exact ⟨cell_keeps g3 c20 HP2.out.pA, cell_keeps g3 o1 HN2.out⟩) (first | (go_at_call 16; refine hc.mono ?_; rintro e w3 ⟨k3', σ3, rfl, hr3, h3, g3'⟩; have g3 : Keeps (ext (ext A W w1) w1 w2) w2 w3 := ((Keeps.refl _ w2).drew).trans g3'))
  have HP3 : Hid (PSt w (KK B (t + 1)) p d (C + 2) (L + 4) n (ext (ext (ext A W w1) w1 w2) w2 w3) σ3 D l stop maybe x1 x2 x3 v w3) := HP2.out.disk h3 g3 (fun i hi => hi.elim .inl (fun e => .inr e.1)) (HP2.out.st.off1 HP2.out.live.2.2.1 (0, us.data.toList, []) (fun s (e : s = us.data.toList) => by rw [e]; exact ⟨huK, huN⟩) (fun s e => by rcases e with e | e <;> exact e.elim) hr3)
  clear hc hr3 h3 g3 g3' c20 o1
  have c30 := HP3.out.at 0 _ rfl
  have hc := HP3.out.live.syncDir hKl
  unfold ptr at hc
  go_wp2_with fail
  refine hc.mono ?_
  rintro e w4 ⟨k4, σ4, rfl, hr4, h4, g4⟩
  have HP4 : Hid (PSt w (KK B (t + 1)) p d (C + 2) (L + 4) n (ext (ext (ext (ext A W w1) w1 w2) w2 w3) w3 w4) σ4 D l stop maybe x1 x2 x3 v w4) := HP3.out.disk h4 g4 (fun i hi => hi.elim .inl (fun e => .inr e.1)) (HP3.out.st.off1 HP3.out.live.2.2.1 (5, [], []) (fun s e => e.elim) (fun s e => by rcases e with e | e <;> exact e.elim) hr4)
  clear hc hr4 h4 g4 c30
  go_wp2_with fail
  have hlook := (HP4.out.freshen ((Keeps.refl _ w4).drew)).look hG hK (by omega)
  have q0 := HP4.out.at 0 _ rfl
  unfold ptr at hlook
  go_region_held3 (fun w' => w'.cell? ⟨p, 0, none⟩ = some (.pointer (some ⟨d, 0, none⟩))) (first | exact q0 | exact hs7.at 0 _ rfl | exact hs6.at 0 _ rfl) (first | (go_at_call 32; refine hlook.mono ?_; rintro e w6 ⟨v6, rfl, hv6, hs6, k6⟩) | (go_at_call 33; refine (hs6.shows hG hK (by omega) hv6).mono ?_; rintro e w7 ⟨rfl, hs7, k7⟩))
  have HS7 : Hid (PAny w (KK B (t + 1)) p d (C + 8) (L + (us.size + ke.size + da.size + 132)) (n + 1) w7) := hs7.any (by omega) (by omega) (by omega)
  clear hs7 hs6 hv6 hlook k6 k7
  go_wp2_with fail
  go_ret
  exact ⟨rfl, HS7.out⟩


end
end Go.Proofs.YtegbkpjcjlihmabGreatDoor
