/-
  The player of boxes: look. | The player of boxes: shows.
-/
import Derived.Test.YtegbkpjcjlihmabGreatDoorGq
import Derived.Deep.RegionHeld3
namespace Go.Proofs.YtegbkpjcjlihmabGreatDoor
open Go.RowKit Go.Maps Go.Sort Go.Lib

/-- a player's cells -/
def pCells (d : Nat) (v : Value) (stop maybe : Bool) (x1 x2 x3 : ByteArray) : Obj := .cells #[ptr d, v, .bool stop, .bool maybe, .string x1, .string x2, .string x3] 69

def x3Of (x1 x2 x3 : ByteArray) : Lt3 := (x1.data.toList, x2.data.toList, x3.data.toList)

/-- letters that lie outside A -/
def Lsx (w : World) (A : Nat → Prop) (v : Value) (l : List Lt3) : Prop := ∃ ao cap, v = .slice ao l.length cap ∧ Rd3 w ao l ∧ ∀ g, ao = some ⟨g, 0, none⟩ → ¬ A g ∧ g < w.heap.size

theorem Lsx.keep {w w' : World} {A A' S : Nat → Prop} {v : Value} {l : List Lt3} (h : Lsx w A v l) (k : Keeps S w w') (hS : ∀ g, g < w.heap.size → ¬ A g → ¬ S g) (hA : ∀ g, A' g → A g ∨ w.heap.size ≤ g) : Lsx w' A' v l := by
  obtain ⟨ao, cap, rfl, h1, h2⟩ := h
  refine ⟨ao, cap, rfl, fun i x hx => ?_, fun g hg => ?_⟩
  · obtain ⟨g, hg, q0, q1, q2⟩ := h1 i x hx
    obtain ⟨n1, n2⟩ := h2 g hg
    have := hS g n2 n1
    exact ⟨g, hg, cell_keeps k q0 this, cell_keeps k q1 this, cell_keeps k q2 this⟩
  · obtain ⟨n1, n2⟩ := h2 g hg
    exact ⟨fun e => (hA g e).elim n1 (fun e => by omega), by have := k.size; omega⟩

theorem Lsx.same {w w' : World} {A : Nat → Prop} {v : Value} {l : List Lt3} (h : Lsx w A v l) (k : Keeps A w w') : Lsx w' A v l := h.keep k (fun _ _ h => h) (fun _ h => .inl h)
theorem Lsx.fresh {w w' : World} {A : Nat → Prop} {v : Value} {l : List Lt3} (h : Lsx w A v l) (k : Fresh w w') : Lsx w' A v l := h.keep k (fun _ _ _ e => e) (fun _ h => .inl h)

theorem Lsx.ofLs {w w' : World} {A : Nat → Prop} {v : Value} {l : List Lt3} (h : Ls w' v l) (hA : ∀ i, A i → i < w.heap.size) (hv : ∀ g, v.ownBlock = some g → w.heap.size ≤ g ∧ g < w'.heap.size) : Lsx w' A v l := by
  obtain ⟨ao, cap, rfl, h1⟩ := h
  refine ⟨ao, cap, rfl, h1, fun g hg => ?_⟩
  subst hg
  have := hv g rfl
  exact ⟨fun e => by have := hA g e; omega, this.2⟩

theorem flatL_at : ∀ (l : List Ltr) (i : Nat) (x : Ltr), l[i]? = some x → (l.flatMap encL)[i * 2]? = some (.string ⟨x.1.toArray⟩) ∧ (l.flatMap encL)[i * 2 + 1]? = some (.string ⟨x.2.toArray⟩)
  | [], i, x, h => by simp at h
  | y :: l, 0, x, h => by
    simp at h
    subst h
    exact ⟨rfl, rfl⟩
  | y :: l, i + 1, x, h => by
    have ih := flatL_at l i x (by simpa using h)
    have e : ∀ j, ((y :: l).flatMap encL)[j + 2]? = (l.flatMap encL)[j]? := fun j => by
      rw [List.flatMap_cons]
      simp [encL]
    rw [show (i + 1) * 2 = i * 2 + 2 by omega, e, show i * 2 + 2 + 1 = i * 2 + 1 + 2 by omega, e]
    exact ih

/-- the row of told letters, read -/
def RdT (w : World) (g : Nat) (m : List Ltr) (n : Nat) : Prop := ∀ (i : Nat) (p : Ltr), n ≤ i → m[i]? = some p → w.cell? ⟨g, i * 2, none⟩ = some (.string ⟨p.1.toArray⟩) ∧ w.cell? ⟨g, i * 2 + 1, none⟩ = some (.string ⟨p.2.toArray⟩) ∧ w.frozen? ⟨g, i * 2, none⟩ = false ∧ w.frozen? ⟨g, i * 2 + 1, none⟩ = false

section
variable {w we : World} {A A2 : Nat → Prop} {d p : Nat} {σ : Dk} {K : List Text} {C L : Nat} {D : Text → Text} {l : List Lt3} {stop maybe : Bool} {v : Value} {x1 x2 x3 : ByteArray}

set_option maxHeartbeats 4000000 in
set_option maxRecDepth 100000 in
theorem look_any (h : Live w we A d K C L σ) (hG : Gl w) (hK : K.length ≤ 1099511627776) (hKs : ∀ s ∈ K, s.length < 4294967281) (hKc : CanonK K) (hp : we.heap[p]? = some (pCells d v stop maybe x1 x2 x3)) (hpA : ¬ A p) (h2 : ∀ i, A i → A2 i) (h2b : ∀ i, A2 i → i < we.heap.size) (hv : Lsx we A2 v l) (B : Bst K D σ l stop maybe (x3Of x1 x2 x3))
    (hl : l.length ≤ 1099511627) (hsz : ∀ y ∈ l, y.1.length ≤ 1099511627776 ∧ y.2.1.length ≤ 1099511627776) (hx1 : x1.size ≤ 1099511627776) (hx2 : x2.size ≤ 1099511627776) :
    Calls Tryz.prog 32 #[ptr p] we fun e w' => ∃ v', e = .returned v' ∧ Lsx w' A2 v' (seen σ l maybe (x3Of x1 x2 x3)) ∧ Live w w' A d K C L σ ∧ Keeps A we w' := by
  unfold ptr at *
  have HP : Hid (we.heap[p]? = some (pCells d v stop maybe x1 x2 x3)) := hp
  unfold pCells ptr at hp
  have cs : ∀ (j : Nat) u, #[Value.pointer (some ⟨d, 0, none⟩), v, .bool stop, .bool maybe, .string x1, .string x2, .string x3][j]? = some u → we.cell? ⟨p, j, none⟩ = some u := fun j u hj => by
    rw [Lib.cell_of_heap hp]; exact hj
  have c0 := cs 0 _ rfl
  have c1 := cs 1 _ rfl
  have c3 := cs 3 _ rfl
  have c4 := cs 4 _ rfl
  have c5 := cs 5 _ rfl
  have c6 := cs 6 _ rfl
  go_enter Tryz.func32, Tryz.ntmps32
  cases maybe with
  | false =>
    go_wp2_with fail
    go_ret
    exact ⟨v, rfl, hv, h, Keeps.refl _ _⟩
  | true =>
    have htold := told_any (h.fresh ((Keeps.refl _ we).drew)) hG hK hKs x1
    obtain ⟨vao, vcap, rfl, hrd0, hgo⟩ := hv
    have HLS : Hid (Lsx we A2 (.slice vao l.length vcap) l) := ⟨vao, vcap, rfl, hrd0, hgo⟩
    have HS : Hid (∀ w', Keeps A we w' → ∀ (j : Nat) u, #[Value.pointer (some ⟨d, 0, none⟩), .slice vao l.length vcap, .bool stop, .bool true, .string x1, .string x2, .string x3][j]? = some u → w'.cell? ⟨p, j, none⟩ = some u) := fun w' k j u hj => cell_keeps k (cs j u hj) hpA
    have HB : Hid (Bst K D σ l stop true (x3Of x1 x2 x3)) := B
    have hF : Hid (Fits K C L σ) := h.2.2.1
    have hA : ∀ i, A i → i < we.heap.size := fun i hi => (h.1 i hi).2
    clear cs B hp h hrd0 hgo
    go_wp2_with fail
    go_region_held3 (fun w' => w'.cell? ⟨p, 0, none⟩ = some (.pointer (some ⟨d, 0, none⟩)) ∧ w'.cell? ⟨p, 4, none⟩ = some (.string x1)) (first | exact ⟨c0, c4⟩ | exact ⟨HS.out _ k2 0 _ rfl, HS.out _ k2 4 _ rfl⟩) (first | (go_at_call 30; refine htold.mono ?_; rintro e w1 ⟨mv, ks, rfl, hs, hrow, h1, k1⟩; have k2 : Keeps A we w1 := ((Keeps.refl _ we).drew).trans k1))
    have HM : Hid (sortL (ks.filterMap letterOf) = (seen σ l true (x3Of x1 x2 x3)).map lk) := letters_told hKc hF.out hs HB.out.seen_up (HB.out.seen_keys hF.out)
    have HM2 : Hid (toldOf σ x1.data.toList (sortL (ks.filterMap letterOf)) = ((seen σ l true (x3Of x1 x2 x3)).filter (fun x => x.1 == x1.data.toList)).map (fun x => (x.2.1, x.2.2))) := by
      show _ = _
      rw [HM.out]
      exact filter_told _ (HB.out.seen_data hF.out)
    obtain ⟨M, hM⟩ : ∃ M, M = toldOf σ x1.data.toList (sortL (ks.filterMap letterOf)) := ⟨_, rfl⟩
    rw [← hM] at HM2 hrow
    have HIN : Hid ((∃ q ∈ M, q.1 = x2.data.toList) ↔ (σ.now (nm3 (x3Of x1 x2 x3))).isSome = true) := by
      have hk := HB.out.seen_keys hF.out (lk (x3Of x1 x2 x3))
      have hlen := (HB.out.may rfl).2.2
      show _ ↔ _
      rw [HM2.out]
      constructor
      · rintro ⟨q, hq, hq2⟩
        obtain ⟨y, hy, rfl⟩ := List.mem_map.1 hq
        obtain ⟨hy1, hy2⟩ := List.mem_filter.1 hy
        have e1 : y.1 = x1.data.toList := by simpa using hy2
        have : lk y = lk (x3Of x1 x2 x3) := Prod.ext e1 hq2
        exact (hk.1 (by rw [← this]; exact List.mem_map_of_mem hy1)).2
      · intro hn
        obtain ⟨y, hy, e⟩ := List.mem_map.1 (hk.2 ⟨hlen, hn⟩)
        have e1 : y.1 = x1.data.toList := congrArg (fun p : Ltr => p.1) e
        have e2 : y.2.1 = x2.data.toList := congrArg (fun p : Ltr => p.2) e
        exact ⟨(y.2.1, y.2.2), List.mem_map.2 ⟨y, List.mem_filter.2 ⟨hy, by simp [e1]⟩, rfl⟩, e2⟩
    have hMl : M.length ≤ 1099511627776 := by
      rw [hM]
      refine Nat.le_trans (toldOf_len _ _ _) ?_
      rw [sortL_length]
      exact Nat.le_trans (List.length_filterMap_le _ _) (Nat.le_trans (nodup_len ks hs.nodup K (fun s h => hF.out.nowK s ((hs.mem s).1 h))) hK)
    unfold RowT at hrow
    obtain ⟨ao, cap, rfl, hc1, hc2, hao⟩ := own_form hrow
    unfold maxLen at hc1
    have HRT : Hid (w1.ownsRow we.heap.size 80 2 (.slice ao M.length cap) M.length (M.flatMap encL)) := hrow
    have H1 : Hid (Live w w1 A d K C L σ) := h1
    have HSE : Hid ((σ.now (nm3 (x3Of x1 x2 x3))).isSome = true → seen σ l true (x3Of x1 x2 x3) = withL l (x3Of x1 x2 x3)) := fun e => if_pos ⟨rfl, e⟩
    have HSN : Hid (¬ (σ.now (nm3 (x3Of x1 x2 x3))).isSome = true → seen σ l true (x3Of x1 x2 x3) = l) := fun e => if_neg (fun h => e h.2)
    have hkz := k2.size
    clear hrow h1 hM hs HM HM2 htold
    go_wp2_with fail
    go_loopw [4] (fun t4 wr => ∃ i : Nat, i ≤ M.length ∧ t4 = .int .i64 i ∧ (∀ q ∈ M.take i, q.1 ≠ x2.data.toList) ∧ Fresh w1 wr) (fun t4 _ => M.length - (intOf t4).toNat)
    case atStart => exact ⟨0, Nat.zero_le _, rfl, by simp, Keeps.refl _ _⟩
    case round =>
      obtain ⟨i, hi1, rfl, hno, kk⟩ := hrel
      have HNO : Hid (∀ q ∈ M.take i, q.1 ≠ x2.data.toList) := hno
      have HK2 : Hid (Keeps A we wr) := k2.then kk (fun _ _ e => e.elim)
      have c1' := HS.out wr HK2.out 1 _ rfl
      have c4' := HS.out wr HK2.out 4 _ rfl
      have c5' := HS.out wr HK2.out 5 _ rfl
      have c6' := HS.out wr HK2.out 6 _ rfl
      clear hno c0 c1 c3 c4 c5 c6
      by_cases hlt : i < M.length
      · obtain ⟨q, hq⟩ : ∃ q, M[i]? = some q := ⟨M[i], List.getElem?_eq_getElem hlt⟩
        obtain ⟨g, rfl⟩ := hao (by omega)
        have hflat : (M.flatMap encL)[i * 2]? = some (.string ⟨q.1.toArray⟩) := (flatL_at M i q hq).1
        have hadd : ∀ j, (⟨g, 0, none⟩ : Addr).add j = ⟨g, j, none⟩ := fun j => by unfold Addr.add; split <;> simp_all
        have q00 := HRT.out.cells (g := g) rfl _ _ hflat
        rw [hadd] at q00
        have q0 := cell_keeps kk q00 (fun e => e)
        have HQ : Hid (M.take (i + 1) = M.take i ++ [q]) := by
          show _ = _
          rw [List.take_add_one, hq]; rfl
        have HQM : Hid (q ∈ M) := List.mem_of_getElem? hq
        obtain ⟨Q1, hQ1⟩ : ∃ Q1 : ByteArray, Q1 = ⟨q.1.toArray⟩ := ⟨_, rfl⟩
        have H2 : Hid (Q1.data.toList = q.1) := by rw [hQ1]; rfl
        rw [← hQ1] at q0
        clear hq hQ1 hflat hadd q00
        have z0 : (0 : Int) ≤ (i : Int) := by omega
        have z1 : (i : Int) < (M.length : Int) := by omega
        by_cases hu : Q1 = x2
        · have HY : Hid ((σ.now (nm3 (x3Of x1 x2 x3))).isSome = true) := HIN.out.1 ⟨q, HQM.out, by rw [← H2.out, hu]⟩
          subst hu
          have hub : (Q1.toList == Q1.toList) = true := by rw [beq_bytes]; simp
          go_wp2_with fail
          go_quiet (fail)
          have HKq : Hid (Keeps A we (wr.drewN nq)) := HK2.out.drewN _
          have HLq : Hid (Live w (wr.drewN nq) A d K C L σ) := H1.out.fresh (kk.drewN _)
          generalize wr.drewN nq = wq at *
          clear q0 c1' c4' c5' c6' kk
          obtain ⟨ao2, cap2, he2, hrd2, hgo2⟩ := HLS.out.keep (HKq.out.drew) (fun g _ n e => n (h2 g e)) (fun _ e => .inl e)
          injection he2 with he2 he3 he4
          subst he2 he4
          have hwith := with_ref vao vcap l x1 Q1 x3 wq.drew hl hrd2 hsz hx1 hx2
          have HGO : Hid (∀ g, vao = some ⟨g, 0, none⟩ → ¬ A2 g ∧ g < wq.drew.heap.size) := hgo2
          have c1q := HS.out wq HKq.out 1 _ rfl
          have c4q := HS.out wq HKq.out 4 _ rfl
          have c5q := HS.out wq HKq.out 5 _ rfl
          have c6q := HS.out wq HKq.out 6 _ rfl
          clear hrd2 hgo2 he3
          go_wp2_with fail
          go_region_held3 (fun w' => w'.cell? ⟨p, 1, none⟩ = some (.slice vao l.length vcap) ∧ w'.cell? ⟨p, 4, none⟩ = some (.string x1) ∧ w'.cell? ⟨p, 5, none⟩ = some (.string Q1) ∧ w'.cell? ⟨p, 6, none⟩ = some (.string x3)) (first | exact ⟨c1q, c4q, c5q, c6q⟩ | exact ⟨HS.out _ k9 1 _ rfl, HS.out _ k9 4 _ rfl, HS.out _ k9 5 _ rfl, HS.out _ k9 6 _ rfl⟩) (first | (go_at_call 75; refine hwith.mono ?_; rintro e w8 ⟨v8, rfl, hls, hv8, k8⟩; have k9 : Keeps A we w8 := HKq.out.drew.then k8 (fun _ _ e => e.elim)))
          have HL8 : Hid (Live w w8 A d K C L σ) := HLq.out.fresh (((Keeps.refl _ wq).drew).trans k8)
          have HV : Hid (Lsx w8 A2 v8 (withL l (x3Of x1 Q1 x3))) := by
            rcases hv8 with rfl | hv8
            · obtain ⟨a3, c3, e3, r3⟩ := hls
              refine ⟨a3, c3, e3, r3, fun g hg => ?_⟩
              have : vao = a3 := by injection e3
              obtain ⟨n1, n2⟩ := HGO.out g (this.trans hg)
              exact ⟨n1, by have := k8.size; omega⟩
            · exact Lsx.ofLs (w := wq.drew) hls (fun i hi => by have := h2b i hi; have := HKq.out.size; show i < wq.heap.size; omega) hv8
          have HK9 : Hid (Keeps A we w8) := k9
          clear hls hv8 k8 k9 hwith
          go_wp2_with fail
          go_ret
          refine ⟨_, rfl, ?_, HL8.out, HK9.out⟩
          rw [HSE.out HY.out]
          exact HV.out
        · have hub := beq_false (a := Q1) (b := x2) (fun e => hu (ba_ext e))
          have HN2 : Hid (∀ q ∈ M.take (i + 1), q.1 ≠ x2.data.toList) := fun q' hq' => by
            rw [HQ.out, List.mem_append] at hq'
            rcases hq' with hq' | hq'
            · exact HNO.out q' hq'
            · simp only [List.mem_singleton] at hq'
              rw [hq', ← H2.out]
              exact fun e => hu (ba_ext e)
          clear hu
          go_wp2_with fail
          go_quiet (fail)
          have fq : Fresh w1 (wr.drewN nq) := kk.drewN _
          go_wp2_with fail
          go_roundw
          case rel => exact ⟨i + 1, by omega, by go_num, HN2.out, fq⟩
          case measure => simp [intOf]; omega
      · have ei : i = M.length := by omega
        subst ei
        have z1 : ¬ (M.length : Int) < (M.length : Int) := by omega
        go_wp2_with fail
        go_ret
        have hne : ¬ (σ.now (nm3 (x3Of x1 x2 x3))).isSome = true := fun e => by
          obtain ⟨q, hq, e⟩ := HIN.out.2 e
          exact HNO.out q (by rw [List.take_length]; exact hq) e
        refine ⟨_, rfl, ?_, H1.out.fresh kk, HK2.out⟩
        rw [HSN.out hne]
        exact HLS.out.keep HK2.out (fun g _ n e => n (h2 g e)) (fun _ e => .inl e)

end
end Go.Proofs.YtegbkpjcjlihmabGreatDoor

namespace Go.Proofs.YtegbkpjcjlihmabGreatDoor
open Go.RowKit Go.Maps Go.Sort Go.Lib

section
variable {w we : World} {A : Nat → Prop} {d : Nat} {σ : Dk} {K : List Text} {C L : Nat} {l : List Lt3} {v : Value}

set_option maxHeartbeats 8000000 in
set_option maxRecDepth 100000 in
theorem shows_any (h : Live w we A d K C L σ) (hG : Gl w) (hK : K.length ≤ 1099511627776) (hKs : ∀ s ∈ K, s.length < 4294967281) (hKc : CanonK K) (hv : Lsx we A v l) (hup : UpL l)
    (hkeys : ∀ p : Ltr, p ∈ l.map lk ↔ (p.1.length < lim ∧ (σ.now (nameOf p.1 p.2)).isSome = true)) (hdata : ∀ y ∈ l, (σ.read (nameOf y.1 y.2.1)).getD [] = y.2.2) (hl : l.length ≤ 1099511627) :
    Calls Tryz.prog 33 #[ptr d, v] we fun e w' => e = .returned (.bool true) ∧ Live w w' A d K C L σ ∧ Keeps A we w' := by
  have husers := users_any h hG hK hKs
  have hF : Hid (Fits K C L σ) := h.2.2.1
  have hA : ∀ i, A i → i < we.heap.size := fun i hi => (h.1 i hi).2
  have hww := h.2.2.2.size
  have HTO : Hid (∀ ks, Sorted σ.now ks → sortL (ks.filterMap letterOf) = l.map lk) := fun ks hs => letters_told hKc hF.out hs hup hkeys
  have HDA : Hid (∀ s, toldOf σ s (l.map lk) = (l.filter (fun x => x.1 == s)).map (fun x => (x.2.1, x.2.2))) := fun s => filter_told s hdata
  obtain ⟨vao, vcap, rfl, hrd0, hgo⟩ := hv
  have HLS : Hid (Lsx we A (.slice vao l.length vcap) l) := ⟨vao, vcap, rfl, hrd0, hgo⟩
  have HRD : Hid (∀ w', Keeps A we w' → Rd3 w' vao l) := fun w' k i x hx => by
    obtain ⟨g, hg, q0, q1, q2⟩ := hrd0 i x hx
    have := (hgo g hg).1
    exact ⟨g, hg, cell_keeps k q0 this, cell_keeps k q1 this, cell_keeps k q2 this⟩
  clear hrd0 hgo hup hkeys hdata h
  unfold ptr at *
  go_enter Tryz.func33, Tryz.ntmps33
  go_wp2_with fail
  refine husers.mono ?_
  rintro e w1 ⟨uv, ks, rfl, hs, hru, h1, k1⟩
  have e0 : (sortL (ks.filterMap letterOf)).map (fun x => x.1) = l.map (fun x => x.1) := by
    rw [HTO.out ks hs, List.map_map]; rfl
  rw [e0] at hru
  have husr := users_ref vao vcap l w1 hl (HRD.out w1 k1.ofFresh)
  clear husers hs e0
  have H1 : Hid (Live w w1 A d K C L σ) := h1
  have HRU : Hid (Row9 w1 we.heap.size uv (Lib.compact (l.map (fun x => x.1)))) := hru
  clear h1 hru
  go_wp2_with fail
  refine husr.mono ?_
  rintro e w2 ⟨wv, rfl, hrw, k2⟩
  obtain ⟨US, hUS⟩ : ∃ US, US = Lib.compact (l.map (fun x => x.1)) := ⟨_, rfl⟩
  have hUl : US.length ≤ l.length := by rw [hUS]; exact Nat.le_trans (compact_len _) (by simp)
  rw [← hUS] at HRU hrw
  have hr1 := HRU.out
  have hr2 := hrw
  unfold Row9 at hr1 hr2
  obtain ⟨ua, ucap, rfl, hu1, hu2, hua⟩ := own_form hr1
  obtain ⟨wa, wcap, rfl, hw1, hw2, hwa⟩ := own_form hr2
  unfold maxLen at hu1 hw1
  have HU2 : Hid (w2.ownsRow we.heap.size 9 1 (.slice ua US.length ucap) US.length (US.map encStr)) := k2.owns hr1 (fun _ _ e => e)
  have HW2 : Hid (w2.ownsRow w1.heap.size 9 1 (.slice wa US.length wcap) US.length (US.map encStr)) := hr2
  have HUb : Hid (∀ g, ua = some ⟨g, 0, none⟩ → we.heap.size ≤ g ∧ g < w1.heap.size) := fun g hg => hr1.lt g (by rw [hg]; rfl)
  have HWb : Hid (∀ g, wa = some ⟨g, 0, none⟩ → w1.heap.size ≤ g ∧ g < w2.heap.size) := fun g hg => hr2.lt g (by rw [hg]; rfl)
  have HL2 : Hid (Live w w2 A d K C L σ) := H1.out.fresh k2
  have HK2 : Hid (Keeps A we w2) := (k1.trans k2).ofFresh
  have hz1 := k1.size
  have hz2 := k2.size
  clear hr1 hr2 hrw HRU husr hUS k1 k2 H1
  go_wp2_with fail
  go_loopw [7] (fun t7 wr => ∃ (i : Nat) (xs : List Value), i ≤ US.length ∧ t7 = .int .i64 i ∧ wr.ownsRow we.heap.size 9 1 (.slice ua US.length ucap) US.length xs ∧ (∀ j, i ≤ j → xs[j]? = (US.map encStr)[j]?) ∧ wr.ownsRow w1.heap.size 9 1 (.slice wa US.length wcap) US.length (US.map encStr) ∧ Live w wr A d K C L σ ∧ Keeps A we wr ∧ w2.heap.size ≤ wr.heap.size) (fun t7 _ => US.length - (intOf t7).toNat)
  case atStart => exact ⟨0, _, Nat.zero_le _, rfl, HU2.out, fun _ _ => rfl, HW2.out, HL2.out, HK2.out, Nat.le_refl _⟩
  case round =>
    obtain ⟨i, xs, hi1, rfl, hU, hxs, hW, hLv, kk, hsz⟩ := hrel
    generalize wr = wo at *
    have HLv : Hid (Live w wo A d K C L σ) := hLv
    have HKk : Hid (Keeps A we wo) := kk
    have HXS : Hid (∀ j, i ≤ j → xs[j]? = (US.map encStr)[j]?) := hxs
    have HU : Hid (wo.ownsRow we.heap.size 9 1 (.slice ua US.length ucap) US.length xs) := hU
    have HW : Hid (wo.ownsRow w1.heap.size 9 1 (.slice wa US.length wcap) US.length (US.map encStr)) := hW
    clear hxs hLv kk hU hW HU2 HW2 HL2 HK2
    by_cases hlt : i < US.length
    · obtain ⟨s, hs⟩ : ∃ s, US[i]? = some s := ⟨US[i], List.getElem?_eq_getElem hlt⟩
      obtain ⟨gu, rfl⟩ := hua (by omega)
      obtain ⟨gw, rfl⟩ := hwa (by omega)
      obtain ⟨S, hS⟩ : ∃ S : ByteArray, S = ⟨s.toArray⟩ := ⟨_, rfl⟩
      have HSl : Hid (S.data.toList = s) := by rw [hS]; rfl
      have hes : (US.map encStr)[i]? = some (.string S) := by rw [List.getElem?_map, hs, hS]; rfl
      have hgu := HUb.out gu rfl
      have hgw := HWb.out gw rfl
      have HCW : Hid (∀ w', Keeps A wo w' → w'.cell? ⟨gw, i, none⟩ = some (.string S)) := fun w' k => by
        have := HW.out.cellAt i (by omega)
        rw [hes] at this
        exact cell_keeps k this (fun e => by have := hA _ e; omega)
      have HCU : Hid (∀ w', Keeps A wo w' → w'.cell? ⟨gu, i, none⟩ = some (.string S)) := fun w' k => by
        have := HU.out.cellAt i (by omega)
        rw [HXS.out i (Nat.le_refl _), hes] at this
        exact cell_keeps k this (fun e => by have := hA _ e; omega)
      have z0 : (0 : Int) ≤ (i : Int) := by omega
      have z1 : (i : Int) < (US.length : Int) := by omega
      have htold := told_any HLv.out hG hK hKs S
      have cw := HCW.out wo (Keeps.refl _ _)
      clear hs hS hes
      go_wp2_with fail
      refine htold.mono ?_
      rintro e w3 ⟨mv, ks3, rfl, hs3, hrm, h3, k3⟩
      rw [HTO.out ks3 hs3, HDA.out S.data.toList] at hrm
      have cw3 := HCW.out w3 k3
      have hof := of_ref vao vcap l S w3 hl (HRD.out w3 (HKk.out.trans k3))
      have HRM : Hid (RowT w3 wo.heap.size mv ((l.filter (fun x => x.1 == S.data.toList)).map (fun x => (x.2.1, x.2.2)))) := hrm
      have H3 : Hid (Live w w3 A d K C L σ) := h3
      clear htold hs3 hrm h3 cw
      go_wp2_with fail
      refine hof.mono ?_
      rintro e w4 ⟨kv, rfl, hrk, k4⟩
      obtain ⟨Kk, hKk⟩ : ∃ Kk, Kk = l.filter (fun x => x.1 == S.data.toList) := ⟨_, rfl⟩
      have hKl : Kk.length ≤ l.length := by rw [hKk]; exact List.length_filter_le _ _
      rw [← hKk] at hrk HRM
      have hr3 := HRM.out
      have hr4 := hrk
      unfold RowT at hr3
      unfold Row3 at hr4
      rw [List.length_map] at hr3
      obtain ⟨ma, mcap, rfl, hm1, hm2, hma⟩ := own_form hr3
      obtain ⟨ka, kcap, rfl, hk1, hk2, hka⟩ := own_form hr4
      unfold maxLen at hm1 hk1
      have k34 : Keeps A wo w4 := k3.then k4 (fun _ _ e => e.elim)
      have HM4 : Hid (w4.ownsRow wo.heap.size 80 2 (.slice ma Kk.length mcap) Kk.length ((Kk.map (fun x => (x.2.1, x.2.2))).flatMap encL)) := k4.owns hr3 (fun _ _ e => e)
      have HK4 : Hid (w4.ownsRow w3.heap.size 67 3 (.slice ka Kk.length kcap) Kk.length (Kk.flatMap enc3)) := hr4
      have HMb : Hid (∀ g, ma = some ⟨g, 0, none⟩ → wo.heap.size ≤ g ∧ g < w3.heap.size) := fun g hg => hr3.lt g (by rw [hg]; rfl)
      have HKb : Hid (∀ g, ka = some ⟨g, 0, none⟩ → w3.heap.size ≤ g ∧ g < w4.heap.size) := fun g hg => hr4.lt g (by rw [hg]; rfl)
      have HL4 : Hid (Live w w4 A d K C L σ) := H3.out.fresh k4
      have HK34 : Hid (Keeps A wo w4) := k34
      have cw4 := HCW.out w4 k34
      have cu4 := HCU.out w4 k34
      have hz3 := k3.size
      have hz4 := k4.size
      have hub : (S.toList == S.toList) = true := by rw [beq_bytes]; simp
      clear hr3 hr4 hrk HRM hof hKk k3 k4 k34 cw3 H3
      go_wp2_with fail
      go_quiet (fail)
      have fq : Fresh w4 (w4.drewN nq) := (Keeps.refl _ _).drewN _
      have HM5 : Hid ((w4.drewN nq).ownsRow wo.heap.size 80 2 (.slice ma Kk.length mcap) Kk.length ((Kk.map (fun x => (x.2.1, x.2.2))).flatMap encL)) := fq.owns HM4.out (fun _ _ e => e)
      have HK5 : Hid ((w4.drewN nq).ownsRow w3.heap.size 67 3 (.slice ka Kk.length kcap) Kk.length (Kk.flatMap enc3)) := fq.owns HK4.out (fun _ _ e => e)
      have HL5 : Hid (Live w (w4.drewN nq) A d K C L σ) := HL4.out.fresh fq
      have HK35 : Hid (Keeps A wo (w4.drewN nq)) := HK34.out.then fq (fun _ _ e => e.elim)
      have hz5 := fq.size
      generalize w4.drewN nq = w5 at *
      clear fq HM4 HK4 HL4 HK34 cw4 cu4 hub
      go_wp2_with fail
      go_loopw [10] (fun t10 w6 => ∃ (j : Nat) (ys : List Value), j ≤ Kk.length ∧ t10 = .int .i64 j ∧ w6.ownsRow wo.heap.size 80 2 (.slice ma Kk.length mcap) Kk.length ys ∧ (∀ t, j * 2 ≤ t → ys[t]? = ((Kk.map (fun x => (x.2.1, x.2.2))).flatMap encL)[t]?) ∧ w6.ownsRow w3.heap.size 67 3 (.slice ka Kk.length kcap) Kk.length (Kk.flatMap enc3) ∧ Keeps (fun g => ma = some ⟨g, 0, none⟩) w5 w6) (fun t10 _ => Kk.length - (intOf t10).toNat)
      case atStart => exact ⟨0, _, Nat.zero_le _, rfl, HM5.out, fun _ _ => rfl, HK5.out, Keeps.refl _ _⟩
      case round =>
        obtain ⟨j, ys, hj1, rfl, hM6, hys, hK6, k6⟩ := hrel
        have HM6 : Hid (wr.ownsRow wo.heap.size 80 2 (.slice ma Kk.length mcap) Kk.length ys) := hM6
        have HYS : Hid (∀ t, j * 2 ≤ t → ys[t]? = ((Kk.map (fun x => (x.2.1, x.2.2))).flatMap encL)[t]?) := hys
        have HK6 : Hid (wr.ownsRow w3.heap.size 67 3 (.slice ka Kk.length kcap) Kk.length (Kk.flatMap enc3)) := hK6
        have Hk6 : Hid (Keeps (fun g => ma = some ⟨g, 0, none⟩) w5 wr) := k6
        clear hM6 hys hK6 k6
        by_cases hjt : j < Kk.length
        · obtain ⟨y, hy⟩ : ∃ y, Kk[j]? = some y := ⟨Kk[j], List.getElem?_eq_getElem hjt⟩
          obtain ⟨gm, rfl⟩ := hma (by omega)
          obtain ⟨gk, rfl⟩ := hka (by omega)
          obtain ⟨Y2, hY2⟩ : ∃ Y2 : ByteArray, Y2 = ⟨y.2.1.toArray⟩ := ⟨_, rfl⟩
          obtain ⟨Y3, hY3⟩ : ∃ Y3 : ByteArray, Y3 = ⟨y.2.2.toArray⟩ := ⟨_, rfl⟩
          obtain ⟨_, e1, e2⟩ := flat3_at Kk j y hy
          obtain ⟨e3, e4⟩ := flatL_at (Kk.map (fun x => (x.2.1, x.2.2))) j (y.2.1, y.2.2) (by rw [List.getElem?_map, hy]; rfl)
          rw [← HYS.out _ (Nat.le_refl _)] at e3
          rw [← HYS.out _ (by omega)] at e4
          have q1 := HK6.out.cellAt (j * 3 + 1) (by omega)
          have q2 := HK6.out.cellAt (j * 3 + 2) (by omega)
          have q3 := HM6.out.cellAt (j * 2) (by omega)
          have q4 := HM6.out.cellAt (j * 2 + 1) (by omega)
          rw [e1, ← hY2] at q1
          rw [e2, ← hY3] at q2
          rw [e3, ← hY2] at q3
          rw [e4, ← hY3] at q4
          have f3 := HM6.out.frozenAt (j * 2)
          have f4 := HM6.out.frozenAt (j * 2 + 1)
          have hb2 : (Y2.toList == Y2.toList) = true := by rw [beq_bytes]; simp
          have hb3 : (Y3.toList == Y3.toList) = true := by rw [beq_bytes]; simp
          clear hY2 hY3 e1 e2 e3 e4 hy
          have y0 : (0 : Int) ≤ (j : Int) := by omega
          have y1 : (j : Int) < (Kk.length : Int) := by omega
          have hgm := HMb.out gm rfl
          have hgk := HKb.out gk rfl
          go_wp2_with fail
          go_quiet (fail)
          go_wp2_with fail
          go_roundw
          case rel =>
            have f1 : Fresh wr (wr.drewN nq) := (Keeps.refl _ _).drewN _
            have hM9 := (((f1.owns HM6.out (fun _ _ e => e)).stored (j * 2) (.string ⟨#[]⟩)).1.stored (j * 2 + 1) (.string ⟨#[]⟩)).1
            have kA := ((f1.ofFresh (S := fun g => (some ⟨gm, 0, none⟩ : Option Addr) = some ⟨g, 0, none⟩)).setCell (p := ⟨gm, j * 2, none⟩) (fun _ => rfl) (.string ⟨#[]⟩)).setCell (p := ⟨gm, j * 2 + 1, none⟩) (fun _ => rfl) (.string ⟨#[]⟩)
            refine ⟨j + 1, _, by omega, by go_num, hM9, fun t ht => ?_, kA.owns HK6.out (fun g hg e => ?_), Hk6.out.trans kA⟩
            · rw [List.getElem?_set_ne (by omega), List.getElem?_set_ne (by omega)]
              exact HYS.out t (by omega)
            · have e1 : gk = g := Option.some.inj hg
              injection e with e
              injection e with e
              omega
          case measure => simp [intOf]; omega
        · have ej : j = Kk.length := by omega
          subst ej
          have y1 : ¬ (Kk.length : Int) < (Kk.length : Int) := by omega
          have kall : Keeps A wo wr := HK35.out.then Hk6.out (fun g hg e => by have := HMb.out g e; omega)
          have HU7 := kall.owns HU.out (fun g hg e => by
            have e1 : gu = g := Option.some.inj hg
            have := hA _ e
            omega)
          have HW7 := kall.owns HW.out (fun g hg e => by
            have e1 : gw = g := Option.some.inj hg
            have := hA _ e
            omega)
          have u1 := HCU.out wr kall
          have u2 := HU7.frozenAt i
          have HL7 : Hid (Live w wr A d K C L σ) := HL5.out.side Hk6.out (fun g hg e => by have := HMb.out g e; have := hA g hg; have := HKk.out.size; omega) (fun g e => by have := HMb.out g e; have := HKk.out.size; omega)
          have Hkall : Hid (Keeps A wo wr) := kall
          have HU8 : Hid (wr.ownsRow we.heap.size 9 1 (.slice (some ⟨gu, 0, none⟩) US.length ucap) US.length xs) := HU7
          have HW8 : Hid (wr.ownsRow w1.heap.size 9 1 (.slice (some ⟨gw, 0, none⟩) US.length wcap) US.length (US.map encStr)) := HW7
          clear kall HU7 HW7
          go_wp2_with fail
          go_roundw
          case rel =>
            have kS : Keeps (fun g => g = gu) wr (wr.setCell ⟨gu, i, none⟩ (.string ⟨#[]⟩)) := (Keeps.refl (fun g => g = gu) wr).setCell (p := ⟨gu, i, none⟩) (fun _ => rfl) _
            have hz6 := Hkall.out.size
            refine ⟨i + 1, _, by omega, by go_num, (HU8.out.stored i (.string ⟨#[]⟩)).1, fun t ht => ?_, kS.owns HW8.out (fun g hg e => ?_), HL7.out.side kS (fun g hg e => ?_) (fun g e => ?_), (HKk.out.trans Hkall.out).then kS (fun g hg e => ?_), ?_⟩
            · rw [List.getElem?_set_ne (by omega)]
              exact HXS.out t (by omega)
            · have e1 : gw = g := Option.some.inj hg
              omega
            · have := hA g hg
              omega
            · omega
            · omega
            · have := kS.size
              omega
          case measure => simp [intOf]; omega
    · have ei : i = US.length := by omega
      subst ei
      have z1 : ¬ (US.length : Int) < (US.length : Int) := by omega
      go_wp2_with fail
      go_ret
      exact ⟨rfl, HLv.out, HKk.out⟩

end
end Go.Proofs.YtegbkpjcjlihmabGreatDoor
