/-
  The law BoxClean, walked.
-/
import Derived.Test.YtegbkpjcjlihmabGreatDoorHa
namespace Go.Proofs.YtegbkpjcjlihmabGreatDoor
open Go.RowKit Go.Maps Go.Sort Go.Lib

/-- how the player stands behind the script -/
structure QSt (w : World) (K : List Text) (p d C L : Nat) (A : Nat → Prop) (σ : Dk) (D : Text → Text) (l : List Lt3) (stop maybe : Bool) (x1 x2 x3 : ByteArray) (v : Value) (wr : World) : Prop where
  live : Live w wr A d K C L σ
  cell : wr.heap[p]? = some (pCells d v stop maybe x1 x2 x3)
  pA : ¬ A p
  pw : w.heap.size ≤ p
  ls : Lsx wr (fun i => A i ∨ i = p) v l
  st : Bst K D σ l false false (x3Of x1 x2 x3)

section
variable {w wr w' : World} {K : List Text} {p d C L C' L' : Nat} {A A' : Nat → Prop} {σ σ' : Dk} {D D' : Text → Text} {l : List Lt3} {stop maybe : Bool} {x1 x2 x3 : ByteArray} {v : Value}

theorem QSt.at (h : QSt w K p d C L A σ D l stop maybe x1 x2 x3 v wr) : ∀ (j : Nat) u, #[Value.pointer (some ⟨d, 0, none⟩), v, .bool stop, .bool maybe, .string x1, .string x2, .string x3][j]? = some u → wr.cell? ⟨p, j, none⟩ = some u := fun j u hj => by
  have hp := h.cell
  unfold pCells ptr at hp
  rw [Lib.cell_of_heap hp]; exact hj

theorem QSt.disk (h : QSt w K p d C L A σ D l stop maybe x1 x2 x3 v wr) (h2 : Live w w' A' d K C' L' σ') (k : Keeps A wr w') (hA : ∀ i, A' i → A i ∨ wr.heap.size ≤ i) (B : Bst K D' σ' l false false (x3Of x1 x2 x3)) : QSt w K p d C' L' A' σ' D' l stop maybe x1 x2 x3 v w' := by
  have hlt : p < wr.heap.size := (Array.getElem?_eq_some_iff.1 h.cell).1
  refine ⟨h2, k.heap h.cell h.pA, fun e => (hA p e).elim h.pA (fun e => by omega), h.pw, ?_, B⟩
  exact h.ls.keep k (fun g _ n e => n (.inl e)) (fun g e => e.elim (fun e => (hA g e).elim (fun e => .inl (.inl e)) .inr) (fun e => .inl (.inr e)))

theorem QSt.freshen (h : QSt w K p d C L A σ D l stop maybe x1 x2 x3 v wr) (k : Fresh wr w') : QSt w K p d C L A σ D l stop maybe x1 x2 x3 v w' :=
  ⟨h.live.fresh k, k.heap h.cell (fun e => e), h.pA, h.pw, h.ls.fresh k, h.st⟩

theorem QSt.shows (h : QSt w K p d C L A σ D l stop maybe x1 x2 x3 v wr) (hG : Gl w) (hK : NamesOk K) (hl : l.length ≤ 1099511627) :
    Calls Tryz.prog 33 #[ptr d, v] wr fun e w' => e = .returned (.bool true) ∧ QSt w K p d C L A σ D l stop maybe x1 x2 x3 v w' ∧ Keeps A wr w' := by
  have hf := h.live.2.2.1
  have es : seen σ l false (x3Of x1 x2 x3) = l := if_neg (fun e => by cases e.1)
  have h1 := h.st.seen_up
  have h2 := h.st.seen_keys hf
  have h3 := h.st.seen_data hf
  rw [es] at h1 h2 h3
  refine (shows_any h.live hG (by have := hK.len; omega) hK.size hK.canon (h.ls.less (fun i e => .inl e)) h1 h2 h3 hl).mono ?_
  rintro e w' ⟨rfl, h2, k⟩
  exact ⟨rfl, ⟨h2, k.heap h.cell h.pA, h.pA, h.pw, h.ls.keep k (fun g _ n e => n (.inl e)) (fun _ e => .inl e), h.st⟩, k⟩

end

/-- how many names are a box's -/
def countB (ks : List Text) : Nat := (ks.filter (fun s => boxPre.isPrefixOf s)).length

theorem countB_snoc (ks : List Text) (s : Text) : countB (ks ++ [s]) = countB ks + (if boxPre.isPrefixOf s = true then 1 else 0) := by
  unfold countB
  rw [List.filter_append, List.length_append]
  congr 1
  by_cases h : boxPre.isPrefixOf s = true <;> simp [h]

theorem countB_le {os : List OpR} {t C L : Nat} {D : Text → Text} {σ : Dk} {l : List Lt3} {x : Lt3} {ks : List Text} (hl : (os.map OpR.load).sum ≤ 1048576) (hf : Fits (KK (BB os) t) C L σ) (B : Bst (KK (BB os) t) D σ l false false x) (hn : σ.now freshT = none) (hs : Sorted σ.now ks) : countB ks ≤ l.length := by
  have es : seen σ l false x = l := if_neg (fun e => by cases e.1)
  have hk := B.seen_keys hf
  rw [es] at hk
  unfold countB
  have h1 : ∀ s ∈ ks.filter (fun s => boxPre.isPrefixOf s), s ∈ l.map nm3 := fun s hs' => by
    obtain ⟨hsk, hp⟩ := List.mem_filter.1 hs'
    have hsn := (hs.mem s).1 hsk
    have hp : boxPre.isPrefixOf s = true := hp
    rcases mem_KK.1 (hf.nowK s hsn) with hb | ⟨i, _, rfl | rfl⟩
    · unfold BB at hb
      simp only [List.cons_append, List.nil_append, List.mem_cons, List.mem_append, List.mem_map, List.mem_filter] at hb
      rcases hb with rfl | rfl | rfl | ⟨o, ho, rfl⟩ | ⟨o, ⟨ho, hb⟩, rfl⟩
      · rw [hn] at hsn; cases hsn
      · simp [boxT, boxPre, List.isPrefixOf] at hp
      · simp [newT, boxPre, List.isPrefixOf] at hp
      · have hlen : o.us.data.toList.length < lim := by
          have := load_le os o ho
          have e3 : o.load = o.us.size + o.ke.size + o.da.size + 5 := rfl
          have e4 : o.us.data.toList.length = o.us.size := rfl
          unfold lim
          omega
        obtain ⟨y, hy, e⟩ := List.mem_map.1 ((hk (o.us.data.toList, o.ke.data.toList)).2 ⟨hlen, hsn⟩)
        refine List.mem_map.2 ⟨y, hy, ?_⟩
        have e1 : y.1 = o.us.data.toList := congrArg (fun p : Ltr => p.1) e
        have e2 : y.2.1 = o.ke.data.toList := congrArg (fun p : Ltr => p.2) e
        unfold nm3 OpR.nm
        rw [e1, e2]
      · unfold OpR.beside at hb
        simp only [Bool.and_eq_true, Bool.not_eq_true'] at hb
        have := (boxedB_iff o.us).2 hp
        rw [hb.1] at this
        cases this
    · simp [lName, numName, lastT, boxPre, List.isPrefixOf] at hp
    · simp [mName, numName, mailT, boxPre, List.isPrefixOf] at hp
  have := nodup_len _ (hs.nodup.filter _) (l.map nm3) h1
  rw [List.length_map] at this
  exact this

set_option maxHeartbeats 8000000 in
set_option maxRecDepth 100000 in
theorem clean_law (w : World) (hG : Gl w) (h8 : 8 ≤ w.heap.size) (sv : Value) (os : List OpR) (hs : Script6 w sv os) (hf : ∀ o ∈ os, OpFits6 w o) (hl : (os.map OpR.load).sum ≤ 1048576) :
    Calls Tryz.prog 7 #[sv] w fun e w' => e = .returned (.bool true) ∧ Fresh w w' := by
  obtain ⟨ao, cap, rfl, hc1, hc2, hao⟩ := hs
  have hB := BB_ok hl
  have hlen := len_load os
  have hcost := cost_load os
  have hnew := new_live (KK (BB os) 0) w w (Keeps.refl _ _)
  have HF : Hid (∀ o ∈ os, OpFits6 w o) := hf
  clear hf
  unfold ptr at *
  go_enter Tryz.func7, Tryz.ntmps7
  go_wp2_with fail
  refine hnew.mono ?_
  rintro e w1 ⟨d, rfl, hlv, k1⟩
  have HP0 := pst_start hlv
  unfold ptr at *
  have c0 := HP0.at 0 _ rfl
  have HPA : Hid (PAny w (KK (BB os) 0) w1.heap.size d 0 0 0 (w1.alloc (.cells #[.pointer (some ⟨d, 0, none⟩), .slice none 0 0, .bool false, .bool false, .string ⟨#[]⟩, .string ⟨#[]⟩, .string ⟨#[]⟩] 69))) := HP0.any (Nat.le_refl _) (Nat.le_refl _) (Nat.le_refl _)
  clear hnew hlv HP0
  go_wp2_with fail
  generalize w1.alloc (.cells #[.pointer (some ⟨d, 0, none⟩), .slice none 0 0, .bool false, .bool false, .string ⟨#[]⟩, .string ⟨#[]⟩, .string ⟨#[]⟩] 69) = w2 at *
  have hp1 : w1.heap.size = w1.heap.size := rfl
  generalize w1.heap.size = p at *
  clear hp1 c0
  go_loopw [4] (fun t4 wr => ∃ i : Nat, i ≤ os.length ∧ t4 = .int .i64 i ∧ PAny w (KK (BB os) i) p d (8 * i) ((os.take i).map OpR.cost).sum i wr) (fun t4 _ => os.length - (intOf t4).toNat)
  case atStart => exact ⟨0, Nat.zero_le _, rfl, HPA.out⟩
  case round =>
    obtain ⟨i, hi, rfl, hpa⟩ := hrel
    have HP : Hid (PAny w (KK (BB os) i) p d (8 * i) ((os.take i).map OpR.cost).sum i wr) := hpa
    clear hpa
    by_cases hlt : i < os.length
    · obtain ⟨o, ho⟩ : ∃ o, os[i]? = some o := ⟨os[i], List.getElem?_eq_getElem hlt⟩
      obtain ⟨b, off, rfl, hcells⟩ := hao (by omega)
      have hom := List.mem_of_getElem? ho
      have HT : Hid (((os.take (i + 1)).map OpR.cost).sum = ((os.take i).map OpR.cost).sum + o.cost) := by
        show _ = _
        rw [List.take_add_one, ho]; simp
      have hct := cost_take os i
      have hof := HF.out o hom
      have hld := load_le os o hom
      obtain ⟨q0, q1, q2, q3, q4, q5⟩ := hcells i o ho
      have fw := HP.out.frame
      have q0 := cell_keeps fw q0 (fun e => e)
      have q1 := cell_keeps fw q1 (fun e => e)
      have q2 := cell_keeps fw q2 (fun e => e)
      have q3 := cell_keeps fw q3 (fun e => e)
      have q4 := cell_keeps fw q4 (fun e => e)
      have q5 := cell_keeps fw q5 (fun e => e)
      have HOK : Hid ((o.kind = 5 → o.beside = true) → OpOk w (KK (BB os) (i + 1)) o.kind o.us o.ke o.da o.nn o.tv o.ts) := fun hb => opOk hom hl hof hb _
      obtain ⟨tao, tcap, htv, _, _, _⟩ := hof.2.2
      obtain ⟨kind, us, ke, da, nn, tv, ts⟩ := o
      simp only at htv q0 q1 q2 q3 q4 q5
      subst htv
      have e3 : OpR.load ⟨kind, us, ke, da, nn, .slice tao ts.length tcap, ts⟩ = us.size + ke.size + da.size + 5 := rfl
      have e4 : OpR.cost ⟨kind, us, ke, da, nn, .slice tao ts.length tcap, ts⟩ = us.size + ke.size + da.size + 132 := rfl
      rw [e3] at hld
      rw [e4] at HT
      have z0 : (0 : Int) ≤ (i : Int) := by omega
      have z1 : (i : Int) < (os.length : Int) := by omega
      clear ho hcells hom hof e3 e4 fw hcost
      have HPW : Hid (PAny w (KK (BB os) i) p d (8 * i) ((os.take i).map OpR.cost).sum i (wr.alloc (.cells #[.int .i64 kind, .string us, .string ke, .string da, .int .i64 nn, .slice tao ts.length tcap] 71))) := HP.out.fresh ((Keeps.refl _ _).alloc _)
      have HSK : Hid (PAny w (KK (BB os) (i + 1)) p d (8 * (i + 1)) ((os.take (i + 1)).map OpR.cost).sum (i + 1) (wr.alloc (.cells #[.int .i64 kind, .string us, .string ke, .string da, .int .i64 nn, .slice tao ts.length tcap] 71))) := HPW.out.skip (by omega) (by rw [HT.out]; omega) (by omega)
      have hcs2 : ((os.take i).map OpR.cost).sum ≤ 30000000 := by have := cost_load os; omega
      by_cases h5 : kind = 5
      · subst h5
        go_wp2_with fail
        go_roundw
        case rel => exact ⟨i + 1, by omega, by go_num, HSK.out⟩
        case measure => simp [intOf]; omega
      · have z5 := beq_eq_false_iff_ne.2 h5
        have HST : Hid (Calls Tryz.prog 25 #[.pointer (some ⟨p, 0, none⟩), .agg #[.int .i64 kind, .string us, .string ke, .string da, .int .i64 nn, .slice tao ts.length tcap]] (wr.alloc (.cells #[.int .i64 kind, .string us, .string ke, .string da, .int .i64 nn, .slice tao ts.length tcap] 71)) (Stepped w (KK (BB os) (i + 1)) p d (8 * i + 8) (((os.take i).map OpR.cost).sum + (us.size + ke.size + da.size + 132)) (i + 1))) := by
          obtain ⟨stop, A, σ, D, l, maybe, x1, x2, x3, v, hp⟩ := HPW.out
          exact step_all hp hG h8 hB (by omega) (by omega) kind us ke da nn (.slice tao ts.length tcap) ts (HOK.out (fun e => absurd e h5)) (by omega) (by omega)
        go_wp2_with fail
        refine Calls.mono HST.out ?_
        rintro e w5 ⟨rfl, hpa5⟩
        have HP5 : Hid (PAny w (KK (BB os) (i + 1)) p d (8 * (i + 1)) ((os.take (i + 1)).map OpR.cost).sum (i + 1) w5) := by
          show PAny _ _ _ _ _ _ _ _
          rw [HT.out]
          exact hpa5
        clear hpa5 HST
        go_wp2_with fail
        go_roundw
        case rel => exact ⟨i + 1, by omega, by go_num, HP5.out⟩
        case measure => simp [intOf]; omega
    · have ei : i = os.length := by omega
      subst ei
      have z1 : ¬ (os.length : Int) < (os.length : Int) := by omega
      have hcs2 : ((os.take os.length).map OpR.cost).sum ≤ 30000000 := by have := cost_load os; have := cost_take os os.length; omega
      generalize wr = wo at *
      obtain ⟨stop, A, σ, D, l, maybe, x1, x2, x3, v, hp⟩ := HP.out
      have hK := hB.names os.length (by omega)
      obtain ⟨K, hKe⟩ : ∃ K, K = KK (BB os) os.length := ⟨_, rfl⟩
      have HKE : Hid (K = KK (BB os) os.length) := hKe
      rw [← hKe] at hp hK
      clear hKe
      generalize ((os.take os.length).map OpR.cost).sum = L at *
      have c0 := hp.at 0 _ rfl
      have hcr := hp.live.crash (by have := hK.len; omega) (by omega) (by omega) 0 (.slice none 0 0) [] ⟨none, 0, rfl, by omega, Nat.le_refl _, fun h => absurd rfl h⟩
      have HPS : Hid (PSt w K p d (8 * os.length) L os.length A σ D l stop maybe x1 x2 x3 v wo) := hp
      unfold ptr at hcr
      clear hp
      go_wp2_with fail
      refine hcr.mono ?_
      rintro e w3 ⟨ks, rfl, hso, h3, k3⟩
      obtain ⟨σ1, hσ1⟩ : ∃ σ1, σ1 = σ.crashed (min (0 : Int).toNat σ.chs.length) ks [] := ⟨_, rfl⟩
      rw [← hσ1] at h3
      have hb2 : Bst K D σ1 l stop maybe (x3Of x1 x2 x3) := by
        have := HPS.out.st.crashed2 HPS.out.live.2.2.1 (min (0 : Int).toNat σ.chs.length) ks []
        rw [← hσ1] at this
        exact ⟨this.up, this.boxed, this.stay, this.gone, this.may, fun _ => this.left rfl⟩
      have HBd : Hid (Bst K D σ1 (seen σ1 l maybe (x3Of x1 x2 x3)) false false (x3Of x1 x2 x3)) := by rw [hσ1]; exact HPS.out.st.crashed HPS.out.live.2.2.1 _ _ _
      have HP3 : Hid (PSt w K p d (8 * os.length) L os.length (ext A wo w3) σ1 D l stop maybe x1 x2 x3 v w3) := HPS.out.disk h3 k3 (fun i hi => hi.elim .inl (fun e => .inr e.1)) hb2
      clear hcr hso h3 k3 hσ1 hb2 c0
      have hlk := HP3.out.look hG hK (by omega)
      unfold ptr at hlk
      go_wp2_with fail
      refine hlk.mono ?_
      rintro e w5 ⟨v5, rfl, hv5, hp5, k5⟩
      obtain ⟨a5, m5, e5⟩ := hv5.len
      subst e5
      have g1 := hp5.at 1 _ rfl
      have gf1 := hp5.fz 1
      have hsl : (seen σ1 l maybe (x3Of x1 x2 x3)).length ≤ os.length + 1 := by
        have := HPS.out.ln
        unfold seen
        split
        · exact Nat.le_trans withL_len (by omega)
        · omega
      obtain ⟨sl, hsl2⟩ : ∃ sl, sl = seen σ1 l maybe (x3Of x1 x2 x3) := ⟨_, rfl⟩
      rw [← hsl2] at hsl hv5 HBd
      have HQ6 : Hid (QSt w K p d (8 * os.length) L (ext A wo w3) σ1 D sl stop maybe x1 x2 x3 (.slice a5 sl.length m5) (w5.setCell ⟨p, 1, none⟩ (.slice a5 sl.length m5))) := by
        have hc5 := hp5.cell
        unfold pCells at hc5
        have kS := (Keeps.refl (fun i => i = p) w5).setCell (p := ⟨p, 1, none⟩) (fun _ => rfl) (.slice a5 sl.length m5)
        exact ⟨hp5.live.side kS (fun i hi e => hp5.pA (e ▸ hi)) (fun i e => by have := hp5.pw; omega), heap_setCell_at hc5 1 _, hp5.pA, hp5.pw, hv5.keep kS (fun g _ n e => n (.inr e)) (fun _ e => .inl e), HBd.out⟩
      rw [← hsl2]
      clear hlk hv5 hp5 k5 hsl2 HBd
      have c60 := HQ6.out.at 0 _ rfl
      have hcl := clean_any HQ6.out.live (by have := hK.len; omega) (by omega) (by omega)
      unfold ptr at hcl
      go_wp2_with fail
      generalize w5.setCell ⟨p, 1, none⟩ (.slice a5 sl.length m5) = w6 at *
      refine hcl.mono ?_
      rintro e w7 ⟨k', σ2, rfl, hcl', h7, k7⟩
      obtain ⟨hb, hk⟩ := HQ6.out.st.clean HQ6.out.live.2.2.1 hcl'
      have hk2 : k' = 0 ∧ σ2.now freshT = none := hk.resolve_left (fun e => by cases e.2)
      obtain ⟨rfl, hfr⟩ := hk2
      have HQ7 : Hid (QSt w K p d (8 * os.length + 6) L (ext (ext A wo w3) w6 w7) σ2 D sl stop maybe x1 x2 x3 (.slice a5 sl.length m5) w7) := HQ6.out.disk h7 k7 (fun i hi => hi.elim .inl (fun e => .inr e.1)) hb
      clear hcl hcl' h7 k7 hb hk g1 gf1 c60
      have hsh := (HQ7.out.freshen ((Keeps.refl _ w7).drew)).shows hG hK (by omega)
      have c70 := HQ7.out.at 0 _ rfl
      have c71 := HQ7.out.at 1 _ rfl
      unfold ptr at hsh
      go_wp2_with fail
      go_region_held3 (fun w' => w'.cell? ⟨p, 0, none⟩ = some (.pointer (some ⟨d, 0, none⟩)) ∧ w'.cell? ⟨p, 1, none⟩ = some (.slice a5 sl.length m5)) (first | exact ⟨c70, c71⟩ | exact ⟨hq8.at 0 _ rfl, hq8.at 1 _ rfl⟩) (first | (go_at_call 33; refine hsh.mono ?_; rintro e w8 ⟨rfl, hq8, k8⟩))
      have HQ8 : Hid (QSt w K p d (8 * os.length + 6) L (ext (ext A wo w3) w6 w7) σ2 D sl stop maybe x1 x2 x3 (.slice a5 sl.length m5) w8) := hq8
      clear hsh hq8 k8 c70 c71
      have c80 := HQ8.out.at 0 _ rfl
      have hnm := HQ8.out.live.names (by have := hK.len; omega)
      unfold ptr at hnm
      go_wp2_with fail
      refine hnm.mono ?_
      rintro e w9 ⟨nv, kn, rfl, hsn, hkn, hks, hrn, h9, k9⟩
      have HQ9 : Hid (QSt w K p d (8 * os.length + 6) L (ext (ext A wo w3) w6 w7) σ2 D sl stop maybe x1 x2 x3 (.slice a5 sl.length m5) w9) := HQ8.out.freshen k9
      have HCT : Hid (countB kn ≤ sl.length) := by
        have hq := HQ8.out
        rw [HKE.out] at hq
        exact countB_le hl hq.live.2.2.1 hq.st hfr hsn
      have HKN : Hid (∀ s ∈ kn, s.length < 4294967281) := fun s hs => hK.size s (HQ8.out.live.2.2.1.nowK s ((hsn.mem s).1 hs))
      have hknl : kn.length ≤ 1099511627 := by have := hK.len; omega
      unfold Row9 at hrn
      obtain ⟨na, ncap, rfl, hn1, hn2, hna⟩ := own_form hrn
      unfold maxLen at hn1
      have HRN : Hid (w9.ownsRow w8.heap.size 9 1 (.slice na kn.length ncap) kn.length (kn.map encStr)) := hrn
      clear hnm hsn hks hrn h9 k9 c80 hfr
      go_wp2_with fail
      go_loopw [9, 11] (fun t9 t11 wr => ∃ j : Nat, j ≤ kn.length ∧ t11 = .int .i64 j ∧ t9 = .int .i64 (countB (kn.take j) : Nat) ∧ Fresh w9 wr) (fun _ t11 _ => kn.length - (intOf t11).toNat)
      case atStart => exact ⟨0, Nat.zero_le _, rfl, rfl, Keeps.refl _ _⟩
      case round =>
        obtain ⟨j, hj, rfl, rfl, kk⟩ := hrel
        by_cases hjt : j < kn.length
        · obtain ⟨s, hs⟩ : ∃ s, kn[j]? = some s := ⟨kn[j], List.getElem?_eq_getElem hjt⟩
          obtain ⟨gn, rfl⟩ := hna (by omega)
          obtain ⟨S, hS⟩ : ∃ S : ByteArray, S = ⟨s.toArray⟩ := ⟨_, rfl⟩
          have hSl : S.data.toList = s := by rw [hS]
          have hes : (kn.map encStr)[j]? = some (.string S) := by rw [List.getElem?_map, hs, hS]; rfl
          have cn0 := HRN.out.cellAt j (by omega)
          rw [hes] at cn0
          have cn := cell_keeps kk cn0 (fun e => e)
          have hSz : S.size ≤ 1099511627776 := by
            have h1 := HKN.out s (List.mem_of_getElem? hs)
            have h2 : S.size = S.data.toList.length := rfl
            rw [h2, hSl]
            omega
          have HCN : Hid (countB (kn.take (j + 1)) = countB (kn.take j) + (if boxedB S = true then 1 else 0)) := by
            show _ = _
            rw [List.take_add_one, hs]
            show countB (kn.take j ++ [s]) = _
            rw [countB_snoc]
            congr 1
            have hiff := boxedB_iff S
            rw [hSl] at hiff
            by_cases hb : boxedB S = true
            · rw [if_pos hb, if_pos (hiff.1 hb)]
            · rw [if_neg hb, if_neg (fun e => hb (hiff.2 e))]
          have hcle : countB (kn.take j) ≤ j := by
            unfold countB
            exact Nat.le_trans (List.length_filter_le _ _) (by rw [List.length_take]; omega)
          have hbx := boxed_any S wr hSz
          have z0 : (0 : Int) ≤ (j : Int) := by omega
          have z1' : (j : Int) < (kn.length : Int) := by omega
          clear hs hS hSl hes cn0 hSz
          obtain ⟨cb, hcb⟩ : ∃ cb, cb = countB (kn.take j) := ⟨_, rfl⟩
          rw [← hcb] at HCN hcle ⊢
          clear hcb
          go_wp2_with fail
          refine hbx.mono ?_
          rintro e w4 ⟨rfl, k4⟩
          have k49 : Fresh w9 w4 := kk.trans k4
          clear hbx k4 kk cn
          cases hmb : boxedB S with
          | true =>
            rw [hmb, if_pos rfl] at HCN
            go_wp2_with fail
            go_roundw
            case rel => exact ⟨j + 1, by omega, by go_num, by rw [HCN.out]; go_num, k49⟩
            case measure => simp [intOf]; omega
          | false =>
            rw [hmb, if_neg (by simp)] at HCN
            go_wp2_with fail
            go_roundw
            case rel => exact ⟨j + 1, by omega, by go_num, by rw [HCN.out]; rfl, k49⟩
            case measure => simp [intOf]; omega
        · have ej : j = kn.length := by omega
          subst ej
          have z1' : ¬ (kn.length : Int) < (kn.length : Int) := by omega
          rw [List.take_length]
          have hct := HCT.out
          obtain ⟨cb, hcb⟩ : ∃ cb, cb = countB kn := ⟨_, rfl⟩
          rw [← hcb] at hct ⊢
          clear hcb HCT
          have HQa : Hid (QSt w K p d (8 * os.length + 6) L (ext (ext A wo w3) w6 w7) σ2 D sl stop maybe x1 x2 x3 (.slice a5 sl.length m5) wr) := HQ9.out.freshen kk
          have ca0 := HQa.out.at 0 _ rfl
          have hcr := HQa.out.live.crash (by have := hK.len; omega) (by omega) (by omega) 0 (.slice none 0 0) [] ⟨none, 0, rfl, by omega, Nat.le_refl _, fun h => absurd rfl h⟩
          unfold ptr at hcr
          go_wp2_with fail
          refine hcr.mono ?_
          rintro e wb ⟨kb, rfl, hsb, hb', kb'⟩
          have HQb : Hid (QSt w K p d (8 * os.length + 6) L (ext (ext (ext A wo w3) w6 w7) wr wb) (σ2.crashed (min (0 : Int).toNat σ2.chs.length) kb []) D sl stop maybe x1 x2 x3 (.slice a5 sl.length m5) wb) := HQa.out.disk hb' kb' (fun i hi => hi.elim .inl (fun e => .inr e.1)) (by
            have := HQa.out.st.crashed HQa.out.live.2.2.1 (min (0 : Int).toNat σ2.chs.length) kb []
            have es : seen (σ2.crashed (min (0 : Int).toNat σ2.chs.length) kb []) sl false (x3Of x1 x2 x3) = sl := if_neg (fun e => by cases e.1)
            rw [es] at this
            exact this)
          clear hcr hsb hb' kb' ca0
          have hsh := (HQb.out.freshen ((Keeps.refl _ wb).drew)).shows hG hK (by omega)
          have cb0 := HQb.out.at 0 _ rfl
          have cb1 := HQb.out.at 1 _ rfl
          unfold ptr at hsh
          go_wp2_with fail
          go_region_held3 (fun w' => w'.cell? ⟨p, 0, none⟩ = some (.pointer (some ⟨d, 0, none⟩)) ∧ w'.cell? ⟨p, 1, none⟩ = some (.slice a5 sl.length m5)) (first | exact ⟨cb0, cb1⟩ | exact ⟨hqc.at 0 _ rfl, hqc.at 1 _ rfl⟩) (first | (go_at_call 33; refine hsh.mono ?_; rintro e wc ⟨rfl, hqc, kc⟩))
          have HQc : Hid (QSt w K p d (8 * os.length + 6) L (ext (ext (ext A wo w3) w6 w7) wr wb) (σ2.crashed (min (0 : Int).toNat σ2.chs.length) kb []) D sl stop maybe x1 x2 x3 (.slice a5 sl.length m5) wc) := hqc
          clear hsh hqc kc cb0 cb1
          have cc1 := HQc.out.at 1 _ rfl
          have hnum := fun w' => num_any 0 w'
          have hal := boxAlive_any w wc HQc.out.live.2.2.2 hG
          have zc : (cb : Int) ≤ (sl.length : Int) + 1 := by omega
          go_wp2_with (first | (go_at_call 29; refine (hnum _).mono ?_; rintro e w' ⟨rfl, hw⟩; have hw := hw.symm; subst hw) | (go_at_call 26; refine hal.mono ?_; rintro e wz ⟨rfl, kz⟩))
          go_ret
          exact ⟨rfl, kz⟩

end Go.Proofs.YtegbkpjcjlihmabGreatDoor
