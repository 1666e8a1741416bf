/-
  The player of mails: how it stands; Put, of whatever mail. | The player of mails: put.
-/
import Derived.Test.YtegbkpjcjlihmabGreatDoorIf
import Derived.Test.YtegbkpjcjlihmabGreatDoorIg
namespace Go.Proofs.YtegbkpjcjlihmabGreatDoor
open Go.RowKit Go.Maps Go.Sort Go.Lib

/-- nothing is open -/
structure Calm (ρ : Rs) (σ : Dk) (b : Bool) (lv : Int) (W : Waits) : Prop where
  dead : ρ.dead = false
  b : b = false
  hp : ρ.hp = false
  hd : ρ.hd = false
  dom : Dom ρ.l W
  al : Alive σ ρ.l lv

/-- a Put, or a Done, was answered by ErrDead -/
structure Torn (ρ : Rs) (σ : Dk) (b : Bool) (lv : Int) : Prop where
  dead : ρ.dead = true
  b : b = true
  may : (ρ.hp = true ∧ ρ.hd = false ∧ mlW (pml ρ) ≤ 1048576 ∧ Inv σ ρ.l lv (.put (pml ρ))) ∨ (ρ.hp = false ∧ ρ.hd = true ∧ Inv σ ρ.l lv (.done ρ.id (ρ.ta.data.toList, ρ.tb.data.toList)))

def pCells5 (d s r : Nat) (stop : Bool) : Obj := .cells #[ptr d, ptr s, ptr r, .bool stop] 38

structure PS (w : World) (t p d C L : Nat) (A : Nat → Prop) (σ : Dk) (stop : Bool) (s mw N : Nat) (W : Waits) (lv : Int) (b : Bool) (r : Nat) (ρ : Rs) (wr : World) : Prop where
  live : Live w wr A d (K5 t) C L σ
  cell : wr.heap[p]? = some (pCells5 d s r stop)
  pA : ¬ A p
  pw : w.heap.size ≤ p
  sp : SpAt w A d L s mw N (Pm ρ.l) lv b W wr
  pS : p ≠ s ∧ p ≠ mw ∧ ∀ n, W n ≠ some p
  ref : RefAt (SS A s mw W p) r w.heap.size ρ wr
  lft : stop = false → σ.left = none
  top : ρ.top ≤ lv
  lvt : lv ≤ t
  num : N ≤ 2 * t + 5 ∧ ρ.l.length ≤ t
  sz : ∀ g ∈ ρ.l, mlW g.2.1 ≤ 1048576
  st : Calm ρ σ b lv W ∨ Torn ρ σ b lv

/-- a mail that came in -/
structure MlIn (w : World) (tv : Value) (m : Ml) : Prop where
  wt : mlW m ≤ 1048576
  to_ : AdAt w (fun b => w.heap.size ≤ b) tv (mlTo m)

theorem AdAt.addMap {w : World} {S : Nat → Prop} {v : Value} {l : List Ltr} {m : Nat} (h : AdAt w S v l) (hm : ∀ off, w.cell? ⟨m, off, none⟩ = none) : AdAt w (fun i => S i ∨ i = m) v l := by
  obtain ⟨ao, cap, e, h1, h2⟩ := h
  refine ⟨ao, cap, e, h1, fun b off e hn => ⟨fun hb => ?_, (h2 b off e hn).2⟩⟩
  rcases hb with hb | hb
  · exact (h2 b off e hn).1 hb
  · subst hb
    obtain ⟨b', off', e', hc⟩ := h1 hn
    rw [e] at e'
    injection e' with e'
    injection e' with e1 e2
    subst e1 e2
    obtain ⟨x, hx⟩ : ∃ x, l[0]? = some x := ⟨l[0]'(by omega), List.getElem?_eq_getElem (by omega)⟩
    have := (hc 0 x hx).1
    rw [hm] at this
    cases this


theorem map_cell {w : World} {m n c : Nat} {M : Lefts} (h : LeftAt w m n c M) (off : Nat) : w.cell? ⟨m, off, none⟩ = none := by
  obtain ⟨D, ⟨es, cl, hb, _⟩, _⟩ := h
  simp [World.cell?, hb]

theorem RefAt.addMap {S : Nat → Prop} {r base : Nat} {ρ : Rs} {w : World} {m n c : Nat} {M : Lefts} (h : RefAt S r base ρ w) (hm : LeftAt w m n c M) : RefAt (fun i => S i ∨ i = m) r base ρ w := by
  have t1 := hm.tag
  have hr : r ≠ m := fun e => by
    have t2 := tag_cells (cs := #[ρ.av, .int .i64 ρ.top, .bool ρ.dead, .bool ρ.hp, .string ρ.pa, .string ρ.pb, ρ.pt, .string ρ.pd, .bool ρ.hd, .int .i64 ρ.id, .string ρ.ta, .string ρ.tb]) h.cell
    rw [e, t1] at t2
    exact absurd (Option.some.inj t2) (by decide)
  have ha : ∀ k, ρ.av.ownBlock = some k → k ≠ m := fun k hk e => by
    have t2 := owns_tag h.row hk
    rw [e, t1] at t2
    exact absurd (Option.some.inj t2) (by decide)
  have hA : ∀ v l, AdAt w (fun b => S b ∨ b = r ∨ ρ.av.ownBlock = some b) v l → AdAt w (fun b => (S b ∨ b = m) ∨ b = r ∨ ρ.av.ownBlock = some b) v l := fun v l ha => (ha.addMap (m := m) (map_cell hm)).less (fun b _ e => by
    rcases e with (e | e) | e
    · exact .inl (.inl e)
    · exact .inr e
    · exact .inl (.inr e))
  exact ⟨h.cell, h.row, h.len, fun i x g hx hg => let o := h.raw i x g hx hg; ⟨o.id, o.fa, o.fb, hA _ _ o.tt, o.dd, hA _ _ o.lf⟩, hA _ _ h.put, fun e => e.elim h.nS hr, fun k hk e => e.elim (h.nR k hk) (ha k hk), h.bs⟩

theorem RefAt.less {S S' : Nat → Prop} {r base : Nat} {ρ : Rs} {w : World} (h : RefAt S r base ρ w) (hS : ∀ b, b < w.heap.size → S' b → S b) : RefAt S' r base ρ w := h.keep (Keeps.refl (fun _ => False) w) (fun _ _ _ e => e) hS

section
variable {w wr w' : World} {t p d C L : Nat} {A : Nat → Prop} {σ : Dk} {stop : Bool} {s mw N : Nat} {W : Waits} {lv : Int} {b : Bool} {r : Nat} {ρ : Rs}

theorem PS.lt (h : PS w t p d C L A σ stop s mw N W lv b r ρ wr) : p < wr.heap.size := heap_lt h.cell

theorem PS.fresh (h : PS w t p d C L A σ stop s mw N W lv b r ρ wr) (k : Fresh wr w') : PS w t p d C L A σ stop s mw N W lv b r ρ w' :=
  ⟨h.live.fresh k, k.heap h.cell (fun e => e), h.pA, h.pw, h.sp.fresh k, h.pS, h.ref.fresh k, h.lft, h.top, h.lvt, h.num, h.sz, h.st⟩

/-- what stands behind Put -/
def PutRes (w : World) (t d C L : Nat) (A : Nat → Prop) (σ : Dk) (stop : Bool) (s mw N : Nat) (W : Waits) (lv : Int) (ρ : Rs) (m : Ml) (idv ev : Int) (we w' : World) : Prop :=
  (mlTo m = [] ∧ idv = 0 ∧ ev = 2 ∧ Fresh we w') ∨ (mlTo m ≠ [] ∧ ∃ A' σ', Live w w' A' d (K5 t) (C + 6) (L + (mlText m).length) σ' ∧ (∀ i, A' i → A i ∨ we.heap.size ≤ i) ∧
    ((ρ.dead = true ∧ idv = 0 ∧ ev = 6 ∧ σ' = σ ∧ SpAt w A' d L s mw N (Pm ρ.l) lv true W w') ∨
     (ρ.dead = false ∧ stop = true ∧ idv = 0 ∧ ev = 6 ∧ SpAt w A' d L s mw N (Pm ρ.l) lv true W w' ∧ Inv σ' ρ.l lv (.put m)) ∨
     (ρ.dead = false ∧ idv = lv + 1 ∧ ev = 0 ∧ (σ.left = none → σ'.left = none) ∧ ∃ mb, SpAt w A' d (L + (mlText m).length) s mw (N + 1) (Pm (ρ.l ++ [(lv + 1, m, once (mlTo m))])) (lv + 1) false (putW W (lv + 1) mb) w' ∧ Dom (ρ.l ++ [(lv + 1, m, once (mlTo m))]) (putW W (lv + 1) mb) ∧ Alive σ' (ρ.l ++ [(lv + 1, m, once (mlTo m))]) (lv + 1))))

set_option maxHeartbeats 2000000 in
set_option maxRecDepth 20000 in
theorem put_none (ao : Option Addr) (cap : Nat) (fa fb dd : ByteArray) (we : World) :
    Calls Tryz.prog 21 #[ptr s, mailV fa fb (.slice ao 0 cap) dd] we fun e w' => e = .returned (.tuple #[.int .i64 0, .int .i64 2]) ∧ Fresh we w' := by
  have f0 : Fresh we (we.alloc (.cells #[.string fa, .string fb, .slice ao 0 cap, .string dd] 59)) := (Keeps.refl _ _).alloc _
  obtain ⟨_, _, c2, _, _⟩ := mcells (heap_new we (.cells #[.string fa, .string fb, .slice ao 0 cap, .string dd] 59))
  unfold ptr mailV at *
  go_enter Tryz.func21, Tryz.ntmps21
  go_upto_region 1 with fail
  generalize we.alloc (.cells #[.string fa, .string fb, .slice ao 0 cap, .string dd] 59) = w1 at *
  go_wp2_with fail
  go_ret2
  exact ⟨rfl, f0⟩

theorem runs_left {ws : List Wr} {k : Int} {σ σ' : Dk} (h : runs (ws.map Wr.rel) σ k σ') (hl : σ.left = none) : σ'.left = none := by
  induction ws generalizing σ with
  | nil =>
    obtain ⟨_, rfl⟩ := h
    exact hl
  | cons x ws ih =>
    obtain ⟨k1, σ1, h1, h2⟩ := h
    have e1 := Wr.leftN x (σ := σ) (σ' := σ1) (k := k1) hl h1
    rcases h2 with ⟨_, h2⟩ | ⟨_, _, rfl⟩
    · exact ih h2 e1
    · exact e1

theorem PS.put {we : World} (h : PS w t p d C L A σ stop s mw N W lv b r ρ we) (hG : Gl w) (hlt : lv + 1 ≤ t) (ht : t ≤ 1000000) (hC : C ≤ 1000000000) (hL : L ≤ 500000000) (fa fb dd : ByteArray) (tl : List Ltr) (hw : mlW (fa.data.toList, fb.data.toList, tl, dd.data.toList) ≤ 1048576) (ao : Option Addr) (cap : Nat)
    (hrd : ∀ j u, (tl.flatMap encL)[j]? = some u → ∃ g, ao = some ⟨g, 0, none⟩ ∧ we.cell? ⟨g, j, none⟩ = some u) (hxA : ∀ g, ao = some ⟨g, 0, none⟩ → ¬ A g ∧ g ≠ s) :
    Calls Tryz.prog 21 #[ptr s, mailV fa fb (.slice ao tl.length cap) dd] we fun e w' => ∃ idv ev, e = .returned (.tuple #[.int .i64 idv, .int .i64 ev]) ∧ PutRes w t d C L A σ stop s mw N W lv ρ (fa.data.toList, fb.data.toList, tl, dd.data.toList) idv ev we w' ∧ Keeps (fun i => A i ∨ i = s ∨ i = mw) we w' := by
  by_cases h0 : tl = []
  · subst h0
    refine (put_none ao cap fa fb dd we).mono ?_
    rintro e w' ⟨rfl, k⟩
    exact ⟨0, 2, rfl, .inl ⟨rfl, rfl, rfl, k⟩, k.ofFresh⟩
  · have hlw := toW_len tl
    have hwt : toW tl ≤ 1048576 := by unfold mlW at hw; simp only at hw; omega
    have hT := mlT_len hw
    have hTo := mlT_to (fa.data.toList, fb.data.toList, tl, dd.data.toList)
    have hK := K5_len t
    have hwgs : Wgs ρ.l lv := h.st.elim (fun c => c.al.inv.wgs) (fun c => c.may.elim (fun m => m.2.2.2.wgs) (fun m => m.2.2.wgs))
    have hlo := hwgs.lo
    have hnum := h.num
    have htt := toT_len hwt
    refine (put_any h.live hG h.sp fa fb dd ao cap tl (List.length_pos_iff.2 h0) (by omega) hlo (by omega) (by omega) (fun q hq => by have := toW_mem hq; unfold okA maxLen; omega) hrd hxA (by show (mlText (fa.data.toList, fb.data.toList, tl, dd.data.toList)).length ≤ _; omega) (by omega) hTo (by omega) (K5_new t) (K5_l (by omega) hlt) (K5_m (by omega) hlt) (by omega) (by omega)).mono ?_
    rintro e w' ⟨b', σ', A', hs, hl, hA', k, hres⟩
    have hm : MlOk (fa.data.toList, fb.data.toList, tl, dd.data.toList) := mlOk_of hw
    have key : ∃ idv ev, e = .returned (.tuple #[.int .i64 idv, .int .i64 ev]) ∧ PutRes w t d C L A σ stop s mw N W lv ρ (fa.data.toList, fb.data.toList, tl, dd.data.toList) idv ev we w' := by
      rcases h.st with c | c
      · have hb := c.b
        subst hb
        rcases hs with ⟨hb, _⟩ | ⟨_, kk, hr, hk⟩
        · cases hb
        have hp := c.al.put h.live.2.2.1 (by omega) hm h0 (K5_new t) (K5_l (by omega) hlt) (K5_m (by omega) hlt) hr
        rcases hres with ⟨rfl, rfl, hsp⟩ | ⟨rfl, rfl, mb, hsp⟩
        · rcases hp with ⟨_, h2, h3⟩ | ⟨h2, _⟩
          · refine ⟨0, 6, rfl, .inr ⟨h0, A', σ', hl, hA', .inr (.inl ⟨c.dead, ?_, rfl, rfl, hsp, h3⟩)⟩⟩
            cases hst : stop with
            | true => rfl
            | false => exact absurd (h.lft hst) h2
          · rcases hk with ⟨e1, _⟩ | ⟨_, e1⟩
            · cases e1
            · exact absurd h2 e1
        · rcases hp with ⟨h1, _⟩ | ⟨h2, hal⟩
          · rcases hk with ⟨_, e1⟩ | ⟨e1, _⟩
            · exact absurd e1 h1
            · cases e1
          · refine ⟨lv + 1, 0, rfl, .inr ⟨h0, A', σ', hl, hA', .inr (.inr ⟨c.dead, rfl, rfl, fun e => runs_left hr e, mb, hsp.monoP (fun n M hP => ?_), fun n => ?_, hal⟩)⟩⟩
            · rcases hP with ⟨g, hg, e1, e2⟩ | ⟨e1, e2⟩
              · exact ⟨g, List.mem_append_left _ hg, e1, e2⟩
              · exact ⟨_, List.mem_append_right _ (List.mem_singleton.2 rfl), e1.symm, e2⟩
            · unfold putW ids
              rw [List.map_append, List.mem_append]
              by_cases e1 : n = lv + 1
              · rw [if_pos e1]
                exact ⟨fun _ => .inr (by rw [e1]; simp), fun _ => rfl⟩
              · rw [if_neg e1, c.dom n]
                exact ⟨.inl, fun h => h.resolve_right (fun h2 => e1 (by simpa using h2))⟩
      · have hb := c.b
        subst hb
        rcases hs with ⟨_, hb', hσ⟩ | ⟨hb, _⟩
        · subst hb' hσ
          rcases hres with ⟨_, rfl, hsp⟩ | ⟨hb, _⟩
          · exact ⟨0, 6, rfl, .inr ⟨h0, A', σ', hl, hA', .inl ⟨c.dead, rfl, rfl, rfl, hsp⟩⟩⟩
          · cases hb
        · cases hb
    obtain ⟨idv, ev, e1, e2⟩ := key
    exact ⟨idv, ev, e1, e2, k⟩

end
end Go.Proofs.YtegbkpjcjlihmabGreatDoor

namespace Go.Proofs.YtegbkpjcjlihmabGreatDoor
open Go.RowKit Go.Maps Go.Sort Go.Lib

section
variable {w we wa wb wc w' : World} {t p d C L : Nat} {A T : Nat → Prop} {σ : Dk} {stop : Bool} {s mw N : Nat} {W : Waits} {lv : Int} {b : Bool} {r : Nat} {ρ : Rs} {m : Ml} {idv ev : Int}

def PNext5 (w : World) (t p d C L : Nat) (stop : Bool) (wr : World) : Prop := ∃ A σ s mw N W lv b r ρ, PS w t p d C L A σ stop s mw N W lv b r ρ wr

theorem PS.mono {C' L' : Nat} (h : PS w t p d C L A σ stop s mw N W lv b r ρ we) (hC : C ≤ C') (hL : L ≤ L') : PS w t p d C' L' A σ stop s mw N W lv b r ρ we :=
  ⟨h.live.mono hC hL, h.cell, h.pA, h.pw, h.sp.monoL hL, h.pS, h.ref, h.lft, h.top, h.lvt, h.num, h.sz, h.st⟩

theorem PS.wgs (h : PS w t p d C L A σ stop s mw N W lv b r ρ we) : Wgs ρ.l lv := h.st.elim (fun c => c.al.inv.wgs) (fun c => c.may.elim (fun m => m.2.2.2.wgs) (fun m => m.2.2.wgs))

theorem PNext5.fresh (h : PNext5 w t p d C L stop we) (k : Fresh we w') : PNext5 w t p d C L stop w' := by
  obtain ⟨A, σ, s, mw, N, W, lv, b, r, ρ, h⟩ := h
  exact ⟨A, σ, s, mw, N, W, lv, b, r, ρ, h.fresh k⟩

theorem PutRes.side (h : PutRes w t d C L A σ stop s mw N W lv ρ m idv ev wa wb) (k0 : Fresh we wa) (k : Keeps T wb wc) (hT : ∀ q, T q → w.heap.size ≤ q ∧ we.heap.size ≤ q ∧ q < wa.heap.size ∧ ¬ A q ∧ q ≠ s ∧ q ≠ mw ∧ (∀ n, W n ≠ some q) ∧ tag wb q = some 56) :
    PutRes w t d C L A σ stop s mw N W lv ρ m idv ev we wc := by
  have hk0 := k0.size
  rcases h with ⟨h1, h2, h3, k4⟩ | ⟨h1, A', σ', hl, hA', hc⟩
  · exact .inl ⟨h1, h2, h3, (k0.trans k4).then k (fun q hq e => by have := (hT q e).2.1; omega)⟩
  · have hnA : ∀ q, T q → ¬ A' q := fun q hq e => by
      obtain ⟨_, _, h4, h5, _⟩ := hT q hq
      rcases hA' q e with e | e
      · exact h5 e
      · omega
    have hsd : ∀ q, T q → q ≠ s ∧ q ≠ mw ∧ ∀ n, W n ≠ some q := fun q hq => let ⟨_, _, _, _, a, b, c, _⟩ := hT q hq; ⟨a, b, c⟩
    refine .inr ⟨h1, A', σ', hl.side k (fun i hi e => hnA i e hi) (fun i e => (hT i e).1), fun i hi => (hA' i hi).elim .inl (fun e => .inr (by omega)), ?_⟩
    rcases hc with ⟨a1, a2, a3, a4, a5⟩ | ⟨a1, a2, a3, a4, a5, a6⟩ | ⟨a1, a2, a3, a4, mb, a5, a6, a7⟩
    · exact .inl ⟨a1, a2, a3, a4, a5.side k hsd⟩
    · exact .inr (.inl ⟨a1, a2, a3, a4, a5.side k hsd, a6⟩)
    · refine .inr (.inr ⟨a1, a2, a3, a4, mb, a5.side k (fun q hq => ⟨(hsd q hq).1, (hsd q hq).2.1, fun n e => ?_⟩), a6, a7⟩)
      obtain ⟨_, _, nn, c, M, _, h3, _⟩ := a5.lft n q e
      obtain ⟨_, _, _, _, _, _, _, hh⟩ := hT q hq
      have t1 := h3.tag
      rw [hh] at t1
      exact absurd (Option.some.inj t1) (by decide)

theorem AdAt.into {S : Nat → Prop} {w6 : World} {v : Value} {l : List Ltr} (h : AdAt w (fun q => w.heap.size ≤ q) v l) (hq : ∀ q, q < w.heap.size → w6.heap[q]? = w.heap[q]?) (hz : w.heap.size ≤ w6.heap.size) (hS : ∀ q, S q → w.heap.size ≤ q) : AdAt w6 S v l := by
  obtain ⟨ao, cap, e1, e2, e3⟩ := h
  refine ⟨ao, cap, e1, fun hn => ?_, fun bb off e hn => ⟨fun hb => ?_, by have := (e3 bb off e hn).2; omega⟩⟩
  · obtain ⟨bb, off, e4, e5⟩ := e2 hn
    refine ⟨bb, off, e4, fun i x hx => ?_⟩
    have hb := hq bb (e3 bb off e4 hn).2
    obtain ⟨q0, q1⟩ := e5 i x hx
    simp only [World.cell?] at q0 q1 ⊢
    rw [hb]
    exact ⟨q0, q1⟩
  · have h1 := (e3 bb off e hn).2
    have h2 := hS bb hb
    omega

set_option maxHeartbeats 16000000 in
set_option maxRecDepth 100000 in
theorem putP (h : PS w t p d C L A σ stop s mw N W lv b r ρ we) (hG : Gl w) (hlt : lv + 1 ≤ t) (hln : ρ.l.length + 1 ≤ t) (hN1 : N + 1 ≤ 2 * t + 5) (ht : t ≤ 1000000) (hC : C ≤ 1000000000) (hL : L ≤ 500000000) (fa fb dd : ByteArray) (ao : Option Addr) (cap : Nat) (tl : List Ltr) (hw : mlW (fa.data.toList, fb.data.toList, tl, dd.data.toList) ≤ 1048576) (hin : AdAt w (fun q => w.heap.size ≤ q) (.slice ao tl.length cap) tl) :
    Calls Tryz.prog 34 #[ptr p, mailV fa fb (.slice ao tl.length cap) dd] we fun e w' => e = .returned (.bool true) ∧ PNext5 w t p d (C + 6) (L + (mlText (fa.data.toList, fb.data.toList, tl, dd.data.toList)).length) stop w' := by
  have hww := h.live.2.2.2
  have hwz := hww.size
  have htl : tl.length ≤ 1048576 := by
    have := toW_len tl
    unfold mlW at hw
    simp only at hw
    omega
  obtain ⟨m, hm⟩ : ∃ m : Ml, m = (fa.data.toList, fb.data.toList, tl, dd.data.toList) := ⟨_, rfl⟩
  have HM : Hid (m = (fa.data.toList, fb.data.toList, tl, dd.data.toList)) := hm
  have HIN : Hid (AdAt w (fun q => w.heap.size ≤ q) (.slice ao tl.length cap) tl) := hin
  have HRDS : Hid (∀ W1, (∀ q, q < w.heap.size → W1.heap[q]? = w.heap[q]?) → AdRd W1 ao tl) := fun W1 hq hn => by
    obtain ⟨ao', cap', e1, e2, e3⟩ := HIN.out
    injection e1 with e1 _ _
    subst e1
    obtain ⟨bb, off, e4, e5⟩ := e2 hn
    refine ⟨bb, off, e4, fun i x hx => ?_⟩
    have hb := hq bb (e3 bb off e4 hn).2
    obtain ⟨q0, q1⟩ := e5 i x hx
    simp only [World.cell?] at q0 q1 ⊢
    rw [hb]
    exact ⟨q0, q1⟩
  have HP : Hid (PS w t p d C L A σ stop s mw N W lv b r ρ we) := h
  have f0 : Fresh we (we.alloc (.cells #[.string fa, .string fb, .slice ao tl.length cap, .string dd] 30)) := (Keeps.refl _ _).alloc _
  have hx0 := heap_new we (.cells #[.string fa, .string fb, .slice ao tl.length cap, .string dd] 30)
  have hgiven := given_any fa fb dd ao cap tl (we.alloc (.cells #[.string fa, .string fb, .slice ao tl.length cap, .string dd] 30)) (by omega) (HRDS.out _ (fun q hq => (hww.trans f0).block q hq (fun e => e)))
  have hA : ∀ i, A i → i < we.heap.size := fun i hi => (h.live.1 i hi).2
  have hsl := h.sp.lt
  have hml := h.sp.wt.lt
  have hpl := h.lt
  have HF0 : Hid (Fresh we (we.alloc (.cells #[.string fa, .string fb, .slice ao tl.length cap, .string dd] 30))) := f0
  clear h hin hm
  unfold ptr mailV at *
  go_enter Tryz.func34, Tryz.ntmps34
  go_upto_region 1 with fail
  generalize we.alloc (.cells #[.string fa, .string fb, .slice ao tl.length cap, .string dd] 30) = w0 at *
  obtain ⟨x0, x1, x2, x3, _⟩ := mcells hx0
  have hw0 := f0.size
  have hlt0 := heap_lt hx0
  go_wp2_with fail
  refine hgiven.mono ?_
  rintro e w1 ⟨tv, rfl, hrow, k1⟩
  obtain ⟨ta, tc, rfl, _, _, hta⟩ := own_form hrow
  have hTb : ∀ q, (Value.slice ta tl.length tc).ownBlock = some q → w0.heap.size ≤ q ∧ q < w1.heap.size := fun q hq => hrow.lt q hq
  have f2 : Fresh w1 (w1.alloc (.cells #[.string fa, .string fb, .slice ta tl.length tc, .string dd] 59)) := (Keeps.refl _ _).alloc _
  have hm2 := heap_new w1 (.cells #[.string fa, .string fb, .slice ta tl.length tc, .string dd] 59)
  have hx2' := (k1.trans f2).heap hx0 (fun e => e)
  have HR2 : Hid ((w1.alloc (.cells #[.string fa, .string fb, .slice ta tl.length tc, .string dd] 59)).ownsRow w0.heap.size 56 2 (.slice ta tl.length tc) tl.length (tl.flatMap encL)) := f2.owns hrow (fun _ _ e => e)
  have HK02 : Hid (Fresh we (w1.alloc (.cells #[.string fa, .string fb, .slice ta tl.length tc, .string dd] 59))) := (HF0.out.trans k1).trans f2
  have HP2 : Hid (PS w t p d C L A σ stop s mw N W lv b r ρ (w1.alloc (.cells #[.string fa, .string fb, .slice ta tl.length tc, .string dd] 59))) := HP.out.fresh ((HF0.out.trans k1).trans f2)
  have hw1 := k1.size
  have hw2 := heap_lt hm2
  clear hgiven hrow k1 f2 x0 x1 x2 x3 hx0 f0
  go_upto_region 2 with fail
  generalize w1.alloc (.cells #[.string fa, .string fb, .slice ta tl.length tc, .string dd] 59) = w2 at *
  obtain ⟨n0, n1, n2, n3, _⟩ := mcells hm2
  have c1 := (mcells HP2.out.cell).2.1
  have hput := (HP2.out.fresh ((Keeps.refl (fun _ => False) w2).drew)).put hG hlt ht hC hL fa fb dd tl hw ta tc (rowA_cells (show w2.drew.ownsRow w0.heap.size 56 2 (.slice ta tl.length tc) tl.length (tl.flatMap encL) from HR2.out)) (fun q hq => by
    have := hTb q (by rw [hq]; rfl)
    exact ⟨fun e => by have := hA q e; omega, by omega⟩)
  have hpS := HP.out.pS
  have hpA := HP.out.pA
  have HC : Hid (∀ W1, Keeps (fun i => A i ∨ i = s ∨ i = mw) w2 W1 → W1.cell? ⟨p, 1, none⟩ = some (.pointer (some ⟨s, 0, none⟩)) ∧ W1.cell? ⟨w1.heap.size, 0, none⟩ = some (.string fa) ∧ W1.cell? ⟨w1.heap.size, 1, none⟩ = some (.string fb) ∧ W1.cell? ⟨w1.heap.size, 2, none⟩ = some (.slice ta tl.length tc) ∧ W1.cell? ⟨w1.heap.size, 3, none⟩ = some (.string dd)) := fun W1 k => by
    have hnp : ¬ (A p ∨ p = s ∨ p = mw) := fun e => e.elim hpA (fun e => e.elim hpS.1 hpS.2.1)
    have hnn : ¬ (A w1.heap.size ∨ w1.heap.size = s ∨ w1.heap.size = mw) := fun e => by
      rcases e with e | e | e
      · have := hA _ e; omega
      · omega
      · omega
    exact ⟨cell_keeps k c1 hnp, cell_keeps k n0 hnn, cell_keeps k n1 hnn, cell_keeps k n2 hnn, cell_keeps k n3 hnn⟩
  unfold ptr mailV at hput
  go_region_held3 (fun W1 => W1.cell? ⟨p, 1, none⟩ = some (.pointer (some ⟨s, 0, none⟩)) ∧ W1.cell? ⟨w1.heap.size, 0, none⟩ = some (.string fa) ∧ W1.cell? ⟨w1.heap.size, 1, none⟩ = some (.string fb) ∧ W1.cell? ⟨w1.heap.size, 2, none⟩ = some (.slice ta tl.length tc) ∧ W1.cell? ⟨w1.heap.size, 3, none⟩ = some (.string dd)) (first | exact HC.out _ ((Keeps.refl _ w2).drew) | exact HC.out _ kA) (first | (go_at_call 21; refine hput.mono ?_; rintro e w4 ⟨idv, ev, rfl, hres, k4⟩; have kA : Keeps (fun i => A i ∨ i = s ∨ i = mw) w2 w4 := ((Keeps.refl _ w2).drew).trans k4))
  have HRES : Hid (PutRes w t d C L A σ stop s mw N W lv ρ m idv ev w2 w4) := by
    show PutRes w t d C L A σ stop s mw N W lv ρ m idv ev w2 w4
    rw [HM.out]
    exact hres.side ((Keeps.refl (fun _ => False) w2).drew) (Keeps.refl (fun _ => False) w4) (fun q e => e.elim)
  have HKA : Hid (Keeps (fun i => A i ∨ i = s ∨ i = mw) w2 w4) := kA
  have hnbig : ∀ q, we.heap.size ≤ q → ¬ (A q ∨ q = s ∨ q = mw) := fun q hq e => by
    rcases e with e | e | e
    · have := hA _ e; omega
    · omega
    · omega
  have hm4 := kA.heap hm2 (hnbig _ (by omega))
  have hx4 := kA.heap hx2' (hnbig _ (by omega))
  have HR4 : Hid (w4.ownsRow w0.heap.size 56 2 (.slice ta tl.length tc) tl.length (tl.flatMap encL)) := kA.owns HR2.out (fun q hq => hnbig q (by have := hTb q hq; omega))
  have hww4 : ∀ q, q < w.heap.size → w4.heap[q]? = w.heap[q]? := fun q hq => by
    have h1 := (hww.trans HK02.out).block q hq (fun e => e)
    have h2 := kA.block q (by have := HK02.out.size; omega) (fun e => by
      rcases e with e | e | e
      · have := (HP.out.live.1 q e).1; omega
      · have := HP.out.sp.wS; omega
      · have := HP.out.sp.wM; omega)
    exact h2.trans h1
  have hsame := same_true fa fb dd ta ao tc cap tl w4 (by omega) (rowRd HR4.out) (HRDS.out w4 hww4)
  have hz4 := kA.size
  clear hput hres k4 n0 n1 n2 n3 c1 HC hm2 hx2' kA
  unfold mailV at hsame
  obtain ⟨n0, n1, n2, n3, _⟩ := mcells hm4
  obtain ⟨x0, x1, x2, x3, _⟩ := mcells hx4
  go_wp2_with fail
  refine hsame.mono ?_
  rintro e w5 ⟨rfl, k5⟩
  have hm5 := k5.heap hm4 (fun e => e)
  have hx5 := k5.heap hx4 (fun e => e)
  have HR5 : Hid (w5.ownsRow w0.heap.size 56 2 (.slice ta tl.length tc) tl.length (tl.flatMap encL)) := k5.owns HR4.out (fun _ _ e => e)
  have HK5 : Hid (Fresh w4 w5) := k5
  clear hsame n0 n1 n2 n3 x0 x1 x2 x3 hm4 hx4 k5 HR2 HR4
  obtain ⟨n0, n1, n2, n3, _⟩ := mcells hm5
  go_wp2_with fail
  go_loopw [9] (fun t9 wz => ∃ (j : Nat) (ys : List Value), j ≤ tl.length ∧ t9 = .int .i64 j ∧ wz.ownsRow w0.heap.size 56 2 (.slice ta tl.length tc) tl.length ys ∧ Keeps (fun q => (Value.slice ta tl.length tc).ownBlock = some q) w5 wz) (fun t9 _ => tl.length - (intOf t9).toNat)
  case atStart => exact ⟨0, _, Nat.zero_le _, rfl, HR5.out, Keeps.refl _ _⟩
  case round =>
    obtain ⟨j, ys, hj1, rfl, hM6, k6⟩ := hrel
    have HM6 : Hid (wr.ownsRow w0.heap.size 56 2 (.slice ta tl.length tc) tl.length ys) := hM6
    have Hk6 : Hid (Keeps (fun q => (Value.slice ta tl.length tc).ownBlock = some q) w5 wr) := k6
    have hmr := k6.heap hm5 (fun e => by have := hTb _ e; omega)
    have hxr := k6.heap hx5 (fun e => by have := hTb _ e; omega)
    obtain ⟨_, _, nn2, _, _⟩ := mcells hmr
    obtain ⟨y0, y1, y2, y3, _⟩ := mcells hxr
    have hys : ys.length = tl.length * 2 := hM6.1
    clear hM6 k6 n0 n1 n2 n3
    by_cases hjt : j < tl.length
    · obtain ⟨gm, rfl⟩ := hta (by omega)
      obtain ⟨u0, hu0⟩ : ∃ u, ys[j * 2]? = some u := ⟨ys[j * 2]'(by omega), List.getElem?_eq_getElem _⟩
      obtain ⟨u1, hu1⟩ : ∃ u, ys[j * 2 + 1]? = some u := ⟨ys[j * 2 + 1]'(by omega), List.getElem?_eq_getElem _⟩
      have q3 := HM6.out.cellAt (j * 2) (by omega)
      have q4 := HM6.out.cellAt (j * 2 + 1) (by omega)
      rw [hu0] at q3
      rw [hu1] at q4
      have f3 := HM6.out.frozenAt (j * 2)
      have f4 := HM6.out.frozenAt (j * 2 + 1)
      have z0 : (0 : Int) ≤ (j : Int) := by omega
      have z1 : (j : Int) < (tl.length : Int) := by omega
      clear hu0 hu1 hys y0 y1 y2 y3
      go_wp2_with fail
      go_roundw
      case rel =>
        have hM9 := ((HM6.out.stored (j * 2) (.string ⟨#[]⟩)).1.stored (j * 2 + 1) (.string ⟨#[]⟩)).1
        have kA := (((Keeps.refl (fun q => (Value.slice (some ⟨gm, 0, none⟩) tl.length tc).ownBlock = some q) wr)).setCell (p := ⟨gm, j * 2, none⟩) (fun _ => rfl) (.string ⟨#[]⟩)).setCell (p := ⟨gm, j * 2 + 1, none⟩) (fun _ => rfl) (.string ⟨#[]⟩)
        exact ⟨j + 1, _, by omega, by go_num, hM9, Hk6.out.trans kA⟩
      case measure => simp [intOf]; omega
    · have ej : j = tl.length := by omega
      have z1 : ¬ (j : Int) < (tl.length : Int) := by omega
      have HT6 : Hid (∀ q, (Value.slice ta tl.length tc).ownBlock = some q → tag w5 q = some 56) := fun q hq => owns_tag HR5.out hq
      have HRES6 : Hid (PutRes w t d C L A σ stop s mw N W lv ρ m idv ev we wr) := by
        refine (HRES.out).side (T := fun q => (Value.slice ta tl.length tc).ownBlock = some q) HK02.out ((HK5.out.ofFresh).trans Hk6.out) (fun q hq => ?_)
        have h1 := hTb q hq
        refine ⟨by omega, by omega, by omega, fun e => by have := hA q e; omega, by omega, by omega, fun n e => ?_, ?_⟩
        · obtain ⟨_, _, nn, c, M, _, h3, _⟩ := HP.out.sp.lft n q e
          have := h3.lt
          omega
        · have h2 := HT6.out q hq
          have h3 : w5.heap[q]? = w4.heap[q]? := HK5.out.block q (by omega) (fun e => e)
          unfold tag at h2 ⊢
          rw [h3] at h2
          exact h2
      have HKe : Hid (Keeps (fun i => A i ∨ i = s ∨ i = mw) we wr) := ((((HK02.out.ofFresh).trans HKA.out).trans (HK5.out.ofFresh))).then Hk6.out (fun q hq e => by have := hTb q e; omega)
      have HXR : Hid (wr.heap[we.heap.size]? = some (.cells #[.string fa, .string fb, .slice ao tl.length cap, .string dd] 30 (0, 0))) := hxr
      clear HRES HKA HK5 Hk6 HM6 hmr hys HT6 HR5 hm5 hx5
      generalize wr = w6 at *
      have hnps : ¬ (A p ∨ p = s ∨ p = mw) := fun e => e.elim hpA (fun e => e.elim hpS.1 hpS.2.1)
      have hc6 := HKe.out.heap HP.out.cell hnps
      have HC6 : Hid (w6.heap[p]? = some (pCells5 d s r stop)) := hc6
      obtain ⟨p0, p1, p2, p3, pf0, pf1, pf2, pf3⟩ := mcells hc6
      unfold ptr at p0 p1 p2
      have R6 := HP.out.ref.keep (S' := SS A s mw W p) HKe.out (fun q _ hn e => hn (by rcases e with e | e | e; exact .inl e; exact .inr (.inl e); exact .inr (.inr (.inl e)))) (fun _ _ e => e)
      have HR6 : Hid (RefAt (SS A s mw W p) r w.heap.size ρ w6) := R6
      have r2 := R6.at 2 _ rfl
      have hke := HKe.out.size
      have hmt : mlTo m = tl := by rw [HM.out]; rfl
      have HMT : Hid (mlTo m = tl) := hmt
      have HMW : Hid (mlW m ≤ 1048576) := by
        show mlW m ≤ 1048576
        rw [HM.out]; exact hw
      clear hc6 R6 hmt
      rcases HRES6.out with ⟨a1, a2, a3, a4⟩ | ⟨a1, A', σ', al, aA, acase⟩
      · rw [HMT.out] at a1
        have hl0 : tl.length = 0 := by rw [a1]; rfl
        have hlb : ((tl.length : Int) == 0) = true := by rw [hl0]; rfl
        have HF : Hid (PNext5 w t p d (C + 6) (L + (mlText m).length) stop w6) := ⟨A, σ, s, mw, N, W, lv, b, r, ρ, (HP.out.fresh a4).mono (by omega) (by omega)⟩
        subst a2 a3
        clear a1 hl0 a4
        go_wp2_with (go_at_call 19; refine (num5 _ _).mono ?_; rintro e w' ⟨rfl, hw'⟩; have hw' := hw'.symm; subst hw')
        go_ret
        exact ⟨rfl, by have := HF.out; rw [HM.out] at this; exact this⟩
      · have hlb : ((tl.length : Int) == 0) = false := beq_eq_false_iff_ne.2 (fun e => a1 (by rw [HMT.out]; exact List.length_eq_zero_iff.1 (by omega)))
        have HAL : Hid (Live w w6 A' d (K5 t) (C + 6) (L + (mlText m).length) σ') := al
        have HAA : Hid (∀ i, A' i → A i ∨ we.heap.size ≤ i) := aA
        have hpA' : ¬ A' p := fun e => (aA p e).elim hpA (fun e => by omega)
        have HRS : Hid (RefAt (SS A' s mw W p) r w.heap.size ρ w6) := HP.out.ref.keep HKe.out (fun q _ hn e => hn (by rcases e with e | e | e; exact .inl e; exact .inr (.inl e); exact .inr (.inr (.inl e)))) (fun q hq e => by
          rcases e with e | e
          · exact (aA q e).elim .inl (fun e => by omega)
          · exact .inr e)
        clear al aA
        rcases acase with ⟨b1, b2, b3, b4, b5⟩ | ⟨b1, b2, b3, b4, b5, b6⟩ | ⟨b1, b2, b3, b4, mb, b5, b6, b7⟩
        · subst b2 b3 b4
          rw [b1] at r2
          have HF : Hid (PNext5 w t p d (C + 6) (L + (mlText m).length) stop w6) := by
            refine ⟨A', σ', s, mw, N, W, lv, true, r, ρ, HAL.out, HC6.out, hpA', HP.out.pw, b5.monoL (by omega), hpS, HRS.out, HP.out.lft, HP.out.top, HP.out.lvt, HP.out.num, HP.out.sz, ?_⟩
            rcases HP.out.st with c | c
            · rw [c.dead] at b1; cases b1
            · exact .inr ⟨c.dead, rfl, c.may⟩
          clear b1 b5
          go_wp2_with (go_at_call 19; refine (num5 _ _).mono ?_; rintro e w' ⟨rfl, hw'⟩; have hw' := hw'.symm; subst hw')
          go_ret
          exact ⟨rfl, by have := HF.out; rw [HM.out] at this; exact this⟩
        · subst b2 b3 b4
          rw [b1] at r2
          have rf2 := HRS.out.fz 2
          have rf3 := HRS.out.fz 3
          have r3 := HRS.out.at 3 _ rfl
          have HIV : Hid (Inv σ' ρ.l lv (.put m)) := b6
          have b1' := b1
          have HB5 : Hid (SpAt w A' d L s mw N (Pm ρ.l) lv true W w6) := b5
          clear b1 b5 b6
          obtain ⟨ρ', hρ'⟩ : ∃ ρ' : Rs, ρ' = { ρ with dead := true, hp := true, pa := fa, pb := fb, pt := .slice ao tl.length cap, pd := dd, pto := tl } := ⟨_, rfl⟩
          have k7 : Keeps (fun q => q = r) w6 ((((((w6.setCell ⟨r, 2, none⟩ (.bool true)).setCell ⟨r, 3, none⟩ (.bool true)).setCell ⟨r, 4, none⟩ (.string fa)).setCell ⟨r, 5, none⟩ (.string fb)).setCell ⟨r, 6, none⟩ (.slice ao tl.length cap)).setCell ⟨r, 7, none⟩ (.string dd)) := ((((((Keeps.refl (fun q => q = r) w6).setCell (p := ⟨r, 2, none⟩) (fun _ => rfl) _).setCell (p := ⟨r, 3, none⟩) (fun _ => rfl) _).setCell (p := ⟨r, 4, none⟩) (fun _ => rfl) _).setCell (p := ⟨r, 5, none⟩) (fun _ => rfl) _).setCell (p := ⟨r, 6, none⟩) (fun _ => rfl) _).setCell (p := ⟨r, 7, none⟩) (fun _ => rfl) _
          have hr7 : ((((((w6.setCell ⟨r, 2, none⟩ (.bool true)).setCell ⟨r, 3, none⟩ (.bool true)).setCell ⟨r, 4, none⟩ (.string fa)).setCell ⟨r, 5, none⟩ (.string fb)).setCell ⟨r, 6, none⟩ (.slice ao tl.length cap)).setCell ⟨r, 7, none⟩ (.string dd)).heap[r]? = some (rCells ρ') := by
            rw [hρ']
            exact heap_setCell_at (heap_setCell_at (heap_setCell_at (heap_setCell_at (heap_setCell_at (heap_setCell_at HRS.out.cell 2 _) 3 _) 4 _) 5 _) 6 _) 7 _
          have hown := HRS.out.own
          have hrl := HRS.out.lt
          have hpin : AdAt w6 (fun q => SS A' s mw W p q ∨ q = r ∨ ρ.av.ownBlock = some q) (.slice ao tl.length cap) tl := by
            obtain ⟨ao', cap', e1, e2, e3⟩ := HIN.out
            injection e1 with e1 _ e1c
            subst e1 e1c
            have hrd6 : AdRd w6 ao tl := HRDS.out w6 (fun q hq => by
              have h1 := hww.block q hq (fun e => e)
              have h2 := HKe.out.block q (by omega) (fun e => by
                rcases e with e | e | e
                · have := (HP.out.live.1 q e).1; omega
                · have := HP.out.sp.wS; omega
                · have := HP.out.sp.wM; omega)
              exact h2.trans h1)
            refine ⟨ao, cap, rfl, hrd6, fun bb off e hn => ⟨fun hb => ?_, by have := (e3 bb off e hn).2; omega⟩⟩
            have hlt' := (e3 bb off e hn).2
            rcases hb with hb | hb
            · rcases hb with hb | hb | hb | ⟨n, hb⟩ | hb
              · have := (HAL.out.1 bb hb).1; omega
              · have := HP.out.sp.wS; omega
              · have := HP.out.sp.wM; omega
              · have := (HB5.out.lft n bb hb).1; omega
              · have := HP.out.pw; omega
            · have := (hown bb hb).2; omega
          have R7 : RefAt (SS A' s mw W p) r w.heap.size ρ' ((((((w6.setCell ⟨r, 2, none⟩ (.bool true)).setCell ⟨r, 3, none⟩ (.bool true)).setCell ⟨r, 4, none⟩ (.string fa)).setCell ⟨r, 5, none⟩ (.string fb)).setCell ⟨r, 6, none⟩ (.slice ao tl.length cap)).setCell ⟨r, 7, none⟩ (.string dd)) := HRS.out.upd hr7 k7 (by rw [hρ']) (by rw [hρ']) (by rw [hρ']) (by rw [hρ']; exact hpin)
          have hnr : ∀ q, q = r → ¬ SS A' s mw W p q ∧ w.heap.size ≤ q := fun q e => hown q (.inl e)
          have HF : Hid (PNext5 w t p d (C + 6) (L + (mlText m).length) true ((((((w6.setCell ⟨r, 2, none⟩ (.bool true)).setCell ⟨r, 3, none⟩ (.bool true)).setCell ⟨r, 4, none⟩ (.string fa)).setCell ⟨r, 5, none⟩ (.string fb)).setCell ⟨r, 6, none⟩ (.slice ao tl.length cap)).setCell ⟨r, 7, none⟩ (.string dd))) := by
            have hl' : ρ'.l = ρ.l := by rw [hρ']
            refine ⟨A', σ', s, mw, N, W, lv, true, r, ρ', HAL.out.side k7 (fun q hq e => (hnr q e).1 (.inl hq)) (fun q e => (hnr q e).2), k7.heap HC6.out (fun e => (hnr p e).1 (.inr (.inr (.inr (.inr rfl))))), hpA', HP.out.pw, ?_, hpS, R7, (fun e => by cases e), by rw [hρ']; exact HP.out.top, HP.out.lvt, by rw [hl']; exact HP.out.num, by rw [hl']; exact HP.out.sz, .inr ⟨by rw [hρ'], rfl, .inl ⟨by rw [hρ'], ?_, ?_, ?_⟩⟩⟩
            · rw [hl']
              exact (HB5.out.side k7 (fun q e => ⟨fun e2 => (hnr q e).1 (.inr (.inl e2)), fun e2 => (hnr q e).1 (.inr (.inr (.inl e2))), fun n e2 => (hnr q e).1 (.inr (.inr (.inr (.inl ⟨n, e2⟩))))⟩)).monoL (by omega)
            · rcases HP.out.st with c | c
              · rw [hρ']; exact c.hd
              · exact absurd c.dead (by rw [b1']; decide)
            · have : pml ρ' = m := by rw [hρ', HM.out]; rfl
              rw [this]; exact HMW.out
            · have : pml ρ' = m := by rw [hρ', HM.out]; rfl
              rw [this, hl']; exact HIV.out
          clear k7 hr7 R7 hpin hown hnr
          have r4 : w6.cell? ⟨r, 4, none⟩ = some (.string ρ.pa) := HRS.out.at 4 _ rfl
          have r5 : w6.cell? ⟨r, 5, none⟩ = some (.string ρ.pb) := HRS.out.at 5 _ rfl
          have r6 : w6.cell? ⟨r, 6, none⟩ = some ρ.pt := HRS.out.at 6 _ rfl
          have r7 : w6.cell? ⟨r, 7, none⟩ = some (.string ρ.pd) := HRS.out.at 7 _ rfl
          have rf4 := HRS.out.fz 4
          have rf5 := HRS.out.fz 5
          have rf6 := HRS.out.fz 6
          have rf7 := HRS.out.fz 7
          have hrp : r ≠ p := fun e => HRS.out.nS (.inr (.inr (.inr (.inr e))))
          have hrx : r ≠ we.heap.size := by
            have := HP.out.ref.lt
            omega
          go_wp2_with (go_at_call 19; refine (num5 _ _).mono ?_; rintro e w' ⟨rfl, hw'⟩; have hw' := hw'.symm; subst hw')
          go_region
          go_wp2_with fail
          go_ret
          exact ⟨rfl, by have := HF.out.fresh ((Keeps.refl (fun _ => False) _).drew); rw [HM.out] at this; exact this⟩
        · subst b2 b3
          rw [b1] at r2
          have b1' := b1
          obtain ⟨b5w, b5a, nn, cc, MM, b5n, b5l, b5o, b5p⟩ := b5.lft (lv + 1) mb (by unfold putW; rw [if_pos rfl])
          have HLM : Hid (LeftAt w6 mb nn cc MM) := b5l
          have hmbp : mb ≠ p := fun e => by
            have t1 := b5l.tag
            have t2 := tag_cells (cs := #[ptr d, ptr s, ptr r, .bool stop]) HC6.out
            rw [e, t2] at t1
            exact absurd (Option.some.inj t1) (by decide)
          have hSS : ∀ q, SS A' s mw (putW W (lv + 1) mb) p q → SS A' s mw W p q ∨ q = mb := fun q hq => by
            rcases hq with e | e | e | ⟨n, e⟩ | e
            · exact .inl (.inl e)
            · exact .inl (.inr (.inl e))
            · exact .inl (.inr (.inr (.inl e)))
            · unfold putW at e
              split at e
              · exact .inr (Option.some.inj e).symm
              · exact .inl (.inr (.inr (.inr (.inl ⟨n, e⟩))))
            · exact .inl (.inr (.inr (.inr (.inr e))))
          have RS2 : RefAt (SS A' s mw (putW W (lv + 1) mb) p) r w.heap.size ρ w6 := (HRS.out.addMap b5l).keep (Keeps.refl (fun _ => False) w6) (fun _ _ _ e => e) (fun q _ hq => hSS q hq)
          have hSl : ∀ q, SS A' s mw (putW W (lv + 1) mb) p q → q < w6.heap.size ∧ w.heap.size ≤ q := fun q hq => by
            rcases hq with e | e | e | ⟨n, e⟩ | e
            · have := HAL.out.1 q e; exact ⟨this.2, this.1⟩
            · have := HP.out.sp.wS; omega
            · have := HP.out.sp.wM; omega
            · obtain ⟨h1, _, _, _, _, _, h3, _⟩ := b5.lft n q e
              exact ⟨h3.lt, h1⟩
            · have := HP.out.pw; omega
          have hown := RS2.own
          have hpin : AdAt w6.drew (fun q => SS A' s mw (putW W (lv + 1) mb) p q ∨ q = r ∨ ρ.av.ownBlock = some q) (.slice ao tl.length cap) tl := HIN.out.into (fun q hq => by
              have h1 := hww.block q hq (fun e => e)
              have h2 := HKe.out.block q (by omega) (fun e => by
                rcases e with e | e | e
                · have := (HP.out.live.1 q e).1; omega
                · have := HP.out.sp.wS; omega
                · have := HP.out.sp.wM; omega)
              exact h2.trans h1) (by show w.heap.size ≤ w6.heap.size; omega) (fun q hq => hq.elim (fun e => (hSl q e).2) (fun e => (hown q e).2))
          have hlv0 : ρ.top < lv + 1 := by have := HP.out.top; omega
          have hlv1 : 0 < lv + 1 := by have := HP.out.wgs.lo; omega
          have htook := took5 (RS2.fresh ((Keeps.refl (fun _ => False) w6).drew)) (fun q hq => (hSl q hq).1) (lv + 1) fa fb dd (.slice ao tl.length cap) tl hpin (by omega) (by omega) hlv0 hlv1
          have HC7 : Hid (∀ W1, Keeps (fun q => q = r ∨ ρ.av.ownBlock = some q) w6 W1 → W1.cell? ⟨p, 2, none⟩ = some (.pointer (some ⟨r, 0, none⟩)) ∧ W1.cell? ⟨we.heap.size, 0, none⟩ = some (.string fa) ∧ W1.cell? ⟨we.heap.size, 1, none⟩ = some (.string fb) ∧ W1.cell? ⟨we.heap.size, 2, none⟩ = some (.slice ao tl.length cap) ∧ W1.cell? ⟨we.heap.size, 3, none⟩ = some (.string dd)) := fun W1 k => by
            have hnp : ¬ (p = r ∨ ρ.av.ownBlock = some p) := fun e => (hown p e).1 (.inr (.inr (.inr (.inr rfl))))
            have hnn : ¬ (we.heap.size = r ∨ ρ.av.ownBlock = some we.heap.size) := fun e => by
              have h1 := HP.out.ref.lt
              rcases e with e | e
              · omega
              · have := (HP.out.ref.row.lt _ e).2; omega
            exact ⟨cell_keeps k p2 hnp, cell_keeps k y0 hnn, cell_keeps k y1 hnn, cell_keeps k y2 hnn, cell_keeps k y3 hnn⟩
          have HRS2 : Hid (RefAt (SS A' s mw (putW W (lv + 1) mb) p) r w.heap.size ρ w6) := RS2
          have HB5 : Hid (SpAt w A' d (L + (mlText m).length) s mw (N + 1) (Pm (ρ.l ++ [(lv + 1, m, once (mlTo m))])) (lv + 1) false (putW W (lv + 1) mb) w6) := b5
          have HB6 : Hid (Dom (ρ.l ++ [(lv + 1, m, once (mlTo m))]) (putW W (lv + 1) mb)) := b6
          have HB7 : Hid (Alive σ' (ρ.l ++ [(lv + 1, m, once (mlTo m))]) (lv + 1)) := b7
          have HB4 : Hid (σ.left = none → σ'.left = none) := b4
          have HB1 : Hid (ρ.dead = false) := b1
          clear RS2 b1 b4 b5 b6 b7 b5w b5a b5n b5l b5o b5p hpin hSl hlv0 hlv1 hSS b1'
          unfold ptr mailV at htook
          have h06 : ((0 : Int) == 6) = false := rfl
          go_wp2_with (go_at_call 19; refine (num5 _ _).mono ?_; rintro e w' ⟨rfl, hw'⟩; have hw' := hw'.symm; subst hw')
          go_region_held3 (fun W1 => W1.cell? ⟨p, 2, none⟩ = some (.pointer (some ⟨r, 0, none⟩)) ∧ W1.cell? ⟨we.heap.size, 0, none⟩ = some (.string fa) ∧ W1.cell? ⟨we.heap.size, 1, none⟩ = some (.string fb) ∧ W1.cell? ⟨we.heap.size, 2, none⟩ = some (.slice ao tl.length cap) ∧ W1.cell? ⟨we.heap.size, 3, none⟩ = some (.string dd)) (first | exact HC7.out _ ((Keeps.refl _ w6).drew) | exact HC7.out _ kA) (first | (go_at_call 23; refine htook.mono ?_; rintro e w7 ⟨rfl, av, y, hr7, k7⟩; have kA : Keeps (fun q => q = r ∨ ρ.av.ownBlock = some q) w6 w7 := ((Keeps.refl _ w6).drew).trans k7))
          have HF : Hid (PNext5 w t p d (C + 6) (L + (mlText m).length) stop w7) := by
            have hm' : ((fa.data.toList, fb.data.toList, tl, dd.data.toList) : Ml) = m := HM.out.symm
            have ho : once tl = once (mlTo m) := by rw [HMT.out]
            rw [hm', ho] at hr7
            refine ⟨A', σ', s, mw, N + 1, putW W (lv + 1) mb, lv + 1, false, r, ρ.took av y (lv + 1, m, once (mlTo m)), HAL.out.side kA (fun q hq e => (hown q e).1 (.inl hq)) (fun q e => (hown q e).2), kA.heap HC6.out (fun e => (hown p e).1 (.inr (.inr (.inr (.inr rfl))))), hpA', HP.out.pw, HB5.out.side kA (fun q e => ⟨fun e2 => (hown q e).1 (.inr (.inl e2)), fun e2 => (hown q e).1 (.inr (.inr (.inl e2))), fun n e2 => (hown q e).1 (.inr (.inr (.inr (.inl ⟨n, e2⟩))))⟩), ⟨hpS.1, hpS.2.1, fun n e => ?_⟩, hr7, fun e => HB4.out (HP.out.lft e), Int.le_refl _, hlt, ⟨hN1, ?_⟩, ?_, .inl ⟨HB1.out, rfl, ?_, ?_, HB6.out, HB7.out⟩⟩
            · unfold putW at e
              split at e
              · exact hmbp (Option.some.inj e)
              · exact hpS.2.2 n e
            · show (ρ.l ++ _).length ≤ t
              rw [List.length_append]; exact hln
            · intro g hg
              rcases List.mem_append.1 hg with e | e
              · exact HP.out.sz g e
              · rw [List.mem_singleton.1 e]; exact HMW.out
            · rcases HP.out.st with c | c
              · exact c.hp
              · exact absurd c.dead (by rw [HB1.out]; decide)
            · rcases HP.out.st with c | c
              · exact c.hd
              · exact absurd c.dead (by rw [HB1.out]; decide)
          clear htook hr7 k7 kA
          go_wp2_with (go_at_call 19; refine (num5 _ _).mono ?_; rintro e w' ⟨rfl, hw'⟩; have hw' := hw'.symm; subst hw')
          go_ret
          exact ⟨rfl, by have := HF.out; rw [HM.out] at this; exact this⟩

end
end Go.Proofs.YtegbkpjcjlihmabGreatDoor
