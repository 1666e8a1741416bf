/-
  Two disks side by side: the one is copied onto the other. | An Open of the second disk. | What came in, seen from a later world. | The files of a spool copied: what stands on the way; Put on the second spool, and what it leaves.
-/
import Derived.Test.YtegbkpjcjlihmabGreatDoorIl
namespace Go.Proofs.YtegbkpjcjlihmabGreatDoor
open Go.RowKit Go.Maps Go.Sort Go.Lib

section
variable {w wr w' : World} {d d2 C C2 L : Nat} {A A2 : Nat → Prop} {σ τ : Dk} {K : List Text} {ds : List Text}

/-- the files are no longer than L -/
theorem Fits.shrink {L' : Nat} (h : Fits K C L σ) (hs : Sizes σ L') : Fits K C L' σ := ⟨h.setK, h.setIn, h.setInj, h.setNow, h.chgs, hs, h.left⟩

/-- two disks, their blocks apart -/
structure Two (w : World) (d d2 C C2 L : Nat) (K : List Text) (A A2 : Nat → Prop) (σ τ : Dk) (wr : World) : Prop where
  one : Live w wr A d K C L σ
  two : Live w wr A2 d2 K C2 L τ
  off : ∀ i, A2 i → ¬ A i

theorem Two.fresh (h : Two w d d2 C C2 L K A A2 σ τ wr) (k : Fresh wr w') : Two w d d2 C C2 L K A A2 σ τ w' := ⟨h.one.fresh k, h.two.fresh k, h.off⟩

/-- a call of the second lies behind it -/
theorem Two.next {A3 : Nat → Prop} {τ' : Dk} {C3 L3 : Nat} (h : Two w d d2 C C2 L K A A2 σ τ wr) (hl : Live w w' A3 d2 K C3 L3 τ') (k : Keeps A2 wr w') (hA : ∀ i, A3 i → A2 i ∨ wr.heap.size ≤ i) (hs : Sizes τ' L) : Two w d d2 C C3 L K A A3 σ τ' w' :=
  ⟨h.one.side k (fun i hi e => h.off i e hi) (fun i e => (h.two.1 i e).1), hl.fits (hl.2.2.1.shrink hs), fun i hi e => (hA i hi).elim (fun q => h.off i q e) (fun q => by have := (h.one.1 i e).2; omega)⟩

/-- the first was read -/
theorem Two.seen (h : Two w d d2 C C2 L K A A2 σ τ wr) (hl : Live w w' A d K C L σ) (k : Keeps A wr w') : Two w d d2 C C2 L K A A2 σ τ w' :=
  ⟨hl, h.two.side k (fun i hi e => h.off i hi e) (fun i e => (h.one.1 i e).1), h.off⟩

theorem created_empty {τ1 : Dk} {s : Text} {k : Int} (hl : τ.left = none) (hn : τ.now s = none) (hc : τ.creates s k τ1) : ∀ x, τ1.now s = some x → τ1.cont x = [] := by
  rcases hc with ⟨q, _⟩ | ⟨_, q, _⟩ | ⟨_, _, x, _, _, rfl⟩
  · rw [live_not_dead hl] at q; cases q
  · rw [hn] at q; cases q
  · intro y hy
    have e1 : ((τ.tick.add x).did (.create s x)).now = putN τ.now s x := rfl
    have c1 : ((τ.tick.add x).did (.create s x)).cont = upd τ.cont x [] := rfl
    rw [e1] at hy
    unfold putN at hy
    rw [if_pos rfl] at hy
    obtain rfl := Option.some.inj hy
    rw [c1]
    exact upd_same _ _ _

theorem append_sizes {τ1 : Dk} {s t : Text} {k : Int} (h : Sizes τ L) (hin : ∀ s x, τ.now s = some x → x ∈ τ.files) (he : ∀ x, τ.now s = some x → τ.cont x = []) (ht : t.length ≤ L) (ha : τ.appends s t k τ1) : Sizes τ1 L := by
  rcases ha with ⟨_, _, rfl⟩ | ⟨_, _, _, rfl⟩ | ⟨_, x, hx, _, rfl⟩
  · exact h
  · exact h
  · have h1 := h x (hin s x hx)
    have h2 := he x hx
    have h3 : Sizes τ.tick L := h
    refine h3.wrote x ?_ ?_
    · rw [h2] at h1
      have : τ.sure x ≤ 0 := h1.1
      omega
    · rw [h2]
      exact ht

end

end Go.Proofs.YtegbkpjcjlihmabGreatDoor

namespace Go.Proofs.YtegbkpjcjlihmabGreatDoor
open Go.RowKit Go.Maps Go.Sort Go.Lib

section
variable {w we : World} {t d C L : Nat} {A : Nat → Prop} {σ : Dk} {l : List Wg} {lv : Int}

theorem open2 (h : Live w we A d (K5 t) C L σ) (hG : Gl w) (h8 : 8 ≤ w.heap.size) (ht : t ≤ 1000000) (hC : C ≤ 1000000000) (hL : L ≤ 500000000) (hN : NowOk σ l lv) (hlt : lv ≤ t) :
    Calls Tryz.prog 18 #[ptr d] we fun e w' => ∃ s mw N W σ' A', e = .returned (.tuple #[ptr s, .int .i64 0]) ∧ Live w w' A' d (K5 t) (C + 2) L σ' ∧ (∀ i, A' i → A i ∨ we.heap.size ≤ i) ∧ Keeps A we w' ∧ σ'.left = none ∧ we.heap.size ≤ s ∧ we.heap.size ≤ mw ∧ N ≤ 2 * t + 5 ∧ SpAt w A' d L s mw N (Pm l) lv false W w' ∧ Dom l W ∧ Alive σ' l lv := by
  have hK := K5_len t
  refine (open_any h hG h8 (by omega) (K5_size ht) (by omega) (by omega) (K5_l (n := 0) (by omega) (by omega))).mono ?_
  rintro e w' ⟨ks, k, σ', A', hso, hr, hl, hA, hk, hc⟩
  obtain ⟨rfl, u2, lf, u3, u4, u5⟩ := open_copy hN h.2.2.1 (by omega) hso hr
  rcases hc with ⟨c1, _⟩ | ⟨_, s, mw, N, W, rfl, c2, c3, c4, c5, c6⟩
  · exact absurd rfl c1
  · rw [u3] at c6
    refine ⟨s, mw, N, W, σ', A', rfl, hl, hA, hk, lf, c3, c4, by omega, c6.monoP (fun n M hP => u4 n M hP), fun n => ?_, u2⟩
    rw [← u5 n]
    constructor
    · intro e
      obtain ⟨b, hb⟩ := Option.isSome_iff_exists.1 e
      exact c5.1 n b hb
    · rintro ⟨s, hs, hn⟩
      exact c5.2 s hs n hn

end

end Go.Proofs.YtegbkpjcjlihmabGreatDoor

namespace Go.Proofs.YtegbkpjcjlihmabGreatDoor
open Go.RowKit Go.Maps Go.Sort Go.Lib

section
variable {w wx : World}

theorem AdAt.later {v : Value} {l : List Ltr} (h : AdAt w (fun q => w.heap.size ≤ q) v l) (k : Fresh w wx) : AdAt wx (fun q => wx.heap.size ≤ q) v l := by
  have hz := k.size
  exact h.into (fun q hq => k.block q hq (fun e => e)) hz (fun q hq => Nat.le_trans hz hq)

theorem OpS.later {o : OpS} (h : o.fits w) (k : Fresh w wx) : o.fits wx := by
  have hz := k.size
  exact ⟨h.wt, AdAt.later h.to_ k, h.nn_, h.mm_, fun A hA => (h.ints A (fun i hi => by have := hA i hi; omega)).fresh k⟩

theorem Script8.later {v : Value} {os : List OpS} (h : Script8 w v os) (k : Fresh w wx) : Script8 wx v os := by
  obtain ⟨ao, cap, e, h1, h2, h3⟩ := h
  refine ⟨ao, cap, e, h1, h2, fun hn => ?_⟩
  obtain ⟨b, off, e1, e2⟩ := h3 hn
  refine ⟨b, off, e1, fun i o ho => ?_⟩
  obtain ⟨q0, q1, q2, q3, q4, q5, q6, q7⟩ := e2 i o ho
  exact ⟨cell_keeps k q0 (fun e => e), cell_keeps k q1 (fun e => e), cell_keeps k q2 (fun e => e), cell_keeps k q3 (fun e => e), cell_keeps k q4 (fun e => e), cell_keeps k q5 (fun e => e), cell_keeps k q6 (fun e => e), cell_keeps k q7 (fun e => e)⟩

end

end Go.Proofs.YtegbkpjcjlihmabGreatDoor

namespace Go.Proofs.YtegbkpjcjlihmabGreatDoor
open Go.RowKit Go.Maps Go.Sort Go.Lib

/-- while the files are copied -/
structure Cp (w : World) (d d2 C C2 L : Nat) (K : List Text) (A A2 : Nat → Prop) (σ τ : Dk) (b0 b1 p s r : Nat) (ρ : Rs) (nv : Value) (ks : List Text) (wr : World) : Prop where
  two : Two w d d2 C C2 L K A A2 σ τ wr
  apart : ∀ q, A2 q → b0 ≤ q ∧ nv.ownBlock ≠ some q
  row : wr.ownsRow b1 9 1 nv ks.length (ks.map encStr)
  ref : RefAt (fun q => A q ∨ q = p ∨ b0 ≤ q) r w.heap.size ρ wr
  cell : wr.heap[p]? = some (pCells5 d s r false)
  pA : ¬ A p
  low : ∀ q, A q → q < b0
  b01 : b0 ≤ b1
  pb : p < b0
  sz : b0 ≤ wr.heap.size

section
variable {w wr w' : World} {d d2 C C2 L b0 b1 p s r : Nat} {A A2 : Nat → Prop} {σ τ : Dk} {K : List Text} {ρ : Rs} {nv : Value} {ks : List Text}

theorem Cp.fresh (h : Cp w d d2 C C2 L K A A2 σ τ b0 b1 p s r ρ nv ks wr) (k : Fresh wr w') : Cp w d d2 C C2 L K A A2 σ τ b0 b1 p s r ρ nv ks w' :=
  ⟨h.two.fresh k, h.apart, k.owns h.row (fun _ _ e => e), h.ref.fresh k, k.heap h.cell (fun e => e), h.pA, h.low, h.b01, h.pb, Nat.le_trans h.sz k.size⟩

theorem Cp.nA (h : Cp w d d2 C C2 L K A A2 σ τ b0 b1 p s r ρ nv ks wr) : ∀ q, nv.ownBlock = some q → ¬ A q := fun q hq e => by
  have h1 := (h.row.lt q hq).1
  have h2 := h.low q e
  have h3 := h.b01
  omega

theorem Cp.seen (h : Cp w d d2 C C2 L K A A2 σ τ b0 b1 p s r ρ nv ks wr) (hl : Live w w' A d K C L σ) (k : Keeps A wr w') : Cp w d d2 C C2 L K A A2 σ τ b0 b1 p s r ρ nv ks w' :=
  ⟨h.two.seen hl k, h.apart, k.owns h.row h.nA, h.ref.keep k (fun _ _ hn e => hn (.inl e)) (fun _ _ e => e), k.heap h.cell h.pA, h.pA, h.low, h.b01, h.pb, Nat.le_trans h.sz k.size⟩

theorem Cp.next {A3 : Nat → Prop} {τ' : Dk} {C3 L3 : Nat} (h : Cp w d d2 C C2 L K A A2 σ τ b0 b1 p s r ρ nv ks wr) (hl : Live w w' A3 d2 K C3 L3 τ') (k : Keeps A2 wr w') (hA : ∀ i, A3 i → A2 i ∨ wr.heap.size ≤ i) (hs : Sizes τ' L) : Cp w d d2 C C3 L K A A3 σ τ' b0 b1 p s r ρ nv ks w' :=
  ⟨h.two.next hl k hA hs, fun q hq => by
    rcases hA q hq with e | e
    · exact h.apart q e
    · have h1 := h.sz
      refine ⟨by omega, fun e2 => ?_⟩
      have h2 := (h.row.lt q e2).2
      omega, k.owns h.row (fun q hq e => (h.apart q e).2 hq), h.ref.keep k (fun _ _ hn e => hn (.inr (.inr (h.apart _ e).1))) (fun _ _ e => e), k.heap h.cell (fun e => by
      have h1 := (h.apart p e).1
      have h2 := h.pb
      omega), h.pA, h.low, h.b01, h.pb, Nat.le_trans h.sz k.size⟩

/-- the reference, seen from the second spool -/
theorem Cp.opened {A3 : Nat → Prop} {N L' : Nat} {s2 mw2 : Nat} {W2 : Waits} {lv : Int} {l : List Wg} (h : Cp w d d2 C C2 L K A A2 σ τ b0 b1 p s r ρ nv ks wr) (k : Keeps A2 wr w') (hA : ∀ i, A3 i → A2 i ∨ wr.heap.size ≤ i) (hs : wr.heap.size ≤ s2) (hm : wr.heap.size ≤ mw2) (sp : SpAt w A3 d2 L' s2 mw2 N (Pm l) lv false W2 w') : RefAt (SS A3 s2 mw2 W2 p) r w.heap.size ρ w' ∧ w'.heap[p]? = some (pCells5 d s r false) := by
  have h1 := h.sz
  refine ⟨(h.ref.keep (S' := fun q => A q ∨ q = p ∨ b0 ≤ q) k (fun _ _ hn e => hn (.inr (.inr (h.apart _ e).1))) (fun _ _ e => e)).addMaps (fun i hi => ?_), k.heap h.cell (fun e => by
      have h1 := (h.apart p e).1
      have h2 := h.pb
      omega)⟩
  rcases hi with e | e | e | ⟨n, e⟩ | e
  · refine .inl (.inr (.inr ?_))
    rcases hA i e with e | e
    · exact (h.apart i e).1
    · omega
  · exact .inl (.inr (.inr (by omega)))
  · exact .inl (.inr (.inr (by omega)))
  · obtain ⟨_, _, nn, c, M, _, h3, _⟩ := sp.lft n i e
    exact .inr ⟨nn, c, M, h3⟩
  · exact .inl (.inr (.inl e))

end

section
variable {w we wr w' : World} {t p d C L : Nat} {A T : Nat → Prop} {σ : Dk} {s mw N : Nat} {W : Waits} {lv : Int} {r : Nat} {ρ : Rs} {l : List Wg}

/-- Put, on a disk that does not stop -/
theorem put2 (h : Tells w A d (K5 t) C L σ s mw N W lv false l lv we) (hlf : σ.left = none) (hG : Gl w) (hlt : lv + 1 ≤ t) (ht : t ≤ 1000000) (hN : N ≤ 2 * t + 5) (hll : l.length ≤ 1000000) (hC : C ≤ 1000000000) (hL : L ≤ 500000000) (fa fb dd : ByteArray) (tl : List Ltr) (hw : mlW (fa.data.toList, fb.data.toList, tl, dd.data.toList) ≤ 1048576) (h0 : tl ≠ []) (ao : Option Addr) (cap : Nat)
    (hrd : ∀ j u, (tl.flatMap encL)[j]? = some u → ∃ g, ao = some ⟨g, 0, none⟩ ∧ we.cell? ⟨g, j, none⟩ = some u) (hxA : ∀ g, ao = some ⟨g, 0, none⟩ → ¬ A g ∧ g ≠ s) :
    Calls Tryz.prog 21 #[ptr s, mailV fa fb (.slice ao tl.length cap) dd] we fun e w' => e = .returned (.tuple #[.int .i64 (lv + 1), .int .i64 0]) ∧ ∃ A' σ' mb, (∀ i, A' i → A i ∨ we.heap.size ≤ i) ∧ Tells w A' d (K5 t) (C + 6) (L + (mlText (fa.data.toList, fb.data.toList, tl, dd.data.toList)).length) σ' s mw (N + 1) (putW W (lv + 1) mb) (lv + 1) false (l ++ [(lv + 1, (fa.data.toList, fb.data.toList, tl, dd.data.toList), once tl)]) (lv + 1) w' ∧ Keeps (fun i => A i ∨ i = s ∨ i = mw) we w' := by
  have hlw := toW_len tl
  have hwt : toW tl ≤ 1048576 := by unfold mlW at hw; simp only at hw; omega
  have hT := mlT_len hw
  have hTo := mlT_to (fa.data.toList, fb.data.toList, tl, dd.data.toList)
  have hK := K5_len t
  have hlo := h.al.inv.wgs.lo
  have hnum := h.num
  have htt := toT_len hwt
  refine (put_any h.live hG h.sp fa fb dd ao cap tl (List.length_pos_iff.2 h0) (by omega) hlo (by omega) (by omega) (fun q hq => by have := toW_mem hq; unfold okA maxLen; omega) hrd hxA (by show (mlText (fa.data.toList, fb.data.toList, tl, dd.data.toList)).length ≤ _; omega) (by omega) hTo (by omega) (K5_new t) (K5_l (by omega) hlt) (K5_m (by omega) hlt) (by omega) (by omega)).mono ?_
  rintro e w' ⟨b', σ', A', hs, hl, hA', k, hres⟩
  have hm : MlOk (fa.data.toList, fb.data.toList, tl, dd.data.toList) := mlOk_of hw
  rcases hs with ⟨hb, _⟩ | ⟨_, kk, hr, hk⟩
  · cases hb
  have hp := h.al.put h.live.2.2.1 (by omega) hm h0 (K5_new t) (K5_l (by omega) hlt) (K5_m (by omega) hlt) hr
  rcases hp with ⟨_, h2, _⟩ | ⟨h2, hal⟩
  · exact absurd hlf h2
  rcases hres with ⟨rfl, _⟩ | ⟨rfl, rfl, mb, hsp⟩
  · rcases hk with ⟨e1, _⟩ | ⟨_, e1⟩
    · cases e1
    · exact absurd h2 e1
  · refine ⟨rfl, A', σ', mb, hA', ⟨hl, hsp.monoP (fun n M hP => ?_), fun n => ?_, hal, fun g hg => ?_, by omega, ?_, by omega⟩, k⟩
    · rcases hP with ⟨g, hg, e1, e2⟩ | ⟨e1, e2⟩
      · exact ⟨g, List.mem_append_left _ hg, e1, e2⟩
      · exact ⟨_, List.mem_append_right _ (List.mem_singleton.2 rfl), e1.symm, e2⟩
    · unfold putW ids
      rw [List.map_append, List.mem_append]
      by_cases e1 : n = lv + 1
      · rw [if_pos e1]
        exact ⟨fun _ => .inr (by rw [e1]; simp), fun _ => rfl⟩
      · rw [if_neg e1, h.dom n]
        exact ⟨.inl, fun h => h.resolve_right (fun h2 => e1 (by simpa using h2))⟩
    · rcases List.mem_append.1 hg with e | e
      · exact h.sz g e
      · rw [List.mem_singleton.1 e]; exact hw
    · rw [List.length_append]
      simp; omega

theorem Tells.grew {A' : Nat → Prop} {K : List Text} {C' L' N' : Nat} {σ' : Dk} {W' : Waits} {lv' lw : Int} {b' : Bool} {l' : List Wg} (hR : RefAt (SS A s mw W p) r w.heap.size ρ we) (hA : ∀ i, A' i → A i ∨ we.heap.size ≤ i) (h' : Tells w A' d K C' L' σ' s mw N' W' lv' b' l' lw w') (k : Keeps (fun i => A i ∨ i = s ∨ i = mw) we w') : RefAt (SS A' s mw W' p) r w.heap.size ρ w' := by
  refine (hR.keep (S' := SS A' s mw W p) k (fun b _ hn e => hn ?_) (fun b hb e => ?_)).addMaps (fun i hi => ?_)
  · rcases e with e | e | e
    · exact .inl e
    · exact .inr (.inl e)
    · exact .inr (.inr (.inl e))
  · rcases e with e | e
    · rcases hA b e with e | e
      · exact .inl e
      · omega
    · exact .inr e
  · rcases hi with e | e | e | ⟨n, e⟩ | e
    · exact .inl (.inl e)
    · exact .inl (.inr (.inl e))
    · exact .inl (.inr (.inr (.inl e)))
    · obtain ⟨_, _, nn, c, M, _, h3, _⟩ := h'.sp.lft n i e
      exact .inr ⟨nn, c, M, h3⟩
    · exact .inl (.inr (.inr (.inr (.inr e))))

theorem Tells.took {K : List Text} {lw : Int} {b : Bool} (h : Tells w A d K C L σ s mw N W lv b l lw we) (hR : RefAt (SS A s mw W p) r w.heap.size ρ we) (hp : p < we.heap.size) (hpw : w.heap.size ≤ p) (hln : ρ.l.length ≤ 1000000) (id : Int) (htop : ρ.top < id) (h0 : 0 < id) (fa fb dd : ByteArray) (ao : Option Addr) (cap : Nat) (tl : List Ltr) (htl : tl.length ≤ 1048576) (hmi : AdAt w (fun q => w.heap.size ≤ q) (.slice ao tl.length cap) tl) :
    Calls Tryz.prog 23 #[ptr r, .int .i64 id, mailV fa fb (.slice ao tl.length cap) dd] we fun e w' => e = .returned (.bool true) ∧ (∃ av y, RefAt (SS A s mw W p) r w.heap.size (ρ.took av y (id, (fa.data.toList, fb.data.toList, tl, dd.data.toList), once tl)) w') ∧ Tells w A d K C L σ s mw N W lv b l lw w' ∧ Keeps (fun q => q = r ∨ ρ.av.ownBlock = some q) we w' := by
  have hww := h.live.2.2.2
  have hown := hR.own
  have hSl : ∀ q, SS A s mw W p q → w.heap.size ≤ q := fun q hq => by
    rcases hq with e | e | e | ⟨n, e⟩ | e
    · exact (h.live.1 q e).1
    · have := h.sp.wS; omega
    · have := h.sp.wM; omega
    · exact (h.sp.lft n q e).1
    · omega
  have hpin : AdAt we (fun q => SS A s mw W p q ∨ q = r ∨ ρ.av.ownBlock = some q) (.slice ao tl.length cap) tl := hmi.into (fun q hq => hww.block q hq (fun e => e)) hww.size (fun q hq => hq.elim (hSl q) (fun e => (hown q e).2))
  refine (took5 hR (h.below hp) id fa fb dd (.slice ao tl.length cap) tl hpin (by omega) (by omega) htop h0).mono ?_
  rintro e w' ⟨rfl, av, y, h1, k⟩
  exact ⟨rfl, ⟨av, y, h1⟩, h.side k hown, k⟩

end

end Go.Proofs.YtegbkpjcjlihmabGreatDoor
