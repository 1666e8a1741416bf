/-
  The law's own alive: a plain box. | The player of boxes: deliver.
-/
import Derived.Test.YtegbkpjcjlihmabGreatDoorGj
import Derived.BigQuiet
import Derived.Deep.QuietTactic
import Derived.Test.YtegbkpjcjlihmabGreatDoorGr
namespace Go.Proofs.YtegbkpjcjlihmabGreatDoor
open Go.RowKit Go.Maps

end Go.Proofs.YtegbkpjcjlihmabGreatDoor

namespace Go.Proofs.YtegbkpjcjlihmabGreatDoor
open Go.RowKit Go.Maps Go.Sort Go.Lib

theorem Live.more {w wr : World} {A : Nat → Prop} {d : Nat} {K K' : List Text} {C L : Nat} {σ : Dk} (h : Live w wr A d K C L σ) (hs : ∀ s ∈ K, s ∈ K') (hl : K.length ≤ K'.length) : Live w wr A d K' C L σ := by
  obtain ⟨h1, ⟨mn, ms, cv, vals, bv, I⟩, h3, h4⟩ := h
  exact ⟨h1, ⟨mn, ms, cv, vals, bv, I.head, I.now.mono hl, I.safe.mono hl, I.apart, I.row, I.len, I.chg, I.files, I.bufs, I.ownD, I.ownN, I.ownS, I.ownR, I.ownX, I.ownB⟩, ⟨fun i s e => hs s (h3.setK i s e), h3.setIn, h3.setInj, h3.setNow, h3.chgs, h3.sizes, h3.left⟩, h4⟩

/-- what is asked of the names -/
structure NamesOk (K : List Text) : Prop where
  len : K.length ≤ 1099511627
  size : ∀ s ∈ K, s.length < 4294967281
  canon : CanonK K
  fresh : freshT ∈ K

/-- how the player stands -/
structure PSt (w : World) (K : List Text) (p d C L n : Nat) (A : Nat → Prop) (σ : Dk) (D : Text → Text) (l : List Lt3) (stop maybe : Bool) (x1 x2 x3 : ByteArray) (v : Value) (wr : World) : Prop where
  live : Live w wr A d K C L σ
  cell : wr.heap[p]? = some (pCells d v stop maybe x1 x2 x3)
  pA : ¬ A p
  pw : w.heap.size ≤ p
  ls : Lsx wr (fun i => A i ∨ i = p) v l
  st : Bst K D σ l stop maybe (x3Of x1 x2 x3)
  ln : l.length ≤ n
  sz : ∀ y ∈ l, y.1.length ≤ 1048576 ∧ y.2.1.length ≤ 1048576
  sx : x1.size ≤ 1048576 ∧ x2.size ≤ 1048576

theorem PSt.lt {w : World} {K : List Text} {p d C L n : Nat} {A : Nat → Prop} {σ : Dk} {D : Text → Text} {l : List Lt3} {stop maybe : Bool} {x1 x2 x3 : ByteArray} {v : Value} {wr : World} (h : PSt w K p d C L n A σ D l stop maybe x1 x2 x3 v wr) : p < wr.heap.size := (Array.getElem?_eq_some_iff.1 h.cell).1

theorem Lsx.less {w : World} {A A' : Nat → Prop} {v : Value} {l : List Lt3} (h : Lsx w A v l) (hs : ∀ i, A' i → A i) : Lsx w A' v l := by
  obtain ⟨ao, cap, e, h1, h2⟩ := h
  exact ⟨ao, cap, e, h1, fun g hg => ⟨fun e => (h2 g hg).1 (hs g e), (h2 g hg).2⟩⟩

section
variable {w wr w' : World} {K : List Text} {p d C L n : Nat} {A : Nat → Prop} {σ σ' : Dk} {D D' : Text → Text} {l l' : List Lt3} {stop maybe stop' maybe' : Bool} {x1 x2 x3 y1 y2 y3 : ByteArray} {v v' : Value}

/-- the player looks -/
theorem PSt.look (h : PSt w K p d C L n A σ D l stop maybe x1 x2 x3 v wr) (hG : Gl w) (hK : NamesOk K) (hn : n ≤ 1099511627) :
    Calls Tryz.prog 32 #[ptr p] wr fun e w' => ∃ v', e = .returned v' ∧ Lsx w' (fun i => A i ∨ i = p) v' (seen σ l maybe (x3Of x1 x2 x3)) ∧ PSt w K p d C L n A σ D l stop maybe x1 x2 x3 v w' ∧ Keeps A wr w' := by
  have hlt := h.lt
  refine (look_any h.live hG (by have := hK.len; omega) hK.size hK.canon h.cell h.pA (fun i hi => .inl hi) (fun i hi => hi.elim (fun e => (h.live.1 i e).2) (fun e => by omega)) h.ls h.st (by have := h.ln; omega) (fun y hy => by have := h.sz y hy; omega) (by have := h.sx; omega) (by have := h.sx; omega)).mono ?_
  rintro e w' ⟨v', rfl, h1, h2, k⟩
  exact ⟨v', rfl, h1, ⟨h2, k.heap h.cell h.pA, h.pA, h.pw, h.ls.keep k (fun g _ n e => n (.inl e)) (fun _ e => .inl e), h.st, h.ln, h.sz, h.sx⟩, k⟩

/-- what is seen is shown -/
theorem PSt.shows (h : PSt w K p d C L n A σ D l stop maybe x1 x2 x3 v wr) (hG : Gl w) (hK : NamesOk K) (hn : n < 1099511627) (hv : Lsx wr (fun i => A i ∨ i = p) v' (seen σ l maybe (x3Of x1 x2 x3))) :
    Calls Tryz.prog 33 #[ptr d, v'] wr fun e w' => e = .returned (.bool true) ∧ PSt w K p d C L n A σ D l stop maybe x1 x2 x3 v w' ∧ Keeps A wr w' := by
  have hf := h.live.2.2.1
  refine (shows_any h.live hG (by have := hK.len; omega) hK.size hK.canon (hv.less (fun i e => .inl e)) h.st.seen_up (h.st.seen_keys hf) (h.st.seen_data hf) ?_).mono ?_
  · have := h.ln
    unfold seen
    split
    · exact Nat.le_trans withL_len (by omega)
    · omega
  · rintro e w' ⟨rfl, h2, k⟩
    exact ⟨rfl, ⟨h2, k.heap h.cell h.pA, h.pA, h.pw, h.ls.keep k (fun g _ n e => n (.inl e)) (fun _ e => .inl e), h.st, h.ln, h.sz, h.sx⟩, k⟩

/-- a call of the disk -/
theorem PSt.disk (h : PSt w K p d C L n A σ D l stop maybe x1 x2 x3 v wr) {C' L' : Nat} {A' : Nat → Prop} (h2 : Live w w' A' d K C' L' σ') (k : Keeps A wr w') (hA : ∀ i, A' i → A i ∨ wr.heap.size ≤ i) (B : Bst K D' σ' l stop maybe (x3Of x1 x2 x3)) : PSt w K p d C' L' n A' σ' D' l stop maybe x1 x2 x3 v w' := by
  have hlt := h.lt
  refine ⟨h2, k.heap h.cell h.pA, fun e => (hA p e).elim h.pA (fun e => by omega), h.pw, ?_, B, h.ln, h.sz, h.sx⟩
  exact h.ls.keep k (fun g _ n e => n (.inl e)) (fun g e => e.elim (fun e => (hA g e).elim (fun e => .inl (.inl e)) .inr) (fun e => .inl (.inr e)))

/-- the player's own cells are set -/
theorem PSt.set (h : PSt w K p d C L n A σ D l stop maybe x1 x2 x3 v wr) {n' : Nat} (k : Keeps (fun i => i = p) wr w') (hc : w'.heap[p]? = some (pCells d v' stop' maybe' y1 y2 y3)) (hv : Lsx wr (fun i => A i ∨ i = p) v' l') (B : Bst K D' σ l' stop' maybe' (x3Of y1 y2 y3)) (hln : l'.length ≤ n') (hsz : ∀ y ∈ l', y.1.length ≤ 1048576 ∧ y.2.1.length ≤ 1048576) (hsx : y1.size ≤ 1048576 ∧ y2.size ≤ 1048576) : PSt w K p d C L n' A σ D' l' stop' maybe' y1 y2 y3 v' w' :=
  ⟨h.live.side k (fun i hi e => h.pA (e ▸ hi)) (fun i e => by have := h.pw; omega), hc, h.pA, h.pw, hv.keep k (fun g _ n e => n (.inr e)) (fun _ e => .inl e), B, hln, hsz, hsx⟩

end

theorem Lsx.rd {w : World} {A : Nat → Prop} {ao : Option Addr} {m cap : Nat} {l : List Lt3} (h : Lsx w A (.slice ao m cap) l) : Rd3 w ao l ∧ ∀ g, ao = some ⟨g, 0, none⟩ → ¬ A g ∧ g < w.heap.size := by
  obtain ⟨a, c, e, h1, h2⟩ := h
  injection e with e1 e2 e3
  subst e1
  exact ⟨h1, h2⟩

theorem Ls.form {w : World} {v : Value} {l : List Lt3} (h : Ls w v l) : ∃ ao m cap, v = .slice ao m cap := let ⟨a, c, e, _⟩ := h; ⟨a, _, c, e⟩

theorem Lsx.len {w : World} {A : Nat → Prop} {v : Value} {l : List Lt3} (h : Lsx w A v l) : ∃ ao cap, v = .slice ao l.length cap := let ⟨a, c, e, _⟩ := h; ⟨a, c, e⟩

def PNext (w : World) (K : List Text) (p d C L n : Nat) (stop : Bool) (wr : World) : Prop := ∃ A σ D l maybe x1 x2 x3 v, PSt w K p d C L n A σ D l stop maybe x1 x2 x3 v wr

theorem Bst.back {K : List Text} {D : Text → Text} {σ : Dk} {l : List Lt3} {stop : Bool} {x x0 : Lt3} (hb : Bst K D σ (withL l x0) stop false x) (hup : UpL l) (hn : lk x0 ∉ l.map lk) : Bst K D σ l stop true x0 where
  up := hup
  boxed := hb.boxed
  stay := fun y hy => hb.stay y (withL_sub hy)
  gone := fun p hp h1 h2 => hb.gone p hp (fun e => ((withL_keys p).1 e).elim (h2 rfl) h1) (fun e => by cases e)
  may := fun _ => by
    have hin : x0 ∈ withL l x0 := by
      unfold withL
      rw [if_neg hn]
      exact (insL_mem x0 x0 l).2 (.inl rfl)
    exact ⟨hn, (hb.stay x0 hin).2⟩
  left := hb.left

section
variable {w wr : World} {K : List Text} {p d C L n : Nat} {A : Nat → Prop} {σ : Dk} {D : Text → Text} {l : List Lt3} {stop maybe : Bool} {x1 x2 x3 : ByteArray} {v : Value}

theorem PSt.at (h : PSt w K p d C L n A σ D l stop maybe x1 x2 x3 v wr) : ∀ (j : Nat) u, #[Value.pointer (some ⟨d, 0, none⟩), v, .bool stop, .bool maybe, .string x1, .string x2, .string x3][j]? = some u → wr.cell? ⟨p, j, none⟩ = some u := fun j u hj => by
  have hp := h.cell
  unfold pCells ptr at hp
  rw [Lib.cell_of_heap hp]; exact hj
theorem PSt.fz (h : PSt w K p d C L n A σ D l stop maybe x1 x2 x3 v wr) (j : Nat) : wr.frozen? ⟨p, j, none⟩ = false := frozen_of_row wr p j _ _ h.cell

end
end Go.Proofs.YtegbkpjcjlihmabGreatDoor
