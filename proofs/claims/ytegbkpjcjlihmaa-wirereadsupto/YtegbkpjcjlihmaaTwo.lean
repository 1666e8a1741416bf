/-
  Two readers beside one another.
-/
import Derived.Test.YtegbkpjcjlihmaaAlive
namespace Go.Proofs.Ytegbkpjcjlihmaa
open Go.RowKit

/-- two readers, made since w, that share nothing -/
structure Two (w wr : World) (most rb lb : Nat) (v : Value) (cur : List UInt8) (ro lbo : Nat) (vo : Value) (curo : List UInt8) : Prop where
  r : Rd wr most rb lb v cur
  o : Rd wr most ro lbo vo curo
  apart : ∀ j, owned rb lb v j → ¬ owned ro lbo vo j
  newr : ∀ j, owned rb lb v j → w.heap.size ≤ j
  newo : ∀ j, owned ro lbo vo j → w.heap.size ≤ j
  fr : Fresh w wr

theorem Two.symm {w wr : World} {most rb lb : Nat} {v : Value} {cur : List UInt8} {ro lbo : Nat} {vo : Value} {curo : List UInt8} (h : Two w wr most rb lb v cur ro lbo vo curo) : Two w wr most ro lbo vo curo rb lb v cur :=
  ⟨h.o, h.r, fun j a b => h.apart j b a, h.newo, h.newr, h.fr⟩

theorem Two.fresh {w wr w1 : World} {most rb lb : Nat} {v : Value} {cur : List UInt8} {ro lbo : Nat} {vo : Value} {curo : List UInt8} (h : Two w wr most rb lb v cur ro lbo vo curo) (hf : Fresh wr w1) : Two w w1 most rb lb v cur ro lbo vo curo :=
  ⟨hf.rd h.r (fun _ _ e => e), hf.rd h.o (fun _ _ e => e), h.apart, h.newr, h.newo, h.fr.trans hf⟩

/-- a row of another type than a reader's blocks lies beside it -/
theorem rows_free {w : World} {most rb lb : Nat} {v : Value} {cur : List UInt8} {base : Nat} {e : TypeId} {size : Nat} {ve : Value} {n : Nat} {xs : List Value} (h : Rd w most rb lb v cur) (ho : w.ownsRow base e size ve n xs) (h1 : 64 ≠ e) (h2 : 62 ≠ e) (h3 : e ≠ 5) :
    ∀ k, ve.ownBlock = some k → ¬ owned rb lb v k := by
  rintro k hk (rfl | rfl | e1)
  · exact own_ne ho h.heap h1 hk
  · obtain ⟨⟨p, hp, hh⟩, _, _⟩ := h.line
    exact own_ne ho hh h2 hk
  · exact own_ne_own ho h.line.buf.1 h3 k hk e1

theorem Two.feed {w wr w1 : World} {most rb lb : Nat} {v : Value} {cur : List UInt8} {ro lbo : Nat} {vo : Value} {curo s : List UInt8} {ve : Value} (h : Two w wr most rb lb v cur ro lbo vo curo) (hf : FeedInv wr w1 most rb lb v cur s ve) :
    ∃ lb1 v1, Two w w1 most rb lb1 v1 (cutFrom cur s).2 ro lbo vo curo ∧ LinesAt w1 wr.heap.size most ve (cutFrom cur s).1 ∧ Keeps (owned rb lb v) wr w1 := by
  obtain ⟨lb1, v1, hrd, hls, hlb, hnv, hk⟩ := hf
  have hback : ∀ j, owned rb lb1 v1 j → owned rb lb v j ∨ wr.heap.size ≤ j := by
    rintro j (rfl | rfl | e)
    · exact .inl (.inl rfl)
    · rcases hlb with rfl | h
      · exact .inl (.inr (.inl rfl))
      · exact .inr h
    · rcases hnv j e with h | h
      · exact .inl (.inr (.inr h))
      · exact .inr h
  refine ⟨lb1, v1, ⟨hrd, hk.rd h.o (fun j a b => h.apart j b a), ?_, ?_, h.newo, ?_⟩, hls, hk⟩
  · intro j a b
    rcases hback j a with c | c
    · exact h.apart j c b
    · have := h.o.owned_lt j b
      omega
  · intro j a
    rcases hback j a with c | c
    · exact h.newr j c
    · exact Nat.le_trans h.fr.size c
  · exact h.fr.then hk (fun i hi e => by have := h.newr i e; omega)

theorem Two.make {w w1 w2 : World} {most rb lb : Nat} {v : Value} {ro lbo : Nat} {vo : Value} (h1 : Rd w1 most rb lb v []) (n1 : ∀ k, owned rb lb v k → w.heap.size ≤ k) (f1 : Fresh w w1) (h2 : Rd w2 most ro lbo vo []) (n2 : ∀ k, owned ro lbo vo k → w1.heap.size ≤ k) (f2 : Fresh w1 w2) : Two w w2 most rb lb v [] ro lbo vo [] :=
  ⟨f2.rd h1 (fun _ _ e => e), h2, fun j a b => by have := h1.owned_lt j a; have := n2 j b; omega, n1, fun j b => Nat.le_trans f1.size (n2 j b), f1.trans f2⟩

end Go.Proofs.Ytegbkpjcjlihmaa
