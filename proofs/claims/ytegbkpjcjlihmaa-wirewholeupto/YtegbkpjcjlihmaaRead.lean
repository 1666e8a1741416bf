/-
  wire.New, (*Reader).Rest; what a reader is; a list of lines in memory.
-/
import Derived.Test.YtegbkpjcjlihmaaTold
import Derived.Deep.RegionLaw
import Derived.Deep.LoopGhost
namespace Go.Proofs.Ytegbkpjcjlihmaa
open Go.RowKit

theorem own_ne {w : World} {base : Nat} {e T : TypeId} {size : Nat} {v : Value} {n : Nat} {xs : List Value} {b : Nat} {cs : Array Value} {fr : Nat × Nat} (hown : w.ownsRow base e size v n xs) (hb : w.heap[b]? = some (.cells cs T fr)) (hTe : T ≠ e) : v.ownBlock ≠ some b := by
  rcases hown.2 with ⟨rfl, _⟩ | ⟨g, cap, cur, rfl, _, hg, _⟩
  · simp [Value.ownBlock]
  · intro h
    simp only [Value.ownBlock, Option.some.injEq] at h
    subst h
    rw [hg] at hb
    simp only [Option.some.injEq, Obj.cells.injEq] at hb
    exact hTe hb.2.1.symm

theorem own_ne_own {w : World} {base base' : Nat} {e e' : TypeId} {size size' : Nat} {v v' : Value} {n n' : Nat} {xs xs' : List Value} (h : w.ownsRow base e size v n xs) (h' : w.ownsRow base' e' size' v' n' xs') (hne : e ≠ e') : ∀ k, v.ownBlock = some k → v'.ownBlock ≠ some k := by
  intro k hk
  rcases h.2 with ⟨rfl, _⟩ | ⟨g, cap, cur, rfl, _, hg, _⟩
  · simp [Value.ownBlock] at hk
  · simp only [Value.ownBlock, Option.some.injEq] at hk
    subst hk
    exact own_ne h' hg hne

/-- a reader in block rb, its line in lb, the line's buffer v; cur stands behind the last line's end -/
structure Rd (w : World) (most rb lb : Nat) (v : Value) (cur : List UInt8) : Prop where
  heap : w.heap[rb]? = some (.cells #[.int .i64 most, .pointer (some ⟨lb, 0, none⟩)] 64 (0, 0))
  line : LineAt w 0 most lb v (bodyOf cur) (crOf cur)

theorem LineAt.lt {w : World} {B most b : Nat} {v : Value} {body : List UInt8} {cr : Bool} (h : LineAt w B most b v body cr) : b < w.heap.size := by
  obtain ⟨⟨p, hp, hh⟩, _, _⟩ := h
  exact heap_lt hh

theorem Rd.ne {w : World} {most rb lb : Nat} {v : Value} {cur : List UInt8} (h : Rd w most rb lb v cur) : rb ≠ lb := by
  intro e
  obtain ⟨⟨p, hp, hh⟩, _, _⟩ := h.line
  have h1 := h.heap
  rw [e] at h1
  rw [h1] at hh
  simp at hh

theorem Rd.ne2 {w : World} {most rb lb : Nat} {v : Value} {cur : List UInt8} (h : Rd w most rb lb v cur) : v.ownBlock ≠ some rb := own_ne h.line.buf.1 h.heap (by decide)

/-- the blocks of a reader -/
def owned (rb lb : Nat) (v : Value) : Nat → Prop := fun k => k = rb ∨ k = lb ∨ v.ownBlock = some k

theorem Keeps.rd {S : Nat → Prop} {w w' : World} (h : Keeps S w w') {most rb lb : Nat} {v : Value} {cur : List UInt8} (hr : Rd w most rb lb v cur) (hn : ∀ k, owned rb lb v k → ¬ S k) : Rd w' most rb lb v cur :=
  ⟨h.heap hr.heap (hn _ (.inl rfl)), h.line hr.line (hn _ (.inr (.inl rfl))) (fun _ hk => hn _ (.inr (.inr hk)))⟩

theorem Rd.owned_lt {w : World} {most rb lb : Nat} {v : Value} {cur : List UInt8} (h : Rd w most rb lb v cur) : ∀ k, owned rb lb v k → k < w.heap.size := by
  rintro k (rfl | rfl | hk)
  · exact heap_lt h.heap
  · exact h.line.lt
  · exact (h.line.buf.1.lt k hk).2

/-- what a line is in memory -/
def lineCells (most : Nat) (l : List UInt8) : List Value := [.string ⟨(lineOf most l).1.toArray⟩, .int .i64 (lineOf most l).2]

/-- lines, in a row of the call's own -/
def LinesAt (w : World) (base most : Nat) (v : Value) (ls : List (List UInt8)) : Prop := w.ownsRow base 36 2 v ls.length (ls.flatMap (lineCells most))

theorem flat_length (most : Nat) (ls : List (List UInt8)) : (ls.flatMap (lineCells most)).length = ls.length * 2 := by
  induction ls with
  | nil => rfl
  | cons a l ih => simp [List.flatMap_cons, lineCells, ih] ; omega

theorem infoLine : (Try.prog.info? 36).map (fun i => (i.zero, i.size, i.bytes)) = some (some (.agg #[.string ⟨#[]⟩, .int .i64 0]), 2, 24) := by kernel_rfl
theorem infoLine' : ∃ i, Try.prog.info? 36 = some i ∧ i.zero = some (.agg #[.string ⟨#[]⟩, .int .i64 0]) ∧ i.size = 2 ∧ i.bytes = 24 := by
  obtain ⟨i, hi, h⟩ := Option.map_eq_some_iff.1 infoLine
  simp only [Prod.mk.injEq] at h
  exact ⟨i, hi, h.1, h.2.1, h.2.2⟩

theorem new_line (w : World) (most : Nat) : LineAt (w.alloc (.cells #[.pointer none, .slice none 0 0, .int .i64 0, .bool false] 62)) 0 most w.heap.size (.slice none 0 0) (bodyOf []) (crOf []) := by
  refine ⟨⟨.pointer none, .inl rfl, heap_alloc_new w _⟩, ?_, by simp [Value.ownBlock]⟩
  have : txt most (bodyOf []) = [] := by unfold txt bodyOf; simp [crOf]
  rw [this]
  exact Buf.nil _ _

set_option maxRecDepth 20000 in
set_option maxHeartbeats 1000000 in
theorem new_some (most : Nat) (h1 : 1 ≤ most) (h2 : most ≤ 100000) (w : World) :
    Calls Try.prog 8 #[.int .i64 most] w fun e w' => ∃ rb, e = .returned (.pointer (some ⟨rb, 0, none⟩)) ∧ ∃ lb v, Rd w' most rb lb v [] ∧ (∀ k, owned rb lb v k → w.heap.size ≤ k) ∧ Fresh w w' := by
  have a1 : ¬ ((most : Int) < 1) := by omega
  have a2 : ¬ ((100000 : Int) < (most : Int)) := by omega
  go_enter Try.func8, Try.ntmps8
  go_wp2
  go_ret
  refine ⟨w.heap.size + 1, rfl, w.heap.size, .slice none 0 0, ⟨?_, ?_⟩, ?_, ((Keeps.refl _ w).alloc _).alloc _⟩
  · have := heap_alloc_new (w.alloc (.cells #[.pointer none, .slice none 0 0, .int .i64 0, .bool false] 62)) (.cells #[.int .i64 most, .pointer (some ⟨w.heap.size, 0, none⟩)] 64)
    simpa using this
  · have hl := new_line w most
    have hk : Fresh (w.alloc (.cells #[.pointer none, .slice none 0 0, .int .i64 0, .bool false] 62)) ((w.alloc (.cells #[.pointer none, .slice none 0 0, .int .i64 0, .bool false] 62)).alloc (.cells #[.int .i64 most, .pointer (some ⟨w.heap.size, 0, none⟩)] 64)) := (Keeps.refl _ _).alloc _
    exact hk.line hl (fun e => e) (fun _ _ e => e)
  · rintro k (rfl | rfl | hk)
    · omega
    · omega
    · simp [Value.ownBlock] at hk

set_option maxRecDepth 20000 in
set_option maxHeartbeats 400000 in
theorem new_none (most : Int) (h : most < 1 ∨ 100000 < most) (w : World) :
    Calls Try.prog 8 #[.int .i64 most] w fun e w' => e = .returned (.pointer none) ∧ w' = w := by
  by_cases h1 : most < 1
  · clear h
    go_enter Try.func8, Try.ntmps8
    go_wp2
    go_ret
    exact ⟨rfl, rfl⟩
  · have h2 : 100000 < most := by omega
    clear h
    go_enter Try.func8, Try.ntmps8
    go_wp2
    go_ret
    exact ⟨rfl, rfl⟩

set_option maxRecDepth 20000 in
set_option maxHeartbeats 1000000 in
theorem rest_any (most rb lb : Nat) (v : Value) (cur : List UInt8) (w : World) (h : Rd w most rb lb v cur) (hlen : cur.length < 4611686018427387904) :
    Calls Try.prog 14 #[.pointer (some ⟨rb, 0, none⟩)] w fun e w' => e = .returned (.int .i64 cur.length) ∧ w' = w := by
  have c1 : w.cell? ⟨rb, 1, none⟩ = some (.pointer (some ⟨lb, 0, none⟩)) := by rw [Lib.cell_of_heap h.heap]; rfl
  have hl := h.line
  clear h
  go_enter Try.func14, Try.ntmps14
  go_wp2_with fail
  refine (bytes_any 0 most lb v cur _ hl hlen).mono ?_
  rintro e w' ⟨rfl, rfl⟩
  go_wp2
  go_ret
  exact ⟨rfl, rfl⟩

end Go.Proofs.Ytegbkpjcjlihmaa
