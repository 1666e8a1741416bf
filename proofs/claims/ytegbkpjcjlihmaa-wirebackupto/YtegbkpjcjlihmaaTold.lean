/-
  (*line).told, (*line) made anew.
-/
import Derived.Test.YtegbkpjcjlihmaaLine
import Derived.Test.YtegbkpjcjlihmaaAnyb
namespace Go.Proofs.Ytegbkpjcjlihmaa
open Go.RowKit

theorem LineAt.cell2 {w : World} {B most b : Nat} {v : Value} {body : List UInt8} {cr : Bool} (h : LineAt w B most b v body cr) : w.cell? ⟨b, 2, none⟩ = some (.int .i64 body.length) := by
  obtain ⟨⟨p, hp, hh⟩, _, _⟩ := h
  rw [Lib.cell_of_heap hh]; rfl

/-- a line, as it is handed on -/
def lineVal (most : Nat) (body : List UInt8) : Value := .agg #[.string ⟨(lineOf most body).1.toArray⟩, .int .i64 (lineOf most body).2]

set_option maxRecDepth 20000 in
set_option maxHeartbeats 2000000 in
theorem told_any (B most b : Nat) (v : Value) (body : List UInt8) (cr : Bool) (w : World) (h : LineAt w B most b v body cr) (hm : most ≤ 100000) (hlen : body.length < 4611686018427387904) :
    Calls Try.prog 27 #[.pointer (some ⟨b, 0, none⟩), .int .i64 most] w fun e w' => e = .returned (lineVal most body) ∧ Keeps (fun k => v.ownBlock = some k) w w' := by
  have c2 := h.cell2
  have hlt : b < w.heap.size := by
    obtain ⟨⟨p, hp, hh⟩, _, _⟩ := h
    exact heap_lt hh
  have c2' : (w.alloc (.cells #[.string ⟨#[]⟩, .int .i64 0] 36)).cell? ⟨b, 2, none⟩ = some (.int .i64 body.length) := by
    rw [← c2]
    exact World.cell?_of_block (w := w) (Below.heap_alloc _ _ _ hlt)
  by_cases hle : body.length ≤ most
  · have hgt : ¬ ((most : Int) < (body.length : Int)) := by omega
    have htx : txt most body = body := by unfold txt; rw [if_pos hle]
    have k0 : Fresh w (w.alloc (.cells #[.string ⟨#[]⟩, .int .i64 0] 36)) := (Keeps.refl _ w).alloc _
    have h1 := k0.line h (fun e => e) (fun _ _ e => e)
    have hbuf0 := h.buf
    obtain ⟨⟨p, hp, hh⟩, hbuf, hne⟩ := h1
    rw [htx] at hbuf
    have hsz : (⟨body.toArray⟩ : ByteArray).size < 4294967281 := by
      show body.toArray.size < _
      rw [List.size_toArray]; omega
    have Hl : Hid (lineVal most body = if hasCL body then .agg #[.string ⟨body.toArray⟩, .int .i64 1] else .agg #[.string ⟨body.toArray⟩, .int .i64 0]) := by
      unfold lineVal lineOf
      rw [if_pos hle]
      split <;> rfl
    clear h htx
    go_enter Try.func27, Try.ntmps27
    go_wp2_with fail
    refine (string_any B b 62 _ v body _ hh rfl hbuf).mono ?_
    rintro e w1 ⟨rfl, k1⟩
    go_wp2_with fail
    refine (containsAny_any _ hsz _).mono ?_
    rintro e w2 ⟨rfl, k2⟩
    have hn : v.ownBlock ≠ some w.heap.size := fun e => by
      have := hbuf0.1.lt _ e
      omega
    have hr : w2.heap[w.heap.size]? = some (.cells #[.string ⟨#[]⟩, .int .i64 0] 36 (0, 0)) := k2.heap (k1.heap (heap_alloc_new w _) hn) (fun e => e)
    have d0 : w2.cell? ⟨w.heap.size, 0, none⟩ = some (.string ⟨#[]⟩) := by rw [Lib.cell_of_heap hr]; rfl
    have d1 : w2.cell? ⟨w.heap.size, 1, none⟩ = some (.int .i64 0) := by rw [Lib.cell_of_heap hr]; rfl
    have g0 : w2.frozen? ⟨w.heap.size, 0, none⟩ = false := Lib.frozen_of_heap hr 0
    have g1 : w2.frozen? ⟨w.heap.size, 1, none⟩ = false := Lib.frozen_of_heap hr 1
    have K : Keeps (fun k => v.ownBlock = some k) w w2 := (k0.ofFresh.trans k1).trans k2.ofFresh
    have hcl : hasCL (⟨body.toArray⟩ : ByteArray).data.toList = hasCL body := by simp
    rw [hcl]
    have e1 := heap_setCell_at hr 0 (.string ⟨body.toArray⟩)
    have m0 : (w2.setCell ⟨w.heap.size, 0, none⟩ (.string ⟨body.toArray⟩)).cell? ⟨w.heap.size, 0, none⟩ = some (.string ⟨body.toArray⟩) := by rw [Lib.cell_of_heap e1]; rfl
    have m1 : ∀ y, ((w2.setCell ⟨w.heap.size, 0, none⟩ (.string ⟨body.toArray⟩)).setCell ⟨w.heap.size, 1, none⟩ y).cell? ⟨w.heap.size, 1, none⟩ = some y := fun y => by rw [Lib.cell_of_heap (heap_setCell_at e1 1 y)]; rfl
    clear e1
    clear hcl hh hbuf hp k0 k1 k2 hr c2 c2'
    cases hc : hasCL body
    · rw [hc] at Hl
      go_wp2
      refine bodyPost_ret (v := .agg #[.string ⟨body.toArray⟩, .int .i64 0]) (by simp [results, Try.results27, go_sem, m0, m1]) rfl ⟨by rw [Hl.out]; rfl, ?_⟩
      exact (K.setCell (p := ⟨w.heap.size, 0, none⟩) (fun h => absurd h (Nat.lt_irrefl _)) _).setCell (p := ⟨w.heap.size, 1, none⟩) (fun h => absurd h (Nat.lt_irrefl _)) _
    · rw [hc] at Hl
      go_wp2
      refine bodyPost_ret (v := .agg #[.string ⟨body.toArray⟩, .int .i64 1]) (by simp [results, Try.results27, go_sem, m0, m1]) rfl ⟨by rw [Hl.out]; rfl, ?_⟩
      exact (K.setCell (p := ⟨w.heap.size, 0, none⟩) (fun h => absurd h (Nat.lt_irrefl _)) _).setCell (p := ⟨w.heap.size, 1, none⟩) (fun h => absurd h (Nat.lt_irrefl _)) _
  · have hgt : (most : Int) < (body.length : Int) := by omega
    have Hl : Hid (lineVal most body = .agg #[.string ⟨#[]⟩, .int .i64 2]) := by
      unfold lineVal lineOf
      rw [if_neg hle]
      rfl
    clear h hle
    go_enter Try.func27, Try.ntmps27
    go_wp2
    refine bodyPost_ret (v := .agg #[.string ⟨#[]⟩, .int .i64 2]) (by simp [results, Try.results27, go_sem]) rfl ⟨by rw [Hl.out], ?_⟩
    exact (Keeps.refl _ w).alloc _

end Go.Proofs.Ytegbkpjcjlihmaa
