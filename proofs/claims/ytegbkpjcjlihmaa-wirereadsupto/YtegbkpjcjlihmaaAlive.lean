/-
  alive: a plain stream.
-/
import Derived.Test.YtegbkpjcjlihmaaRefc
namespace Go.Proofs.Ytegbkpjcjlihmaa
open Go.RowKit

theorem new_int (n : Int) (most : Nat) (hn : n = most) (h1 : 1 ≤ most) (h2 : most ≤ 100000) (w : World) :
    Calls Try.prog 8 #[.int .i64 n] w fun e w' => ∃ rb, e = .returned (.pointer (some ⟨rb, 0, none⟩)) ∧ ∃ lb v, Rd w' most rb lb v [] ∧ (∀ k, owned rb lb v k → w.heap.size ≤ k) ∧ Fresh w w' := by
  subst hn
  exact new_some most h1 h2 w

theorem feed_new {w w1 w2 : World} {rb lb : Nat} {v : Value} (hf : Fresh w w1) (ho : ∀ k, owned rb lb v k → w.heap.size ≤ k) (hk : Keeps (owned rb lb v) w1 w2) : Fresh w w2 :=
  hf.then hk (fun i hi e => by have := ho i e; omega)

theorem owned_new {w w1 : World} {rb lb lb1 : Nat} {v v1 : Value} (hs : w.heap.size ≤ w1.heap.size) (ho : ∀ k, owned rb lb v k → w.heap.size ≤ k) (hlb : lb1 = lb ∨ w1.heap.size ≤ lb1) (hn : Newer w1 v v1) : ∀ k, owned rb lb1 v1 k → w.heap.size ≤ k := by
  rintro k (rfl | rfl | e)
  · exact ho _ (.inl rfl)
  · rcases hlb with rfl | h
    · exact ho _ (.inr (.inl rfl))
    · omega
  · rcases hn k e with h | h
    · exact ho _ (.inr (.inr h))
    · omega

set_option maxHeartbeats 2000000 in
set_option maxRecDepth 100000 in
theorem alive_any (m : Int) (w : World) (hm : w.cell? ⟨0, 0, none⟩ = some (.int .i64 m)) :
    Calls Try.prog 9 #[] w fun e w' => e = .returned (.bool true) ∧ Fresh w w' := by
  go_enter Try.func9, Try.ntmps9
  go_wp2_with fail
  refine (new_int 100 100 rfl (by omega) (by omega) w).mono ?_
  rintro e w1 ⟨rb, rfl, lb, v, hrd, ho, hf1⟩
  go_wp2_with fail
  refine (feed_any 100 rb lb v [] ⟨#[97, 98, 13]⟩ w1 hrd (by omega) (by show 0 + 3 < _; omega)).mono ?_
  rintro e w2 ⟨va, rfl, lb2, v2, hrd2, hla, hlb2, hn2, hk2⟩
  have hf2 := feed_new hf1 ho hk2
  have ho2 := owned_new hf1.size ho hlb2 hn2
  have hc2 : cutFrom [] (⟨#[97, 98, 13]⟩ : ByteArray).data.toList = ([], [97, 98, 13]) := by decide
  rw [hc2] at hrd2 hla
  obtain ⟨ao, ca, rfl, _, _, _⟩ := own_form hla
  clear hc2 hrd ho hf1 hk2 hn2 hlb2
  go_wp2_with fail
  refine (feed_any 100 rb lb2 v2 _ ⟨#[10, 99, 100]⟩ w2 hrd2 (by omega) (by show 3 + 3 < _; omega)).mono ?_
  rintro e w3 ⟨vb, rfl, lb3, v3, hrd3, hlb, hlb3, hn3, hk3⟩
  have hf3 := feed_new hf2 ho2 hk3
  have hc3 : cutFrom [97, 98, 13] (⟨#[10, 99, 100]⟩ : ByteArray).data.toList = ([[97, 98]], [99, 100]) := by decide
  simp only [] at hrd3 hlb
  rw [hc3] at hrd3 hlb
  obtain ⟨bo, cb, rfl, _, hcb, hbo⟩ := own_form hlb
  obtain ⟨g, rfl⟩ := hbo (by decide)
  have hg := flat_get 100 [[97, 98]] 0 [97, 98] rfl
  have hlo : lineOf 100 [97, 98] = ([97, 98], 0) := by decide
  rw [hlo] at hg
  have c0 : w3.cell? ⟨g, 0, none⟩ = some (.string ⟨#[97, 98]⟩) := own_cell hlb 0 _ hg.1
  have c1 : w3.cell? ⟨g, 1, none⟩ = some (.int .i64 0) := own_cell hlb 1 _ hg.2
  have hm3 := hf3.cell hm
  clear hla hlb hg hlo hc3 hrd2 ho2 hf2 hk3 hn3 hlb3 hm
  simp only [List.length_cons, List.length_nil]
  go_wp2_with fail
  refine (rest_any 100 rb lb3 v3 _ w3 hrd3 (by show 2 < _; omega)).mono ?_
  rintro e w4 ⟨rfl, rfl⟩
  go_wp2_with fail
  refine (stuff_any [46, 13, 10] m (by decide) _ hm3).mono ?_
  rintro e w5 ⟨rfl, hf5⟩
  have hst : stuffL [46, 13, 10] = [46, 46, 13, 10, 46, 13, 10] := by decide
  rw [hst]
  go_wp2_with fail
  go_ret
  exact ⟨rfl, hf3.trans hf5⟩

end Go.Proofs.Ytegbkpjcjlihmaa
