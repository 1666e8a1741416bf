/-
  The names of a map, sorted; a map's copy.
-/
import Derived.Test.YtegbkpjcjlihmaaLaid
import Derived.Test.YtegbkpjcjlihmaaMp
namespace Go.Proofs.Ytegbkpjcjlihmaa
open Go.RowKit Go.Maps Go.Sort Go.Shelf

theorem sorts32 (m : Nat) : AnyZ.SortsIn Try.prog Try.sorted84_ren Fence.wide m :=
  ⟨fun blk off cap ss W hH hblk hsz => callsIn_wide.2 (AnyM.slices_Sort_string Try.sort96 blk off cap ss W hH hblk hsz),
   fun p cap W => callsIn_wide.2 (AnyM.slices_Sort_string_none Try.sort96 p cap W)⟩

theorem keys33 (mb : Option Nat) (W : World) : Calls Try.prog 85 #[.map mb] W fun e w' => e = .returned (.func (.func 97) #[] #[.pointer (some ⟨W.heap.size, 0, none⟩)]) ∧ w' = W.alloc (.cells #[.map mb] 77) :=
  (callsIn_wide (n := 5)).1 (AnyZ.keys_in Try.keys85 Fence.wide 5 trivial rfl mb W)

set_option maxHeartbeats 1000000 in
theorem sorted32 {H : Type} (b nn : Nat) (D0 : DataW H) (R : Value → Option (DataW H × List MemPlace)) (w : World) (hown : w.ownsMap Try.prog 9 R b nn D0) (hmax : Maps.size D0 ≤ maxLen) (hbytes : Maps.size D0 * 16 ≤ 140737488355328) :
    Calls Try.prog 84 #[.func (.func 97) #[] #[.pointer (some ⟨w.heap.size, 0, none⟩)]] (w.alloc (.cells #[.map (some b)] 77)) fun e w' => ∃ (v : Value) (ss : List (List UInt8)), e = .returned v ∧ ss.Perm (strKeys D0) ∧
      w'.ownsRow (w.alloc (.cells #[.map (some b)] 77)).heap.size 9 1 v ss.length ((ss.mergeSort (fun x y => decide (x ≤ y))).map encStr) ∧ (v = .slice none 0 0 ↔ ss = []) ∧ Below (w.alloc (.cells #[.map (some b)] 77)).heap.size (w.alloc (.cells #[.map (some b)] 77)) w' := by
  refine (callsIn_wide (n := 5)).1 ?_
  have hbl := hown.lt
  have hseq : SeqGives Fence.wide 2 Try.prog 97 #[.pointer (some ⟨w.heap.size, 0, none⟩)] encStr (fun ss => ss.Perm (strKeys D0)) (Maps.size D0) (w.alloc (.cells #[.map (some b)] 77)) :=
    AnyZ.keys_gives (ρ := Try.keys85_ren) { Try.keys85 with } Fence.wide _ trivial rfl (by omega) w.heap.size b nn D0 _ (by simp) (by simp) (by
      obtain ⟨es, clock, hb, Ft, hs, hD⟩ := hown
      exact ⟨es, clock, (Below.heap_alloc _ _ b hbl).trans hb, Ft, hs, hD⟩)
  exact AnyZ.sorted_in Try.sorted84 Fence.wide 5 trivial trivial trivial trivial rfl (by omega) (sorts32 _) (enters_of Try.func96 (by kernel_rfl) rfl) 97 #[.pointer (some ⟨w.heap.size, 0, none⟩)] trivial (enters_of Try.func97 (by kernel_rfl) rfl) _ _ hmax hbytes _ hseq

/-- a list of texts that was made: its row -/
def Row9 (w : World) (base : Nat) (v : Value) (ks : List Text) : Prop := w.ownsRow base 9 1 v ks.length (ks.map encStr)

set_option maxHeartbeats 1000000 in
theorem sorted_any (m n : Nat) (M : Names) (w : World) (h : MapAt w m n M) (hn : n ≤ 1099511627776) :
    Calls Try.prog 70 #[.map (some m)] w fun e w' => ∃ v ks, e = .returned v ∧ Sorted M ks ∧ ks.length ≤ n ∧ (∀ s ∈ ks, s.length ≤ maxLen) ∧ Row9 w' w.heap.size v ks ∧ Fresh w w' := by
  obtain ⟨D, ho, hk⟩ := h
  have hsz := ho.size_le
  have hc := sorted32 m n D fileR w ho (by unfold maxLen; omega) (by omega)
  have hso := fun (ss : List Text) (hp : ss.Perm (strKeys D)) => MapAt.sorted ho (fun s => (hk s).1) hp
  clear hk
  go_enter Try.func70, Try.ntmps70
  go_wp2_with (go_at_call 85; refine (keys33 _ _).mono ?_)
  rintro e w1 ⟨rfl, rfl⟩
  go_wp2_with (go_at_call 84; refine hc.mono ?_)
  rintro e w2 ⟨v, ss, rfl, hp, hrow, hnil, hb⟩
  go_wp2
  go_ret
  obtain ⟨h1, h2, h3⟩ := hso ss hp
  have hl : (ss.mergeSort leB).length = ss.length := List.length_mergeSort ss
  refine ⟨v, ss.mergeSort leB, rfl, h1, by rw [hl]; exact h2, fun s hs => h3 s (List.mem_mergeSort.1 hs), ?_, ?_⟩
  · unfold Row9
    rw [hl]
    exact owns_base hrow (fun k hk => by
      have := hrow.2
      rcases this with ⟨rfl, _⟩ | ⟨g, cap, cur, rfl, hbg, _⟩
      · simp [Value.ownBlock] at hk
      · simp [Value.ownBlock] at hk
        subst hk
        simp at hbg
        omega)
  · exact ((Keeps.refl (fun _ => False) w).alloc _).then (Keeps.ofBelow (S := fun _ => False) hb) (fun _ _ h => h)

theorem clone_any (m n : Nat) (M : Names) (w : World) (h : MapAt w m n M) :
    Calls Try.prog 72 #[.map (some m)] w fun e w' => e = .returned (.map (some w.heap.size)) ∧ MapAt w' w.heap.size n M ∧ Fresh w w' := by
  obtain ⟨D, ho, hk⟩ := h
  refine (AnyW.maps_Clone_owns Try.clone72 9 fileR m n D w ho).mono fun e w' ⟨he, h1, _, hB⟩ => ?_
  exact ⟨he, ⟨D, h1, hk⟩, Keeps.ofBelow hB⟩

end Go.Proofs.Ytegbkpjcjlihmaa
