/-
  DiskAll, the statement.
-/
import Derived.Test.YtegbkpjcjlihmaaRowa
import Derived.Test.YtegbkpjcjlihmaaLawAll
import Derived.OpenShut
namespace Go.Proofs.Ytegbkpjcjlihmaa
open Go.ChangeShapes Go.WideShapes Go.ChangeAt Go.RowKit

set_option maxRecDepth 100000 in
theorem all_contract (H : Type) (enc : TypeId × Value → H) (W : World) (base : Nat) (args : Array Value) (ds gs : List (DataW H)) (before : List MemPlace)
    (hval : ∀ (j : Nat) t v, Try.f7.params[j]? = some t → args[j]? = some v → Value.okWide Try.prog W .any base t v)
    (hW : DataW.Whole enc Try.prog Try.f7.params.toList Rows.diskAllSpec.vars false W args.toList ds gs before) (hk : Rows.uptoSmall H (ds ++ gs) = true) :
    Calls Try.prog 7 args W fun e W' => ∃ v, e = .returned v ∧ Rows.diskAllSpec.post enc Try.prog Try.f7 false true false false W args v W' := by
  have hW' := hW
  obtain ⟨p, q, hA0, hV, rfl, hfz, hnd⟩ := hW
  have hA : DataW.TrodAll enc Try.prog W 0 (fun _ => true) true Try.f7.params.toList args.toList ds p := hA0
  rw [Try.params7] at hA hval
  obtain ⟨v0, vs0, d0, ds0, p0, q0, hargs, rfl, rfl, h0, r0⟩ := trodAll_cons hA
  obtain ⟨v1, vs1, d1, ds1, p1, q1, rfl, rfl, rfl, h1, r1⟩ := trodAll_cons r0
  obtain ⟨rfl, rfl, rfl⟩ := trodAll_nil r1
  have hargs' : args = #[v0, v1] := by cases args; simp_all
  clear hargs hA0 hA r0 r1
  subst hargs'
  obtain ⟨rfl, rfl⟩ := trodVars_none hV
  obtain ⟨xs, hs0, hf0, hl0⟩ := open_ops (hval 0 44 v0 rfl rfl) h0
  obtain ⟨ys, hs1, hf1, hl1⟩ := open_ops (hval 1 44 v1 rfl rfl) h1
  simp only [List.append_nil] at hW' hk
  have hb := bound hk
  simp only [Rows.uptoBulkAll] at hb
  have hn0 := length_load xs
  have hn1 := length_load ys
  have hlt : ∀ x ∈ p0 ++ p1, x.block < W.heap.size := fun x hx => by simpa using hW'.lt x (by simpa using hx)
  have hKl : (namesOf xs ++ namesOf ys).length ≤ 8388608 := by rw [List.length_append, namesOf_length, namesOf_length]; omega
  refine (lawAll (namesOf xs ++ namesOf ys) v0 v1 xs ys W hs0 hs1 (calm_of (fun o ho => ⟨List.mem_append_left _ (namesOf_mem ho).1, List.mem_append_left _ (namesOf_mem ho).2⟩) hf0 (by omega)) (calm_of (fun o ho => ⟨List.mem_append_right _ (namesOf_mem ho).1, List.mem_append_right _ (namesOf_mem ho).2⟩) hf1 (by omega)) hKl (by omega) (by omega)).mono fun e W' ⟨he, hf⟩ => ?_
  subst he
  have hB := hf.toBelow
  refine ⟨_, rfl, _, _, _, [], p0 ++ (p1 ++ []), [], hW', ?_, ?_, rfl, hB.frame _, fun h => by cases h⟩
  · exact trodAll_mk1 (shut_bool Try.underlying4 true)
  · exact trodAll_cons_mk (Below.trod laidOut (by kernel_rfl) (of_decide_eq_true (by kernel_rfl)) h0 hB (fun x hx => hlt x (by simp [hx])))
      (trodAll_cons_mk (Below.trod laidOut (by kernel_rfl) (of_decide_eq_true (by kernel_rfl)) h1 hB (fun x hx => hlt x (by simp [hx]))) (by simp [DataW.TrodAll]))

set_option maxRecDepth 100000 in
theorem all_lifted (os : Os) (started : os.Started) (H : Type) (enc : TypeId × Value → H) (F : Stop.Interp) :
    ReturnsInHanded {} Try.checked os 7 .any ((Rows.OpenSpec.upto Rows.diskAllSpec).pre6 enc Try.prog Try.f7 Rows.diskAllUptoRow.domain false) (((Rows.OpenSpec.upto Rows.diskAllSpec).at F).post enc Try.prog Try.f7 false true false false) := by
  refine handed_cond_shaped (C := Try.checked) (s := Rows.OpenSpec.upto Rows.diskAllSpec) (k := Rows.uptoSmall) rfl own started (by kernel_rfl) Try.func7
    (OpenSpec.witness (enc := enc) (C := Try.checked) (s := Rows.OpenSpec.upto Rows.diskAllSpec) (k := Rows.uptoSmall) rfl false ⟨#[], #[.slice none 0 0, .slice none 0 0], []⟩ 8 (by kernel_rfl) (by kernel_rfl) (by kernel_rfl)
      (x := ([.nil, .nil], [], [])) (by kernel_rfl) rfl (by kernel_rfl)) ?_
  intro W base args ds gs before hval hW hk _
  exact all_contract H enc W base args ds gs before hval hW hk

theorem diskAll_upto : Rows.DiskAllUptoSaid :=
  OpenClaim.holds_of_cond 7 Try.f7 rfl rfl rfl rfl rfl rfl rfl ⟨rfl, rfl, rfl, rfl, rfl⟩ rfl rfl rfl rfl rfl (by kernel_rfl) Try.func7 (by kernel_rfl)
    (of_decide_eq_true (by kernel_rfl)) (by unfold Func.isWrapper; first | (rw [if_pos (by decide +kernel)]; kernel_rfl) | (rw [if_neg (by decide +kernel)]; exact ⟨rfl, rfl⟩))
    (fun os started H enc _ F => all_lifted os started H enc F)
#print axioms diskAll_upto
end Go.Proofs.Ytegbkpjcjlihmaa
