/-
  SpoolMoved, the statement.
-/
import Derived.Test.YtegbkpjcjlihmabGreatDoorIo
namespace Go.Proofs.YtegbkpjcjlihmabGreatDoor
open Go.ChangeShapes Go.WideShapes Go.ChangeAt Go.RowKit
open Go.ChangeMaps (open_string shut_string)

theorem gl_smoved {W : World} (h : laidMetH Tryz.prog Rows.spoolMovedUptoRow.laid W) (hs : W.ShapedOpen Tryz.prog) : Gl W := gl_skeeps h hs

set_option maxRecDepth 100000 in
/-- a mail that came in -/
theorem open_mail {H : Type} {enc : TypeId × Value → H} {W : World} {base : Nat} {v : Value} {d : DataW H} {p : List MemPlace}
    (hv : Value.okWide Tryz.prog W .any base 30 v) (h : DataW.Trod enc Tryz.prog W 0 (fun _ => true) true 30 v d p) :
    ∃ (fa fb dd : ByteArray) (ao : Option Addr) (cap : Nat) (tl : List Ltr), v = mailV fa fb (.slice ao tl.length cap) dd ∧ AdAt W (fun q => W.heap.size ≤ q) (.slice ao tl.length cap) tl ∧ mlW (fa.data.toList, fb.data.toList, tl, dd.data.toList) ≤ Rows.uptoBulk d := by
  obtain ⟨cs, rfl, hsz⟩ := okWide_struct Tryz.underlying30 hv
  obtain ⟨fuel, hf⟩ := h
  rw [cells30] at hsz
  obtain ⟨l⟩ := cs
  match l, hsz with
  | [c0, c1, c2, c3], _ =>
    obtain ⟨a, b, dd, tl, rfl, rfl, rfl, ht, hb⟩ := read_mail hf
    obtain ⟨ao, cap, e, h1, h2⟩ := ht
    subst e
    exact ⟨a, b, dd, ao, cap, tl, rfl, ⟨ao, cap, rfl, h1, h2⟩, Nat.le_trans (Nat.le_add_right _ 4) hb⟩

set_option maxRecDepth 100000 in
theorem smoved_contract (H : Type) (enc : TypeId × Value → H) (W : World) (base : Nat) (args : Array Value) (ds gs : List (DataW H)) (before : List MemPlace)
    (hval : ∀ (j : Nat) t v, Tryz.f4.params[j]? = some t → args[j]? = some v → Value.okWide Tryz.prog W .any base t v)
    (hW : DataW.Whole enc Tryz.prog Tryz.f4.params.toList Rows.spoolMovedSpec.vars false W args.toList ds gs before) (hk : Rows.uptoSmall H (ds ++ gs) = true) (hL : laidMetH Tryz.prog Rows.spoolMovedUptoRow.laid W) (hsh : W.ShapedOpen Tryz.prog) :
    Calls Tryz.prog 4 args W fun e W' => ∃ v, e = .returned v ∧ Rows.spoolMovedSpec.post enc Tryz.prog Tryz.f4 false true false false W args v W' := by
  have hG := gl_smoved hL hsh
  have hW' := hW
  obtain ⟨p, q, hA0, hV, rfl, hfz, hnd⟩ := hW
  have hA : DataW.TrodAll enc Tryz.prog W 0 (fun _ => true) true Tryz.f4.params.toList args.toList ds p := hA0
  rw [Tryz.params4] at hA hval
  obtain ⟨v0, vs0, d0, ds0, p0, q0, hargs, rfl, rfl, h0, r0⟩ := trodAll_cons hA
  obtain ⟨v1, vs1, d1, ds1, p1, q1, rfl, rfl, rfl, h1, r1⟩ := trodAll_cons r0
  obtain ⟨rfl, rfl, rfl⟩ := trodAll_nil r1
  have hargs' : args = #[v0, v1] := by cases args; simp_all
  clear hargs hA0 hA r0 r1
  subst hargs'
  obtain ⟨rfl, rfl⟩ := trodVars_none hV
  obtain ⟨os, hs, hof, hload⟩ := open_ops8 (hval 0 22 v0 rfl rfl) h0
  obtain ⟨fa, fb, dd, ao, cap, tl, rfl, hin, hmw⟩ := open_mail (hval 1 30 v1 rfl rfl) h1
  simp only [List.append_nil] at hW' hk
  have hb := bound hk
  simp only [Rows.uptoBulkAll] at hb
  have hlt : ∀ x ∈ p0 ++ p1, x.block < W.heap.size := fun x hx => by simpa using hW'.lt x (by simpa using hx)
  refine (smoved_law W hG (heap8 W hsh) v0 os hs (fun o ho => hof o ho (by have := load_leS os o ho; omega)) (by omega) fa fb dd ao cap tl (by omega) hin).mono fun e W' ⟨he, hf⟩ => ?_
  subst he
  have hB := hf.toBelow
  refine ⟨_, rfl, _, _, _, [], p0 ++ (p1 ++ []), [], hW', ?_, ?_, rfl, hB.frame _, fun h => by cases h⟩
  · exact trodAll_mk1 (shut_bool Tryz.underlying4 true)
  · exact trodAll_cons_mk (Below.trod laidOut (by kernel_rfl) (of_decide_eq_true (by kernel_rfl)) h0 hB (fun x hx => hlt x (List.mem_append_left _ hx))) (trodAll_cons_mk (Below.trod laidOut (by kernel_rfl) (of_decide_eq_true (by kernel_rfl)) h1 hB (fun x hx => hlt x (List.mem_append_right _ hx))) (by simp [DataW.TrodAll]))

/-- a world that fits -/
theorem smoved_met (os : Os) (args : Array Value) : laidMetH Tryz.prog Rows.spoolMovedUptoRow.laid ((World.laidAll Tryz.prog os Rows.spoolMovedUptoRow.laid).forCall (fun _ _ => 0) ⟨#[], args, []⟩).memory :=
  by rw [MakeChecks.laidMetH_plain _ _ _ (by kernel_rfl)]; exact laidMet_laidAll _ (by kernel_rfl) (by kernel_rfl)

theorem smoved_reads (os : Os) {H : Type} (enc : TypeId × Value → H) : ∃ places, DataW.whole enc Tryz.prog ((World.laidAll Tryz.prog os Rows.spoolMovedUptoRow.laid).forCall (fun _ _ => 0) ⟨#[], #[.slice none 0 0, .agg #[.string ⟨#[]⟩, .string ⟨#[]⟩, .slice none 0 0, .string ⟨#[]⟩]], []⟩).memory Tryz.f4.params.toList Rows.spoolMovedSpec.vars false #[Value.slice none 0 0, .agg #[.string ⟨#[]⟩, .string ⟨#[]⟩, .slice none 0 0, .string ⟨#[]⟩]].toList 8 = some ([.nil, .agg [.agg [.lit (.string []), .lit (.string [])], .nil, .lit (.string [])]], [], places) :=
  ⟨[], by kernel_rfl⟩

set_option maxRecDepth 100000 in
theorem smoved_lifted (os : Os) (started : os.Started) (H : Type) (enc : TypeId × Value → H) (F : Stop.Interp) :
    ReturnsInHanded {} Tryz.checked os 4 .any ((Rows.OpenSpec.upto Rows.spoolMovedSpec).preRow enc Tryz.prog Tryz.f4 Rows.spoolMovedUptoRow.domain false Rows.spoolMovedUptoRow.laid) (((Rows.OpenSpec.upto Rows.spoolMovedSpec).at F).post enc Tryz.prog Tryz.f4 false true false false) := by
  obtain ⟨places, hx⟩ := smoved_reads os enc
  refine returnsInHanded_of_row (C := Tryz.checked) (s := Rows.OpenSpec.upto Rows.spoolMovedSpec) own started (by kernel_rfl) Tryz.func4
    (witness_zip (enc := enc) (C := Tryz.checked) false (World.laidAll Tryz.prog os Rows.spoolMovedUptoRow.laid) #[.slice none 0 0, .agg #[.string ⟨#[]⟩, .string ⟨#[]⟩, .slice none 0 0, .string ⟨#[]⟩]] (World.laidAll_os _ _ _) (World.shaped_of_ZipB (by kernel_rfl) (by kernel_rfl)) (by kernel_rfl)
      (OpenSpec.preRow_of_cond 8 hx (by kernel_rfl) (fun k hk => by cases hk; kernel_rfl) (by kernel_rfl) (smoved_met os _))) ?_
  intro W base args ds gs before hval hW _ hcond _ hL hsh _
  exact smoved_contract H enc W base args ds gs before hval hW (hcond _ rfl) hL hsh

theorem smoved_said : Rows.SpoolMovedUptoSaid :=
  OpenClaim.holds_of_cond 4 Tryz.f4 rfl rfl rfl rfl rfl rfl rfl ⟨rfl, rfl, rfl, rfl, rfl⟩ rfl rfl rfl rfl rfl (by kernel_rfl) Tryz.func4 (by kernel_rfl)
    (of_decide_eq_true (by kernel_rfl)) (by unfold Func.isWrapper; first | (rw [if_pos (by decide +kernel)]; kernel_rfl) | (rw [if_neg (by decide +kernel)]; exact ⟨rfl, rfl⟩))
    (fun os started H enc _ F => by rw [OpenClaim.pre_eq_preRow]; exact smoved_lifted os started H enc F)

theorem smoved_plain (f : FuncId) (fn : Func) (hf : Tryz.pinned.checked.prog.funcNamed "post/postlaw05.SpoolMoved" = some f) (hfn : Tryz.pinned.checked.prog.funcs[f]? = some fn) :
    true = Tryz.pinned.checked.prog.looks [] ∧ ∀ (j : Nat) t, fn.params[j]? = some t → Tryz.pinned.checked.prog.wantsStandIn t = false := by
  obtain rfl : f = 4 := Option.some.inj ((show Tryz.prog.funcNamed "post/postlaw05.SpoolMoved" = some 4 by kernel_rfl).symm.trans hf) |>.symm
  obtain rfl : fn = Tryz.f4 := (Option.some.inj (Tryz.func4.symm.trans hfn)).symm
  refine ⟨by kernel_rfl, fun j t ht => ?_⟩
  rw [Tryz.params4] at ht
  have hm := Array.mem_of_getElem? ht
  simp only [List.mem_toArray, List.mem_cons, List.mem_nil_iff, or_false] at hm
  rcases hm with hm | hm
  · subst hm
    show Tryz.prog.wantsStandIn 22 = false
    kernel_rfl
  · subst hm
    show Tryz.prog.wantsStandIn 30 = false
    kernel_rfl

theorem spoolMoved_upto : Rows.SpoolMovedUptoCardSaid :=
  Claim7.holds_tied_plain_at .later [] _ _ _ _ smoved_said (fun _ h => by cases h) (by kernel_rfl) (fun _ h => by cases h) spoolMovedUpto_row_tie rfl ⟨rfl, rfl⟩ (by kernel_rfl) rfl smoved_plain (by kernel_rfl)
#print axioms spoolMoved_upto
end Go.Proofs.YtegbkpjcjlihmabGreatDoor
