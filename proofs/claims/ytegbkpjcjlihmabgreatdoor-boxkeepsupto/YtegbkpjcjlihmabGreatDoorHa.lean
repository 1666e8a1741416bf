/-
  The laws of boxes: what they share. | What the rows of BoxKeeps and BoxClean share: a script that came in, and what the listed variables give.
-/
import Derived.Test.YtegbkpjcjlihmabGreatDoorGy
import Derived.Test.YtegbkpjcjlihmabGreatDoorGz
import Derived.Test.YtegbkpjcjlihmabGreatDoorRowb
import Derived.Deep.Slices
import Derived.SliceStrings
import Derived.Lay
namespace Go.Proofs.YtegbkpjcjlihmabGreatDoor
open Go.RowKit Go.Maps Go.Sort Go.Lib

section
variable {w wr : World} {B : List Text} {p d C L n t : Nat} {A : Nat → Prop} {σ : Dk} {D : Text → Text} {l : List Lt3} {stop maybe : Bool} {x1 x2 x3 : ByteArray} {v : Value}

/-- a step, whatever it is -/
theorem step_all (h0 : PSt w (KK B t) p d C L n A σ D l stop maybe x1 x2 x3 v wr) (hG : Gl w) (h8 : 8 ≤ w.heap.size) (hB : BOk B) (ht : t < 1000000) (hn : n < 1000000) (kind : Int) (us ke da : ByteArray) (nn : Int) (tv : Value) (ts : List Int) (o : OpOk w (KK B (t + 1)) kind us ke da nn tv ts) (hC : C + 8 ≤ 1000000000) (hL : L + 4000000 ≤ 1000000000) :
    Calls Tryz.prog 25 #[ptr p, opV kind us ke da nn tv] wr (Stepped w (KK B (t + 1)) p d (C + 8) (L + (us.size + ke.size + da.size + 132)) (n + 1)) := by
  by_cases k0 : kind = 0
  · subst k0; exact step_deliver h0 hG h8 hB ht hn us ke da nn tv ts o hC hL
  by_cases k1 : kind = 1
  · subst k1; exact step_clean h0 hG h8 hB ht hn us ke da nn tv ts o hC hL
  by_cases k2 : kind = 2
  · subst k2; exact step_stop h0 hG h8 hB ht hn us ke da nn tv ts o hC hL
  by_cases k3 : kind = 3
  · subst k3; exact step_crash h0 hG h8 hB ht hn us ke da nn tv ts o hC hL
  by_cases k4 : kind = 4
  · subst k4; exact step_put h0 hG h8 hB ht hn us ke da nn tv ts o hC hL
  by_cases k5 : kind = 5
  · subst k5; exact step_beside h0 hG h8 hB ht hn us ke da nn tv ts o hC hL
  exact step_other h0 hG h8 hB ht hn kind us ke da nn tv ts o hC hL k0 k1 k2 k3 k4 k5

end

/-- a name is one of a box's -/
def boxedB (s : ByteArray) : Bool := decide (4 ≤ s.size) && (s.extract 0 4).toList == [98, 111, 120, 47]
/-- a name is one of a spool's -/
def spoolB (s : ByteArray) : Bool := decide (6 ≤ s.size) && (s.extract 0 6).toList == [115, 112, 111, 111, 108, 47]

set_option maxHeartbeats 2000000 in
theorem boxed_any (s : ByteArray) (w : World) (hs : s.size ≤ 1099511627776) : Calls Tryz.prog 24 #[.string s] w fun e w' => e = .returned (.bool (boxedB s)) ∧ Fresh w w' := by
  go_enter Tryz.func24, Tryz.ntmps24
  by_cases h4 : 4 ≤ s.size
  · have z4 : (4 : Int) ≤ (s.size : Int) := by omega
    have e : boxedB s = ((s.extract 0 4).toList == [98, 111, 120, 47]) := by unfold boxedB; rw [decide_eq_true h4]; rfl
    rw [e]
    go_wp2_with fail
    go_ret
    exact ⟨rfl, Keeps.refl _ _⟩
  · have z4 : ¬ (4 : Int) ≤ (s.size : Int) := by omega
    have e : boxedB s = false := by unfold boxedB; rw [decide_eq_false h4]; rfl
    rw [e]
    go_wp2_with fail
    go_ret
    exact ⟨rfl, Keeps.refl _ _⟩

theorem extract_take (s : ByteArray) (n : Nat) : (s.extract 0 n).toList = s.data.toList.take n := by
  rw [ByteArray.toList_eq, ByteArray.data_extract, Array.toList_extract]
  simp

theorem boxedB_iff (s : ByteArray) : boxedB s = true ↔ boxPre.isPrefixOf s.data.toList = true := by
  unfold boxedB
  rw [extract_take, Bool.and_eq_true, decide_eq_true_eq, beq_iff_eq, List.isPrefixOf_iff_prefix]
  have e : s.size = s.data.toList.length := rfl
  constructor
  · rintro ⟨_, h⟩
    exact ⟨s.data.toList.drop 4, by rw [show boxPre = s.data.toList.take 4 from h.symm]; exact List.take_append_drop _ _⟩
  · rintro ⟨r, h⟩
    rw [e, ← h]
    exact ⟨by simp [boxPre], by simp [boxPre]⟩

theorem boxedB_not {s : ByteArray} (h : boxedB s = false) : ¬ LtrN s.data.toList := fun hl => by
  obtain ⟨r, e⟩ := ltrN_pre hl
  have : boxedB s = true := (boxedB_iff s).2 (by rw [e]; rfl)
  rw [h] at this
  cases this

theorem spoolB_not {s : ByteArray} (h : spoolB s = false) : lastT.isPrefixOf s.data.toList = false := by
  cases hp : lastT.isPrefixOf s.data.toList with
  | false => rfl
  | true =>
    obtain ⟨r, e⟩ := List.isPrefixOf_iff_prefix.1 hp
    have e1 : s.size = s.data.toList.length := rfl
    have : spoolB s = true := by
      unfold spoolB
      rw [extract_take, e1, ← e]
      simp [lastT]
    rw [h] at this
    cases this

/-- an operation of a script -/
structure OpR where
  kind : Int
  us : ByteArray
  ke : ByteArray
  da : ByteArray
  nn : Int
  tv : Value
  ts : List Int

def OpR.load (o : OpR) : Nat := o.us.size + o.ke.size + o.da.size + 5
def OpR.cost (o : OpR) : Nat := o.us.size + o.ke.size + o.da.size + 132
def OpR.nm (o : OpR) : Text := nameOf o.us.data.toList o.ke.data.toList
def OpR.beside (o : OpR) : Bool := !boxedB o.us && !spoolB o.us

/-- a script, as it came in -/
def Script6 (w : World) (v : Value) (os : List OpR) : Prop :=
  ∃ ao cap, v = .slice ao os.length cap ∧ cap ≤ 9223372036854775807 ∧ os.length ≤ cap ∧
    (os.length ≠ 0 → ∃ b off, ao = some ⟨b, off, none⟩ ∧ ∀ (i : Nat) o, os[i]? = some o →
      w.cell? ⟨b, off + i * 6, none⟩ = some (.int .i64 o.kind) ∧ w.cell? ⟨b, off + i * 6 + 1, none⟩ = some (.string o.us) ∧ w.cell? ⟨b, off + i * 6 + 2, none⟩ = some (.string o.ke) ∧
      w.cell? ⟨b, off + i * 6 + 3, none⟩ = some (.string o.da) ∧ w.cell? ⟨b, off + i * 6 + 4, none⟩ = some (.int .i64 o.nn) ∧ w.cell? ⟨b, off + i * 6 + 5, none⟩ = some o.tv)

def OpFits6 (w : World) (o : OpR) : Prop := (-9223372036854775808 ≤ o.kind ∧ o.kind ≤ 9223372036854775807) ∧ o.nn < 9223372036854775808 ∧ Ints w (fun _ => False) o.tv o.ts

def BB (os : List OpR) : List Text := [freshT, boxT, newT] ++ os.map OpR.nm ++ (os.filter OpR.beside).map (fun o => o.us.data.toList)

theorem load_le : ∀ (os : List OpR) o, o ∈ os → o.load ≤ (os.map OpR.load).sum
  | [], o, h => by cases h
  | a :: os, o, h => by
    rw [List.map_cons, List.sum_cons]
    rcases List.mem_cons.1 h with rfl | h
    · omega
    · have := load_le os o h; omega

theorem len_load (os : List OpR) : 5 * os.length ≤ (os.map OpR.load).sum := by
  induction os with
  | nil => simp
  | cons a l ih => simp only [List.map_cons, List.sum_cons, List.length_cons, OpR.load]; omega

theorem cost_load (os : List OpR) : (os.map OpR.cost).sum ≤ 27 * (os.map OpR.load).sum := by
  induction os with
  | nil => simp
  | cons a l ih =>
    simp only [List.map_cons, List.sum_cons]
    have e1 : a.load = a.us.size + a.ke.size + a.da.size + 5 := rfl
    have e2 : a.cost = a.us.size + a.ke.size + a.da.size + 132 := rfl
    omega

theorem cost_take (os : List OpR) (i : Nat) : ((os.take i).map OpR.cost).sum ≤ (os.map OpR.cost).sum := by
  have h := congrArg (fun l => (l.map OpR.cost).sum) (List.take_append_drop i os)
  simp only [List.map_append, List.sum_append] at h
  omega

theorem BB_ok {os : List OpR} (h : (os.map OpR.load).sum ≤ 1048576) : BOk (BB os) := by
  have hl := len_load os
  have hsz : ∀ o ∈ os, o.us.data.toList.length ≤ 1048576 ∧ o.ke.data.toList.length ≤ 1048576 := fun o ho => by
    have := load_le os o ho
    have e1 : o.us.data.toList.length = o.us.size := rfl
    have e2 : o.ke.data.toList.length = o.ke.size := rfl
    have e3 : o.load = o.us.size + o.ke.size + o.da.size + 5 := rfl
    omega
  have hmem : ∀ s ∈ BB os, s = freshT ∨ s = boxT ∨ s = newT ∨ (∃ o ∈ os, s = o.nm) ∨ (∃ o ∈ os, o.beside = true ∧ s = o.us.data.toList) := fun s hs => by
    unfold BB at hs
    simp only [List.cons_append, List.nil_append, List.mem_cons, List.mem_append, List.mem_map, List.mem_filter] at hs
    rcases hs with hs | hs | hs | ⟨o, ho, rfl⟩ | ⟨o, ⟨ho, hb⟩, rfl⟩
    · exact .inl hs
    · exact .inr (.inl hs)
    · exact .inr (.inr (.inl hs))
    · exact .inr (.inr (.inr (.inl ⟨o, ho, rfl⟩)))
    · exact .inr (.inr (.inr (.inr ⟨o, ho, hb, rfl⟩)))
  refine ⟨by simp [BB], by simp [BB], by simp [BB], fun s hs => ?_, fun s hs => ?_, fun s hs x hx => ?_, ?_⟩
  · rcases hmem s hs with rfl | rfl | rfl | ⟨o, ho, rfl⟩ | ⟨o, ho, hb, rfl⟩
    · decide
    · decide
    · decide
    · rfl
    · unfold OpR.beside at hb
      simp only [Bool.and_eq_true, Bool.not_eq_true'] at hb
      exact spoolB_not hb.2
  · rcases hmem s hs with rfl | rfl | rfl | ⟨o, ho, rfl⟩ | ⟨o, ho, hb, rfl⟩
    · decide
    · decide
    · decide
    · have := nameOf_len o.us.data.toList o.ke.data.toList (by have := hsz o ho; omega)
      have := hsz o ho
      unfold OpR.nm
      omega
    · have := hsz o ho
      omega
  · rcases hmem s hs with rfl | rfl | rfl | ⟨o, ho, rfl⟩ | ⟨o, ho, hb, rfl⟩
    · rw [letterOf_fresh] at hx; cases hx
    · obtain ⟨r, e⟩ := letterOf_box hx; simp [boxT] at e
    · obtain ⟨r, e⟩ := letterOf_box hx; simp [newT] at e
    · have hlt : o.us.data.toList.length < 1000000000000000000 := by have := hsz o ho; omega
      unfold OpR.nm at hx ⊢
      rw [letterOf_nameOf _ _ hlt] at hx
      obtain rfl := Option.some.inj hx
      exact ⟨rfl, hlt⟩
    · obtain ⟨r, e⟩ := letterOf_box hx
      unfold OpR.beside at hb
      simp only [Bool.and_eq_true, Bool.not_eq_true'] at hb
      have : boxedB o.us = true := (boxedB_iff _).2 (by rw [e]; rfl)
      rw [hb.1] at this
      cases this
  · have : (os.filter OpR.beside).length ≤ os.length := List.length_filter_le _ _
    unfold BB
    simp
    omega

theorem opOk {w : World} {os : List OpR} {o : OpR} (ho : o ∈ os) (h : (os.map OpR.load).sum ≤ 1048576) (hf : OpFits6 w o) (hb : o.kind = 5 → o.beside = true) (t : Nat) : OpOk w (KK (BB os) t) o.kind o.us o.ke o.da o.nn o.tv o.ts := by
  have := load_le os o ho
  have e3 : o.load = o.us.size + o.ke.size + o.da.size + 5 := rfl
  have hm : ∀ s ∈ BB os, s ∈ KK (BB os) t := fun s hs => mem_KK.2 (.inl hs)
  refine ⟨by omega, by omega, by omega, hm _ ?_, fun e => ⟨hm _ ?_, ?_⟩, hf.2.1, fun A hA => ?_, hf.1⟩
  · unfold BB
    simp only [List.cons_append, List.nil_append, List.mem_cons, List.mem_append, List.mem_map]
    exact .inr (.inr (.inr (.inl ⟨o, ho, rfl⟩)))
  · unfold BB
    simp only [List.cons_append, List.nil_append, List.mem_cons, List.mem_append, List.mem_map, List.mem_filter]
    exact .inr (.inr (.inr (.inr ⟨o, ⟨ho, hb e⟩, rfl⟩)))
  · have := hb e
    unfold OpR.beside at this
    simp only [Bool.and_eq_true, Bool.not_eq_true'] at this
    exact boxedB_not this.1
  · obtain ⟨ao, cap, e, h1, h2, h3⟩ := hf.2.2
    refine ⟨ao, cap, e, h1, h2, fun hn => ?_⟩
    obtain ⟨b, off, e1, _, e3⟩ := h3 hn
    refine ⟨b, off, e1, fun ha => ?_, e3⟩
    obtain ⟨t0, ht0⟩ : ∃ t0, o.ts[0]? = some t0 := ⟨o.ts[0]'(by omega), List.getElem?_eq_getElem (by omega)⟩
    have := cell_lt (e3 0 t0 ht0)
    have := hA b ha
    omega

/-- the player at the start -/
theorem pst_start {w w1 : World} {B : List Text} {d : Nat} {A : Nat → Prop} (h : Live w w1 A d (KK B 0) 0 0 Dk.empty) : PSt w (KK B 0) w1.heap.size d 0 0 0 A Dk.empty (fun _ => []) [] false false ⟨#[]⟩ ⟨#[]⟩ ⟨#[]⟩ (.slice none 0 0) (w1.alloc (.cells #[ptr d, .slice none 0 0, .bool false, .bool false, .string ⟨#[]⟩, .string ⟨#[]⟩, .string ⟨#[]⟩] 69)) := by
  refine ⟨h.fresh ((Keeps.refl _ _).alloc _), heap_new _ _, fun e => Nat.lt_irrefl _ (h.1 _ e).2, h.2.2.2.size, ⟨none, 0, rfl, fun i x hx => by simp at hx, fun g hg => by cases hg⟩, Bst.empty _ _, Nat.le_refl _, fun y hy => absurd hy (by simp), by decide, by decide⟩

theorem PAny.skip {w : World} {B : List Text} {p d C L n t : Nat} {wr : World} (h : PAny w (KK B t) p d C L n wr) {C' L' n' : Nat} (hC : C ≤ C') (hL : L ≤ L') (hn : n ≤ n') : PAny w (KK B (t + 1)) p d C' L' n' wr := by
  obtain ⟨stop, A, σ, D, l, maybe, x1, x2, x3, v, hp⟩ := h
  exact (hp.moreK (K' := KK B (t + 1)) (fun s hs => KK_sub hs) (by rw [KK_len, KK_len]; omega)).any hC hL hn

theorem PAny.fresh {w : World} {K : List Text} {p d C L n : Nat} {wr w' : World} (h : PAny w K p d C L n wr) (k : Fresh wr w') : PAny w K p d C L n w' := by
  obtain ⟨stop, A, σ, D, l, maybe, x1, x2, x3, v, hp⟩ := h
  exact (hp.freshen k).any (Nat.le_refl _) (Nat.le_refl _) (Nat.le_refl _)

theorem PAny.frame {w : World} {K : List Text} {p d C L n : Nat} {wr : World} (h : PAny w K p d C L n wr) : Fresh w wr := by
  obtain ⟨stop, A, σ, D, l, maybe, x1, x2, x3, v, hp⟩ := h
  exact hp.live.2.2.2

end Go.Proofs.YtegbkpjcjlihmabGreatDoor

namespace Go.Proofs.YtegbkpjcjlihmabGreatDoor
open Go.ChangeShapes Go.WideShapes Go.ChangeAt Go.RowKit
open Go.ChangeMaps (open_string shut_string)

theorem heap8 (W : World) (h : W.ShapedOpen Tryz.prog) : 8 ≤ W.heap.size := by
  obtain ⟨z, hz⟩ : ∃ z, ((begin Tryz.prog (fun _ _ => 0) default).world.heap[7]?).bind Obj.row? = some z := Option.isSome_iff_exists.1 (by kernel_rfl)
  obtain ⟨cs, hc, _⟩ := h.1 7 z.1 z.2 (of_decide_eq_true (by kernel_rfl)) hz
  have := (Array.getElem?_eq_some_iff.1 hc).1
  omega

/-- what the list gives -/
theorem gl_keeps {W : World} (h : laidMetH Tryz.prog Rows.boxKeepsUptoRow.laid W) (hs : W.ShapedOpen Tryz.prog) : Gl W := by
  rw [MakeChecks.laidMetH_plain _ _ _ (by kernel_rfl)] at h
  have h2 := laidMet.tail (laidMet.tail h)
  have h3 := laidMet.tail (laidMet.tail h2)
  have h4 := laidMet.tail h3
  rw [pow_tab] at h2
  obtain ⟨a0, s0, hv0, -, -, -⟩ := laid_sentinel h3 gER gERType Tryz.underlying117 row285 Tryz.underlying285 Tryz.underlying287 rfl rfl Tryz.underlying9 cells287 cells9
  obtain ⟨a1, s1, hv1, -, -, -⟩ := laid_sentinel h4 gES gESType Tryz.underlying117 row285 Tryz.underlying285 Tryz.underlying287 rfl rfl Tryz.underlying9 cells287 cells9
  exact ⟨Lib.tabIs_of_head gPow gPowType Tryz.underlying274 Tryz.underlying225 cells225 cells274 h2, ⟨_, _, hv1⟩, ⟨_, _, hv0⟩, maxLen_cell W hs⟩

/-- the witness of a row, in a world whose shape is shown otherwise -/
theorem witness_zip {H : Type} {enc : TypeId × Value → H} {C : Checked} {os : Os} {f : FuncId} {fn : Func} {s : OpenSpec} {conds : List PathCond} {apart : Bool} {laid : List (String × DataW Unit)} (modest : Bool) (w0 : World) (args : Array Value) (hos : w0.os = os)
    (hsh : (w0.forCall (fun _ _ => 0) ⟨#[], args, []⟩).Shaped C.prog)
    (hok : Input.okWideB C.prog (w0.forCall (fun _ _ => 0) ⟨#[], args, []⟩) f ⟨#[], args, []⟩ = true)
    (hrow : s.preRow enc C.prog fn conds apart laid (w0.forCall (fun _ _ => 0) ⟨#[], args, []⟩).memory args) :
    ∃ (w : World) (tape : Tape) (i : Input), w.os = os ∧ (w.forCall tape i).Shaped C.prog ∧ i.vars = [] ∧ Input.okWide C.prog (w.forCall tape i) .any w.heap.size f i ∧
      s.preRow enc C.prog fn conds apart laid (w.forCall tape i).memory i.args ∧ ({ modest := modest } : Assume).holds C.prog (lone (Frame.enter C.prog f i.args .normal) [] (w.forCall tape i)) :=
  ⟨w0, fun _ _ => 0, ⟨#[], args, []⟩, hos, hsh, (Input.okWide_of_okWideB (base := 0) hok).1, (Input.okWide_of_okWideB hok).2, hrow, by
    simp only [Assume.holds]
    exact ⟨by simp, by simp, fun _ => Modest.zero, by simp, by simp⟩⟩

theorem cells71 : Tryz.prog.cellsOf 71 = 6 := by kernel_rfl

theorem read_int {H : Type} {enc : TypeId × Value → H} {W : World} {fuel : Nat} {cs : List Value} {x : DataW H × List MemPlace}
    (h : DataW.trod enc Tryz.prog W 0 (fun _ => true) true fuel 3 cs = some x) : ∃ k, cs = [.int .i64 k] ∧ 1 ≤ Rows.uptoBulk x.1 ∧ (-9223372036854775808 ≤ k ∧ k < 9223372036854775808) := by
  obtain ⟨k, rfl, rfl, hw⟩ := DataW.trod_int Tryz.underlying3 h
  refine ⟨k, rfl, by simp [Rows.uptoBulk], ?_⟩
  have e1 : IntKind.i64.min = -9223372036854775808 := by decide
  have e2 : IntKind.i64.max = 9223372036854775807 := by decide
  simp [Lit.wf, e1, e2] at hw
  omega

theorem read_str {H : Type} {enc : TypeId × Value → H} {W : World} {fuel : Nat} {cs : List Value} {x : DataW H × List MemPlace}
    (h : DataW.trod enc Tryz.prog W 0 (fun _ => true) true fuel 9 cs = some x) : ∃ s : ByteArray, cs = [.string s] ∧ s.size + 1 ≤ Rows.uptoBulk x.1 ∧ s.size ≤ maxLen := by
  obtain ⟨s, rfl, rfl, hw⟩ := DataW.trod_string Tryz.underlying9 h
  refine ⟨s, rfl, ?_, hw⟩
  simp [Rows.uptoBulk]

theorem cells_at {W : World} {a : Addr} {n : Nat} {cs : List Value} (h : W.cells? 0 a n = some cs) : cs.length = n ∧ ∀ j v, cs[j]? = some v → W.cell? (a.add j) = some v := by
  obtain ⟨_, hl, hc⟩ := World.cells?_some h
  refine ⟨hl, fun j v hj => ?_⟩
  have hlt : j < n := by rw [← hl]; exact (List.getElem?_eq_some_iff.1 hj).1
  rw [hc j hlt]; exact hj

/-- what is known of one operation that was read -/
def OpAt6 (W : World) (a : Addr) (i : Nat) (o : OpR) : Prop :=
  W.cell? (a.add (i * 6)) = some (.int .i64 o.kind) ∧ W.cell? (a.add (i * 6 + 1)) = some (.string o.us) ∧ W.cell? (a.add (i * 6 + 2)) = some (.string o.ke) ∧ W.cell? (a.add (i * 6 + 3)) = some (.string o.da) ∧
  W.cell? (a.add (i * 6 + 4)) = some (.int .i64 o.nn) ∧ W.cell? (a.add (i * 6 + 5)) = some o.tv

set_option maxRecDepth 100000 in
/-- one operation that came in -/
theorem open_op6 {H : Type} {enc : TypeId × Value → H} {W : World} {fuel i : Nat} {a : Addr} {cs : List Value} {x : DataW H × List MemPlace}
    (hc : W.cells? 0 (a.add (i * 6)) 6 = some cs) (h : DataW.trod enc Tryz.prog W 0 (fun _ => true) true fuel 71 cs = some x) : ∃ o, OpAt6 W a i o ∧ OpFits6 W o ∧ o.load ≤ Rows.uptoBulk x.1 := by
  obtain ⟨hl, hcell⟩ := cells_at hc
  obtain ⟨xs, n, _, rfl, _, hxl, hf⟩ := DataW.trod_struct Tryz.underlying71 h
  match cs, hl, xs, hxl with
  | [c0, c1, c2, c3, c4, c5], _, [x0, x1, x2, x3, x4, x5], _ =>
    have f0 := hf 0 _ rfl
    have f1 := hf 1 _ rfl
    have f2 := hf 2 _ rfl
    have f3 := hf 3 _ rfl
    have f4 := hf 4 _ rfl
    have f5 := hf 5 _ rfl
    have e3 : Tryz.prog.cellsOf 3 = 1 := cells3
    have e9 : Tryz.prog.cellsOf 9 = 1 := cells9
    have e31 : Tryz.prog.cellsOf 31 = 1 := by kernel_rfl
    simp [e3, e9, e31] at f0 f1 f2 f3 f4 f5
    obtain ⟨k, hk, b0, kb⟩ := read_int f0
    obtain ⟨us, hn, b1, s1⟩ := read_str f1
    obtain ⟨ke, hs, b2, s2⟩ := read_str f2
    obtain ⟨da, hd, b3, s3⟩ := read_str f3
    obtain ⟨m, hm, b4, s4⟩ := read_int f4
    obtain ⟨ts, ht, b5, _⟩ := open_nums f5
    simp at hk hn hs hd hm
    subst hk hn hs hd hm
    have g := fun j v hj => hcell j v hj
    refine ⟨⟨k, us, ke, da, m, c5, ts⟩, ⟨?_, ?_, ?_, ?_, ?_, ?_⟩, ⟨⟨kb.1, by simp only; omega⟩, s4.2, ht⟩, ?_⟩
    · have := g 0 _ rfl; rw [Deep.add_add] at this; exact this
    · have := g 1 _ rfl; rw [Deep.add_add] at this; exact this
    · have := g 2 _ rfl; rw [Deep.add_add] at this; exact this
    · have := g 3 _ rfl; rw [Deep.add_add] at this; exact this
    · have := g 4 _ rfl; rw [Deep.add_add] at this; exact this
    · have := g 5 _ rfl; rw [Deep.add_add] at this; exact this
    · simp only [OpR.load, List.map_cons, List.map_nil, Rows.uptoBulk, Rows.uptoBulkAll]
      omega

theorem sum_bulk {H : Type} (D : Nat → DataW H) (f : Nat → Nat) : ∀ l : List Nat, (∀ i ∈ l, f i ≤ Rows.uptoBulk (D i)) → (l.map f).sum ≤ Rows.uptoBulkAll (l.map D)
  | [], _ => by simp [Rows.uptoBulkAll]
  | a :: l, h => by
    have h1 := h a (by simp)
    have h2 := sum_bulk D f l (fun i hi => h i (by simp [hi]))
    simp only [List.map_cons, List.sum_cons, Rows.uptoBulkAll]
    omega

set_option maxRecDepth 100000 in
/-- a script that came in, nil or not -/
theorem open_ops6 {H : Type} {enc : TypeId × Value → H} {W : World} {base : Nat} {v : Value} {d : DataW H} {p : List MemPlace}
    (hv : Value.okWide Tryz.prog W .any base 63 v) (h : DataW.Trod enc Tryz.prog W 0 (fun _ => true) true 63 v d p) :
    ∃ os, Script6 W v os ∧ (∀ o ∈ os, OpFits6 W o) ∧ (os.map OpR.load).sum ≤ Rows.uptoBulk d := by
  obtain ⟨a0, len, cap, rfl⟩ := okWide_slice Tryz.underlying63 hv
  obtain ⟨fuel, hf⟩ := h
  rcases Deep.open_slice Tryz.underlying63 hf with ⟨hcs, hx⟩ | ⟨a, len', cap', m, n, D, Pl, hcs, _, hl, hm, hmm, hx, hel⟩
  · simp [Value.cells] at hcs
    obtain ⟨rfl, rfl, rfl⟩ := hcs
    exact ⟨[], ⟨none, 0, rfl, by omega, Nat.le_refl _, fun h => absurd rfl h⟩, (by intro o ho; cases ho), Nat.zero_le _⟩
  · simp [Value.cells] at hcs
    obtain ⟨rfl, rfl, rfl⟩ := hcs
    simp only [Prod.mk.injEq] at hx
    obtain ⟨rfl, rfl⟩ := hx
    simp only [if_true] at hmm
    subst hmm
    rw [cells71] at hel
    haveI : Inhabited OpR := ⟨⟨0, ⟨#[]⟩, ⟨#[]⟩, ⟨#[]⟩, 0, .bool false, []⟩⟩
    obtain ⟨O, hO⟩ := Deep.choose_lt (α := OpR) (n := len) (p := fun i o => OpAt6 W a i o ∧ OpFits6 W o ∧ o.load ≤ Rows.uptoBulk (D i)) (fun i hi => by
      obtain ⟨cs', h1, h2⟩ := hel i (by omega)
      exact open_op6 h1 h2)
    have hlen : ((List.range len).map O).length = len := by simp
    refine ⟨(List.range len).map O, ⟨some a, m, by rw [hlen], by unfold maxLen at hm; omega, by rw [hlen]; exact hl, fun h0 => ?_⟩, fun o ho => ?_, ?_⟩
    · rw [hlen] at h0
      obtain ⟨b, off, spot⟩ := a
      have hspot : spot = none := by
        obtain ⟨⟨h0', _⟩, _⟩ := hO 0 (by omega)
        simpa [Addr.add] using World.cell?_spot h0'
      subst hspot
      refine ⟨b, off, rfl, fun k o hk => ?_⟩
      have hkl : k < len := by
        have := (List.getElem?_eq_some_iff.1 hk).1
        rwa [hlen] at this
      have hok : O k = o := by
        simp [hkl] at hk
        exact hk
      have hadd : ∀ j, (⟨b, off, none⟩ : Addr).add j = ⟨b, off + j, none⟩ := fun j => by unfold Addr.add; split <;> simp_all
      obtain ⟨⟨h0, h1, h2, h3, h4, h5⟩, _⟩ := hO k hkl
      rw [hok] at h0 h1 h2 h3 h4 h5
      simp only [hadd, ← Nat.add_assoc] at h0 h1 h2 h3 h4 h5
      exact ⟨h0, h1, h2, h3, h4, h5⟩
    · obtain ⟨i, hi, rfl⟩ := List.mem_map.1 ho
      exact (hO i (List.mem_range.1 hi)).2.1
    · have := sum_bulk D (fun i => (O i).load) (List.range len) (fun i hi => (hO i (List.mem_range.1 hi)).2.2)
      simp only [Rows.uptoBulk]
      rw [List.map_map]
      have e : (OpR.load ∘ O) = fun i => (O i).load := rfl
      rw [e]
      omega

end Go.Proofs.YtegbkpjcjlihmabGreatDoor
