/-
  What the rows' proofs share: the wrap, a list of calls that came in, and what the bound gives.
-/
import Derived.Test.YtegbkpjcjlihmabRows
import Derived.Test.YtegbkpjcjlihmabDod
import Derived.ProofKit
import Derived.JoinedCond
import Derived.SliceStrings
import Derived.HandedShaped
import Derived.Deep.Slices
namespace Go.Proofs.Ytegbkpjcjlihmab
open Go.ChangeShapes Go.WideShapes Go.ChangeAt Go.RowKit
open Go.ChangeMaps (open_string shut_string)

theorem own : ownKnob Try.prog.godebug = none := by kernel_rfl
theorem laidOut : laidOutB Try.prog = true := by kernel_rfl
theorem cells9 : Try.prog.cellsOf 9 = 1 := by kernel_rfl
theorem cells3 : Try.prog.cellsOf 3 = 1 := by kernel_rfl
theorem cells28 : Try.prog.cellsOf 28 = 5 := by kernel_rfl

/-- the wrap: a condition of the specification's own, and the world's shape -/
theorem handed_cond_shaped {H : Type} {enc : TypeId × Value → H} {a : Assume} {C : Checked} {os : Os} {f : FuncId} {fn : Func} {s : OpenSpec} {k : (H : Type) → List (DataW H) → Bool} (hk : s.cond = some k) {F : Stop.Interp} {conds : List PathCond} {apart fresh handsOn again : Bool}
    (own : ownKnob C.prog.godebug = none) (started : os.Started) (noInit : C.prog.inits.idxOf? f = none) (hfn : C.prog.funcs[f]? = some fn)
    (witness : ∃ (w : World) (tape : Tape) (i : Input), w.os = os ∧ (w.forCall tape i).Shaped C.prog ∧ i.vars = [] ∧ Input.okWide C.prog (w.forCall tape i) .any w.heap.size f i ∧
      s.pre6 enc C.prog fn conds apart (w.forCall tape i).memory i.args ∧ a.holds C.prog (lone (Frame.enter C.prog f i.args .normal) [] (w.forCall tape i)))
    (contract : ∀ (W : World) (base : Nat) (args : Array Value) (ds gs : List (DataW H)) (before : List MemPlace),
      (∀ (j : Nat) t v, fn.params[j]? = some t → args[j]? = some v → Value.okWide C.prog W .any base t v) →
      DataW.Whole enc C.prog fn.params.toList s.vars apart W args.toList ds gs before → k H (ds ++ gs) = true → W.ShapedOpen C.prog →
      Calls C.prog f args W fun e W' => ∃ v, e = .returned v ∧ (s.at F).post enc C.prog fn apart fresh handsOn again W args v W') :
    ReturnsInHanded a C os f .any (s.pre6 enc C.prog fn conds apart) ((s.at F).post enc C.prog fn apart fresh handsOn again) := by
  refine returnsInHanded_of_calls own started noInit witness ?_
  intro w tape i _ hsh _ hok hpre _
  obtain ⟨_, _, _, fn', hfn', _, _, _, _, hval⟩ := hok
  have e : fn' = fn := Option.some.inj (hfn'.symm.trans hfn)
  subst e
  obtain ⟨ds, gs, before, hw, _, hkk⟩ := (OpenSpec.pre_some hk conds apart _ _).1 hpre.1
  have hw' := DataW.Whole.of_heap (w' := w.forCall tape i) (by rfl) hw
  refine (contract (w.forCall tape i) w.heap.size i.args ds gs before hval hw' hkk hsh).mono fun e W' ⟨v, he, hp⟩ => ?_
  subst he
  exact ChangeSpec.post_blind hp

theorem bound {H : Type} {l : List (DataW H)} (hk : Rows.uptoSmall H l = true) : Rows.uptoBulkAll l ≤ 1048576 := of_decide_eq_true hk

theorem bulk_lits {H : Type} (k : IntKind) (zs : List Int) : Rows.uptoBulkAll (lits (H := H) k zs) = zs.length := by
  induction zs with
  | nil => simp [lits, Rows.uptoBulkAll]
  | cons a l ih =>
    have e : lits (H := H) k (a :: l) = .lit (.int k a) :: lits k l := rfl
    rw [e]
    simp only [Rows.uptoBulkAll, Rows.uptoBulk, ih, List.length_cons]
    omega

/-- a []int that came in, nil or not -/
theorem open_nums {H : Type} {enc : TypeId × Value → H} {W : World} {fuel : Nat} {v : Value} {x : DataW H × List MemPlace}
    (h : DataW.trod enc Try.prog W 0 (fun _ => true) true fuel 23 [v] = some x) :
    ∃ ts, Ints W (fun _ => False) v ts ∧ ts.length ≤ Rows.uptoBulk x.1 := by
  rcases open_ints Try.underlying23 Try.underlying3 cells3 h with ⟨hcs, rfl⟩ | ⟨a, len, cap, zs, hcs, _, hl, hm, hz, rfl, hcell, _⟩
  · simp at hcs
    subst hcs
    exact ⟨[], ⟨none, 0, rfl, by omega, Nat.le_refl _, fun h => absurd rfl h⟩, Nat.zero_le _⟩
  · simp at hcs
    subst hcs
    simp only [if_true] at hz
    obtain ⟨b, off, spot⟩ := a
    have hlen : (zs.take len).length = len := by simp; omega
    refine ⟨zs.take len, ⟨some ⟨b, off, spot⟩, cap, by rw [hlen], by unfold maxLen at hm; omega, by rw [hlen]; exact hl, fun h0 => ?_⟩, ?_⟩
    · rw [hlen] at h0
      have hspot : spot = none := by simpa [Addr.add] using World.cell?_spot (hcell 0 (by omega))
      subst hspot
      refine ⟨b, off, rfl, fun e => e, fun k t hk => ?_⟩
      rw [List.getElem?_take] at hk
      have hkl : k < len := by
        by_cases h : k < len
        · exact h
        · rw [if_neg h] at hk; cases hk
      rw [if_pos hkl] at hk
      have hc := hcell k (by omega)
      have hadd : (⟨b, off, none⟩ : Addr).add k = ⟨b, off + k, none⟩ := by unfold Addr.add; split <;> simp_all
      rw [hadd] at hc
      rw [hc]
      simp [List.getD, hk]
    · simp only [Rows.uptoBulk, bulk_lits]
      omega

/-- what is known of one call that was read -/
def OpAt (W : World) (a : Addr) (i : Nat) (o : Op) : Prop := ∃ tv,
  W.cell? (a.add (i * 5)) = some (.int .i64 o.kind) ∧ W.cell? (a.add (i * 5 + 1)) = some (.string o.name) ∧ W.cell? (a.add (i * 5 + 2)) = some (.string o.s) ∧
  W.cell? (a.add (i * 5 + 3)) = some (.int .i64 o.n) ∧ W.cell? (a.add (i * 5 + 4)) = some tv ∧ Ints W (fun _ => False) tv o.tails

def OpFits (o : Op) : Prop := o.name.size ≤ maxLen ∧ o.s.size ≤ maxLen ∧ (-9223372036854775808 ≤ o.n ∧ o.n < 9223372036854775808)

theorem read_int {H : Type} {enc : TypeId × Value → H} {W : World} {fuel : Nat} {cs : List Value} {x : DataW H × List MemPlace}
    (h : DataW.trod enc Try.prog W 0 (fun _ => true) true fuel 3 cs = some x) : ∃ k, cs = [.int .i64 k] ∧ 1 ≤ Rows.uptoBulk x.1 ∧ (-9223372036854775808 ≤ k ∧ k < 9223372036854775808) := by
  obtain ⟨k, rfl, rfl, hw⟩ := DataW.trod_int Try.underlying3 h
  refine ⟨k, rfl, by simp [Rows.uptoBulk], ?_⟩
  have e1 : IntKind.i64.min = -9223372036854775808 := by decide
  have e2 : IntKind.i64.max = 9223372036854775807 := by decide
  simp [Lit.wf, e1, e2] at hw
  omega

theorem read_str {H : Type} {enc : TypeId × Value → H} {W : World} {fuel : Nat} {cs : List Value} {x : DataW H × List MemPlace}
    (h : DataW.trod enc Try.prog W 0 (fun _ => true) true fuel 9 cs = some x) : ∃ s : ByteArray, cs = [.string s] ∧ s.size + 1 ≤ Rows.uptoBulk x.1 ∧ s.size ≤ maxLen := by
  obtain ⟨s, rfl, rfl, hw⟩ := DataW.trod_string Try.underlying9 h
  refine ⟨s, rfl, ?_, hw⟩
  simp [Rows.uptoBulk]

theorem cells_at {W : World} {a : Addr} {n : Nat} {cs : List Value} (h : W.cells? 0 a n = some cs) : cs.length = n ∧ ∀ j v, cs[j]? = some v → W.cell? (a.add j) = some v := by
  obtain ⟨_, hl, hc⟩ := World.cells?_some h
  refine ⟨hl, fun j v hj => ?_⟩
  have hlt : j < n := by rw [← hl]; exact (List.getElem?_eq_some_iff.1 hj).1
  rw [hc j hlt]; exact hj

/-- one call that came in -/
theorem open_op {H : Type} {enc : TypeId × Value → H} {W : World} {fuel i : Nat} {a : Addr} {cs : List Value} {x : DataW H × List MemPlace}
    (hc : W.cells? 0 (a.add (i * 5)) 5 = some cs) (h : DataW.trod enc Try.prog W 0 (fun _ => true) true fuel 28 cs = some x) : ∃ o, OpAt W a i o ∧ OpFits o ∧ o.load ≤ Rows.uptoBulk x.1 := by
  obtain ⟨hl, hcell⟩ := cells_at hc
  obtain ⟨xs, n, _, rfl, _, hxl, hf⟩ := DataW.trod_struct Try.underlying28 h
  match cs, hl, xs, hxl with
  | [c0, c1, c2, c3, c4], _, [x0, x1, x2, x3, x4], _ =>
    have f0 := hf 0 _ rfl
    have f1 := hf 1 _ rfl
    have f2 := hf 2 _ rfl
    have f3 := hf 3 _ rfl
    have f4 := hf 4 _ rfl
    have e3 : Try.prog.cellsOf 3 = 1 := cells3
    have e9 : Try.prog.cellsOf 9 = 1 := cells9
    have e23 : Try.prog.cellsOf 23 = 1 := by kernel_rfl
    simp [e3, e9, e23] at f0 f1 f2 f3 f4
    obtain ⟨k, hk, b0, _⟩ := read_int f0
    obtain ⟨nm, hn, b1, s1⟩ := read_str f1
    obtain ⟨s, hs, b2, s2⟩ := read_str f2
    obtain ⟨m, hm, b3, s3⟩ := read_int f3
    obtain ⟨ts, ht, b4⟩ := open_nums f4
    simp at hk hn hs hm
    subst hk hn hs hm
    have g := fun j v hj => hcell j v hj
    refine ⟨⟨k, nm, s, m, ts⟩, ⟨c4, ?_, ?_, ?_, ?_, ?_, ht⟩, ⟨s1, s2, s3⟩, ?_⟩
    · have := g 0 _ rfl; rw [Deep.add_add] at this; exact this
    · have := g 1 _ rfl; rw [Deep.add_add] at this; exact this
    · have := g 2 _ rfl; rw [Deep.add_add] at this; exact this
    · have := g 3 _ rfl; rw [Deep.add_add] at this; exact this
    · have := g 4 _ rfl; rw [Deep.add_add] at this; exact this
    · simp only [Op.load, List.map_cons, List.map_nil, Rows.uptoBulk, Rows.uptoBulkAll]
      omega

theorem sum_bulk {H : Type} (D : Nat → DataW H) (f : Nat → Nat) : ∀ l : List Nat, (∀ i ∈ l, f i ≤ Rows.uptoBulk (D i)) → (l.map f).sum ≤ Rows.uptoBulkAll (l.map D)
  | [], _ => by simp [Rows.uptoBulkAll]
  | a :: l, h => by
    have h1 := h a (by simp)
    have h2 := sum_bulk D f l (fun i hi => h i (by simp [hi]))
    simp only [List.map_cons, List.sum_cons, Rows.uptoBulkAll]
    omega

/-- a list of calls that came in, nil or not -/
theorem open_ops {H : Type} {enc : TypeId × Value → H} {W : World} {base : Nat} {v : Value} {d : DataW H} {p : List MemPlace}
    (hv : Value.okWide Try.prog W .any base 22 v) (h : DataW.Trod enc Try.prog W 0 (fun _ => true) true 22 v d p) :
    ∃ os, Script W v os ∧ (∀ o ∈ os, OpFits o) ∧ (os.map Op.load).sum ≤ Rows.uptoBulk d := by
  obtain ⟨a0, len, cap, rfl⟩ := okWide_slice Try.underlying22 hv
  obtain ⟨fuel, hf⟩ := h
  rcases Deep.open_slice Try.underlying22 hf with ⟨hcs, hx⟩ | ⟨a, len', cap', m, n, D, Pl, hcs, _, hl, hm, hmm, hx, hel⟩
  · simp [Value.cells] at hcs
    obtain ⟨rfl, rfl, rfl⟩ := hcs
    exact ⟨[], ⟨none, 0, rfl, by omega, Nat.le_refl _, fun h => absurd rfl h⟩, (by intro o ho; cases ho), Nat.zero_le _⟩
  · simp [Value.cells] at hcs
    obtain ⟨rfl, rfl, rfl⟩ := hcs
    simp only [Prod.mk.injEq] at hx
    obtain ⟨rfl, rfl⟩ := hx
    simp only [if_true] at hmm
    subst hmm
    rw [cells28] at hel
    haveI : Inhabited Op := ⟨⟨0, ⟨#[]⟩, ⟨#[]⟩, 0, []⟩⟩
    obtain ⟨O, hO⟩ := Deep.choose_lt (α := Op) (n := len) (p := fun i o => OpAt W a i o ∧ OpFits o ∧ o.load ≤ Rows.uptoBulk (D i)) (fun i hi => by
      obtain ⟨cs', h1, h2⟩ := hel i (by omega)
      exact open_op h1 h2)
    have hlen : ((List.range len).map O).length = len := by simp
    refine ⟨(List.range len).map O, ⟨some a, m, by rw [hlen], by unfold maxLen at hm; omega, by rw [hlen]; exact hl, fun h0 => ?_⟩, fun o ho => ?_, ?_⟩
    · rw [hlen] at h0
      obtain ⟨b, off, spot⟩ := a
      have hspot : spot = none := by
        obtain ⟨⟨tv, h0', _⟩, _⟩ := hO 0 (by omega)
        simpa [Addr.add] using World.cell?_spot h0'
      subst hspot
      refine ⟨b, off, rfl, fun k o hk => ?_⟩
      have hkl : k < len := by
        have := (List.getElem?_eq_some_iff.1 hk).1
        rwa [hlen] at this
      have hok : O k = o := by
        simp [hkl] at hk
        exact hk
      have hadd : ∀ j, (⟨b, off, none⟩ : Addr).add j = ⟨b, off + j, none⟩ := fun j => by unfold Addr.add; split <;> simp_all
      obtain ⟨⟨tv, h0, h1, h2, h3, h4, h5⟩, _⟩ := hO k hkl
      rw [hok] at h0 h1 h2 h3 h5
      simp only [hadd, ← Nat.add_assoc] at h0 h1 h2 h3 h4
      exact ⟨tv, h0, h1, h2, h3, h4, h5⟩
    · obtain ⟨i, hi, rfl⟩ := List.mem_map.1 ho
      exact (hO i (List.mem_range.1 hi)).2.1
    · have := sum_bulk D (fun i => (O i).load) (List.range len) (fun i hi => (hO i (List.mem_range.1 hi)).2.2)
      simp only [Rows.uptoBulk]
      rw [List.map_map]
      have e : (Op.load ∘ O) = fun i => (O i).load := rfl
      rw [e]
      omega

theorem length_load (os : List Op) : os.length ≤ (os.map Op.load).sum := by
  induction os with
  | nil => simp
  | cons a l ih => simp only [List.map_cons, List.sum_cons, List.length_cons, Op.load]; omega

theorem calm_of {os : List Op} {K : List Text} (hK : ∀ o ∈ os, o.name.data.toList ∈ K ∧ o.s.data.toList ∈ K) (hf : ∀ o ∈ os, OpFits o) (hl : (os.map Op.load).sum ≤ 2097152) : Calm K os :=
  ⟨fun o ho => ⟨(hK o ho).1, (hK o ho).2, (hf o ho).1, (hf o ho).2.1, (hf o ho).2.2⟩, hl⟩

theorem namesOf_mem {os : List Op} {o : Op} (h : o ∈ os) : o.name.data.toList ∈ namesOf os ∧ o.s.data.toList ∈ namesOf os :=
  ⟨List.mem_flatMap.2 ⟨o, h, by simp⟩, List.mem_flatMap.2 ⟨o, h, by simp⟩⟩

end Go.Proofs.Ytegbkpjcjlihmab
