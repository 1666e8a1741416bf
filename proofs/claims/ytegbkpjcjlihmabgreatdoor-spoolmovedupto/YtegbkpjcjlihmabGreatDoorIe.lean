/-
  The reference of mails as it lies: Find, Is, Took, Gone. | The reference of mails: Is, Took, Gone. | The reference of mails: Gone.
-/
import Derived.Test.YtegbkpjcjlihmabGreatDoorIb
namespace Go.Proofs.YtegbkpjcjlihmabGreatDoor
open Go.RowKit Go.Maps Go.Sort Go.Lib

theorem infoW : (Tryz.prog.info? 90).map (fun i => (i.zero.map (fun z => z.cells.size), i.size, i.bytes)) = some (some 6, 6, 104) := by kernel_rfl
theorem infoW' : ∃ i z, Tryz.prog.info? 90 = some i ∧ i.zero = some z ∧ z.cells.size = 6 ∧ i.size = 6 ∧ i.bytes = 104 := by
  cases h : Tryz.prog.info? 90 with
  | none => have := infoW; rw [h] at this; cases this
  | some i =>
    have := infoW
    rw [h] at this
    simp at this
    obtain ⟨⟨z, h1, h2⟩, h3, h4⟩ := this
    exact ⟨i, z, rfl, h1, h2, h3, h4⟩

/-- a mail that waits, as its cells hold it -/
abbrev Raw := Int × ByteArray × ByteArray × Value × ByteArray × Value
def encR (x : Raw) : List Value := [.int .i64 x.1, .string x.2.1, .string x.2.2.1, x.2.2.2.1, .string x.2.2.2.2.1, x.2.2.2.2.2]

theorem flatR_len (xs : List Raw) : (xs.flatMap encR).length = xs.length * 6 := by
  induction xs with
  | nil => rfl
  | cons x l ih => rw [List.flatMap_cons, List.length_append, ih, List.length_cons]; simp [encR]; omega

theorem flatR_at : ∀ (xs : List Raw) (i : Nat) (x : Raw), xs[i]? = some x → ∀ j, j < 6 → (xs.flatMap encR)[i * 6 + j]? = (encR x)[j]?
  | [], i, x, h => by simp at h
  | y :: l, 0, x, h => by
    simp at h
    subst h
    intro j hj
    rw [List.flatMap_cons, Nat.zero_mul, Nat.zero_add, List.getElem?_append_left (by simp [encR]; omega)]
  | y :: l, i + 1, x, h => by
    have ih := flatR_at l i x (by simpa using h)
    intro j hj
    rw [List.flatMap_cons, show (i + 1) * 6 + j = (i * 6 + j) + (encR y).length by simp [encR]; omega, List.getElem?_append_right (by omega), Nat.add_sub_cancel]
    exact ih j hj

structure RawOk (w : World) (S : Nat → Prop) (x : Raw) (g : Wg) : Prop where
  id : x.1 = g.1
  fa : x.2.1.data.toList = g.2.1.1
  fb : x.2.2.1.data.toList = g.2.1.2.1
  tt : AdAt w S x.2.2.2.1 (mlTo g.2.1)
  dd : x.2.2.2.2.1.data.toList = g.2.1.2.2.2
  lf : AdAt w S x.2.2.2.2.2 g.2.2

theorem RawOk.keep {S S' T : Nat → Prop} {w w' : World} {x : Raw} {g : Wg} (h : RawOk w S x g) (k : Keeps T w w') (hT : ∀ b, b < w.heap.size → ¬ S b → ¬ T b) (hS : ∀ b, b < w.heap.size → S' b → S b) : RawOk w' S' x g :=
  ⟨h.id, h.fa, h.fb, h.tt.keep k hT hS, h.dd, h.lf.keep k hT hS⟩

/-- what the reference is, and the values that its cells hold -/
structure Rs where
  av : Value
  xs : List Raw
  l : List Wg
  top : Int
  dead : Bool
  hp : Bool
  pa : ByteArray
  pb : ByteArray
  pt : Value
  pd : ByteArray
  pto : List Ltr
  hd : Bool
  id : Int
  ta : ByteArray
  tb : ByteArray

def rCells (ρ : Rs) : Obj := .cells #[ρ.av, .int .i64 ρ.top, .bool ρ.dead, .bool ρ.hp, .string ρ.pa, .string ρ.pb, ρ.pt, .string ρ.pd, .bool ρ.hd, .int .i64 ρ.id, .string ρ.ta, .string ρ.tb] 87

/-- how it lies: its own blocks are outside S -/
structure RefAt (S : Nat → Prop) (r base : Nat) (ρ : Rs) (w : World) : Prop where
  cell : w.heap[r]? = some (rCells ρ)
  row : w.ownsRow base 90 6 ρ.av ρ.xs.length (ρ.xs.flatMap encR)
  len : ρ.xs.length = ρ.l.length
  raw : ∀ (i : Nat) x g, ρ.xs[i]? = some x → ρ.l[i]? = some g → RawOk w (fun b => S b ∨ b = r ∨ ρ.av.ownBlock = some b) x g
  put : AdAt w (fun b => S b ∨ b = r ∨ ρ.av.ownBlock = some b) ρ.pt ρ.pto
  nS : ¬ S r
  nR : ∀ k, ρ.av.ownBlock = some k → ¬ S k
  bs : base ≤ r

section
variable {S S' T : Nat → Prop} {r base : Nat} {ρ : Rs} {w w' : World}

theorem RefAt.lt (h : RefAt S r base ρ w) : r < w.heap.size := heap_lt h.cell

theorem RefAt.keep (h : RefAt S r base ρ w) (k : Keeps T w w') (hT : ∀ b, b < w.heap.size → ¬ S b → ¬ T b) (hS : ∀ b, b < w.heap.size → S' b → S b) : RefAt S' r base ρ w' := by
  have hl := h.lt
  have hb : ∀ b, b < w.heap.size → ¬ (S b ∨ b = r ∨ ρ.av.ownBlock = some b) → ¬ T b := fun b hb hn => hT b hb (fun e => hn (.inl e))
  have hb2 : ∀ b, b < w.heap.size → (S' b ∨ b = r ∨ ρ.av.ownBlock = some b) → (S b ∨ b = r ∨ ρ.av.ownBlock = some b) := fun b hb e => e.elim (fun e => .inl (hS b hb e)) .inr
  refine ⟨k.heap h.cell (hT r hl h.nS), k.owns h.row (fun j hj => hT j (h.row.lt j hj).2 (h.nR j hj)), h.len, fun i x g h1 h2 => (h.raw i x g h1 h2).keep k hb hb2, h.put.keep k hb hb2, fun e => h.nS (hS r hl e), fun j hj e => h.nR j hj (hS j (h.row.lt j hj).2 e), h.bs⟩

theorem RefAt.fresh (h : RefAt S r base ρ w) (k : Fresh w w') : RefAt S r base ρ w' := h.keep k (fun _ _ _ e => e) (fun _ _ e => e)

theorem RefAt.at (h : RefAt S r base ρ w) : ∀ (j : Nat) u, #[ρ.av, .int .i64 ρ.top, .bool ρ.dead, .bool ρ.hp, .string ρ.pa, .string ρ.pb, ρ.pt, .string ρ.pd, .bool ρ.hd, .int .i64 ρ.id, .string ρ.ta, .string ρ.tb][j]? = some u → w.cell? ⟨r, j, none⟩ = some u := fun j u hj => by
  have hp := h.cell
  unfold rCells at hp
  rw [Lib.cell_of_heap hp]; exact hj
theorem RefAt.fz (h : RefAt S r base ρ w) (j : Nat) : w.frozen? ⟨r, j, none⟩ = false := frozen_of_row w r j _ _ h.cell

/-- a mail of it, read -/
theorem RefAt.rd (h : RefAt S r base ρ w) {ao : Option Addr} {n cap : Nat} (e : ρ.av = .slice ao n cap) {i : Nat} {g : Wg} (hg : ρ.l[i]? = some g) : ∃ b x, ao = some ⟨b, 0, none⟩ ∧ ρ.xs[i]? = some x ∧ RawOk w (fun b => S b ∨ b = r ∨ ρ.av.ownBlock = some b) x g ∧ ∀ j u, (encR x)[j]? = some u → w.cell? ⟨b, i * 6 + j, none⟩ = some u := by
  have hi := (List.getElem?_eq_some_iff.1 hg).1
  obtain ⟨x, hx⟩ : ∃ x, ρ.xs[i]? = some x := ⟨ρ.xs[i]'(by rw [h.len]; exact hi), List.getElem?_eq_getElem _⟩
  have hrow := h.row
  obtain ⟨a, c, e1, _, _, ha⟩ := own_form hrow
  rw [e] at e1
  injection e1 with e1 e2 e3
  subst e1
  obtain ⟨b, rfl⟩ := ha (by have := h.len; omega)
  refine ⟨b, x, rfl, hx, h.raw i x g hx hg, fun j u hj => ?_⟩
  have hj6 : j < 6 := by
    have := (List.getElem?_eq_some_iff.1 hj).1
    simpa [encR] using this
  rw [e, e2] at hrow
  have := hrow.cellAt (i * 6 + j) (by have := h.len; omega)
  rw [this, flatR_at ρ.xs i x hx j hj6]
  exact hj

theorem RefAt.form (h : RefAt S r base ρ w) : ∃ ao cap, ρ.av = .slice ao ρ.l.length cap := by
  obtain ⟨a, c, e1, _, _, ha⟩ := own_form h.row
  exact ⟨a, c, by rw [e1, h.len]⟩

/-- no mail of that number -/
def NoId (l : List Wg) (id : Int) : Prop := ∀ g ∈ l, g.1 ≠ id
/-- a mail of that number, and its place -/
def AtId (l : List Wg) (id : Int) (n : Int) : Prop := ∃ (i : Nat) (g : Wg), n = i ∧ l[i]? = some g ∧ g.1 = id

set_option maxHeartbeats 2000000 in
set_option maxRecDepth 20000 in
theorem find5 (h : RefAt S r base ρ w) (id : Int) (hn : ρ.l.length ≤ 1099511627776) :
    Calls Tryz.prog 85 #[ptr r, .int .i64 id] w fun e w' => ∃ n : Int, e = .returned (.int .i64 n) ∧ w' = w ∧ ((n = -1 ∧ NoId ρ.l id) ∨ AtId ρ.l id n) := by
  obtain ⟨ao, cap, hav⟩ := h.form
  have c0 := h.at 0 _ rfl
  rw [hav] at c0
  have HR : Hid (RefAt S r base ρ w) := h
  clear h
  unfold ptr at *
  go_enter Tryz.func85, Tryz.ntmps85
  go_wp2_with fail
  go_loopw [5] (fun t6 wr => ∃ i : Nat, i ≤ ρ.l.length ∧ t6 = .int .i64 i ∧ NoId (ρ.l.take i) id ∧ wr = w) (fun t6 _ => ρ.l.length - (intOf t6).toNat)
  case atStart => exact ⟨0, Nat.zero_le _, rfl, by simp [NoId], rfl⟩
  case round =>
    obtain ⟨i, h1, rfl, hno, rfl⟩ := hrel
    have HN0 : Hid (NoId (ρ.l.take i) id) := hno
    clear hno
    by_cases hlt : i < ρ.l.length
    · obtain ⟨g, hg⟩ : ∃ g, ρ.l[i]? = some g := ⟨ρ.l[i], List.getElem?_eq_getElem hlt⟩
      obtain ⟨b, x, rfl, hx, hok, hc⟩ := HR.out.rd hav hg
      have q0 := hc 0 _ rfl
      rw [hok.id, Nat.add_zero] at q0
      have HG : Hid (ρ.l[i]? = some g) := hg
      have HT : Hid (ρ.l.take (i + 1) = ρ.l.take i ++ [g]) := by
        show _ = _
        rw [List.take_add_one, hg]; rfl
      clear hx hok hc hg
      have z0 : (0 : Int) ≤ (i : Int) := by omega
      have z1 : (i : Int) < (ρ.l.length : Int) := by omega
      by_cases he : g.1 = id
      · go_wp2_with fail
        go_ret
        exact ⟨_, rfl, rfl, .inr ⟨i, g, rfl, HG.out, he⟩⟩
      · have heb := beq_eq_false_iff_ne.2 he
        have HN2 : Hid (NoId (ρ.l.take (i + 1)) id) := fun g' hg' => by
          rw [HT.out, List.mem_append] at hg'
          rcases hg' with hg' | hg'
          · exact HN0.out g' hg'
          · simp only [List.mem_singleton] at hg'
            rw [hg']
            exact he
        go_wp2_with fail
        go_roundw
        case rel => exact ⟨i + 1, by omega, by go_num, HN2.out, (by first | rfl | trivial)⟩
        case measure => simp [intOf]; omega
    · have ei : i = ρ.l.length := by omega
      have HN3 : Hid (NoId ρ.l id) := by
        have := HN0.out
        rw [ei, List.take_length] at this
        exact this
      have z1 : ¬ (i : Int) < (ρ.l.length : Int) := by omega
      go_wp2_with fail
      go_ret
      exact ⟨_, rfl, rfl, .inl ⟨rfl, HN3.out⟩⟩

end
end Go.Proofs.YtegbkpjcjlihmabGreatDoor

namespace Go.Proofs.YtegbkpjcjlihmabGreatDoor
open Go.RowKit Go.Maps Go.Sort Go.Lib

/-- somebody is left of a mail of that number -/
def IsP (l : List Wg) (id : Int) (p : Ltr) : Prop := ∃ g ∈ l, g.1 = id ∧ p ∈ g.2.2

section
variable {S S' T : Nat → Prop} {r base : Nat} {ρ : Rs} {w w' : World}

set_option maxHeartbeats 4000000 in
set_option maxRecDepth 100000 in
theorem is5 (h : RefAt S r base ρ w) (id : Int) (ta tb : ByteArray) (hn : ρ.l.length ≤ 1099511627776) (hlf : ∀ g ∈ ρ.l, g.2.2.length ≤ 1099511627776) (hu : (ids ρ.l).Pairwise (· < ·)) :
    Calls Tryz.prog 79 #[ptr r, .int .i64 id, .agg #[.string ta, .string tb]] w fun e w' => (∃ bb : Bool, e = .returned (.bool bb) ∧ (bb = true ↔ IsP ρ.l id (ta.data.toList, tb.data.toList))) ∧ Fresh w w' := by
  have f0 : Fresh w (w.alloc (.cells #[.string ta, .string tb] 27)) := (Keeps.refl _ _).alloc _
  have hb0 := heap_new w (.cells #[.string ta, .string tb] 27)
  have h0 := h.fresh f0
  have hfind := find5 h0 id hn
  have HR : Hid (RefAt S r base ρ (w.alloc (.cells #[.string ta, .string tb] 27))) := h0
  have HU : Hid ((ids ρ.l).Pairwise (· < ·)) := hu
  have HL : Hid (∀ g ∈ ρ.l, g.2.2.length ≤ 1099511627776) := hlf
  clear h h0 hu hlf
  unfold ptr at *
  go_enter Tryz.func79, Tryz.ntmps79
  go_upto_region 1 with fail
  generalize w.alloc (.cells #[.string ta, .string tb] 27) = w0 at *
  go_wp2_with fail
  refine hfind.mono ?_
  rintro e w1 ⟨n, rfl, hw, hcase⟩
  have hw := hw.symm
  subst hw
  clear hfind
  rcases hcase with ⟨rfl, hno⟩ | ⟨i, g, rfl, hg, hid⟩
  · have HN : Hid (NoId ρ.l id) := hno
    clear hno
    go_wp2_with fail
    go_quiet (fail)
    go_wp2_with fail
    go_ret
    exact ⟨⟨false, rfl, (fun h => by cases h), fun ⟨g, hg, e, _⟩ => absurd e (HN.out g hg)⟩, f0.drewN _⟩
  · obtain ⟨ao, cap, hav⟩ := HR.out.form
    obtain ⟨b, x, rfl, hx, hok, hc⟩ := HR.out.rd hav hg
    have c0 := HR.out.at 0 _ rfl
    rw [hav] at c0
    have q5 := hc 5 _ rfl
    obtain ⟨la, lc, hlv, hlr⟩ := hok.lf.form
    rw [hlv] at q5
    obtain ⟨t0, t1, _, _⟩ := cells2 hb0
    have hi := (List.getElem?_eq_some_iff.1 hg).1
    have z0 : (0 : Int) ≤ (i : Int) := by omega
    have z1 : (i : Int) < (ρ.l.length : Int) := by omega
    have HG : Hid (ρ.l[i]? = some g ∧ g.1 = id) := ⟨hg, hid⟩
    have hat := at_ref la lc g.2.2 ta tb w0.drew (HL.out g (List.mem_of_getElem? hg)) (hlr.fresh ((Keeps.refl _ _).drew))
    clear hx hok hc hlr hg hid hlv
    go_wp2_with fail
    go_region_held3 (fun W => W.cell? ⟨r, 0, none⟩ = some (.slice (some ⟨b, 0, none⟩) ρ.l.length cap) ∧ W.cell? ⟨b, i * 6 + 5, none⟩ = some (.slice la g.2.2.length lc) ∧ W.cell? ⟨w.heap.size, 0, none⟩ = some (.string ta) ∧ W.cell? ⟨w.heap.size, 1, none⟩ = some (.string tb)) (first | exact ⟨c0, q5, t0, t1⟩ | exact ⟨cell_keeps k3 c0 (fun e => e), cell_keeps k3 q5 (fun e => e), cell_keeps k3 t0 (fun e => e), cell_keeps k3 t1 (fun e => e)⟩) (first | (go_at_call 99; refine hat.mono ?_; rintro e w3 ⟨⟨m, rfl, hm⟩, k3'⟩; have k3 : Fresh w0 w3 := ((Keeps.refl _ w0).drew).trans k3'))
    have HM : Hid (0 ≤ m ↔ (ta.data.toList, tb.data.toList) ∈ g.2.2) := hm
    have HK : Hid (Fresh w w3) := f0.trans k3
    clear hm hat k3' k3 c0 q5 t0 t1
    go_wp2_with fail
    go_ret
    refine ⟨⟨_, rfl, ?_⟩, HK.out⟩
    rw [decide_eq_true_iff]
    constructor
    · intro hp
      exact ⟨g, List.mem_of_getElem? HG.out.1, HG.out.2, hp⟩
    · rintro ⟨g', hg', e, hp⟩
      obtain rfl := ids_inj HU.out hg' (List.mem_of_getElem? HG.out.1) (e.trans HG.out.2.symm)
      exact hp

/-- a mail more in the row -/
theorem flatR_snoc (xs : List Raw) (x : Raw) : (xs ++ [x]).flatMap encR = xs.flatMap encR ++ encR x := by
  rw [List.flatMap_append]; simp

theorem cells6_new (w : World) (a b c d e f : Value) (T : TypeId) : ∀ j u, [a, b, c, d, e, f][j]? = some u → (w.alloc (.cells #[a, b, c, d, e, f] T)).cell? ((⟨w.heap.size, 0, none⟩ : Addr).add j) = some u := by
  intro j u hj
  match j, hj with
  | 0, hj => simp at hj; subst hj; simp [Addr.add]
  | 1, hj => simp at hj; subst hj; simp [Addr.add]
  | 2, hj => simp at hj; subst hj; simp [Addr.add]
  | 3, hj => simp at hj; subst hj; simp [Addr.add]
  | 4, hj => simp at hj; subst hj; simp [Addr.add]
  | 5, hj => simp at hj; subst hj; simp [Addr.add]

/-- an append of a mail, as one step of a region that draws its order -/
theorem step_append_mail {ops : Array Oper} {o : Oper} {a : Act} {w : World} {K : Act → World → Prop} {Q : Exit → Act → World → Prop} {E : Prop}
    (hg : o.guard = none) (s x : Operand) (hop : o.op = Op.call { callee := Callee.builtin Builtin.append, args := #[s, x], argTypes := #[85, 85] })
    (base : Nat) (lv : Value) (xs : List Raw) (y : Raw) (hs : a.eval s = lv) (hown : w.ownsRow base 90 6 lv xs.length (xs.flatMap encR)) (hx : a.eval x = .slice (some ⟨w.heap.size, 0, none⟩) 1 1) (hn : xs.length ≤ 1099511627) (hb : base ≤ w.heap.size) (h1 : ∀ u ∈ encR y, u.oneCell' = true)
    (h : ∀ v' w', w'.ownsRow base 90 6 v' (xs.length + 1) (xs.flatMap encR ++ encR y) → (w.alloc (.cells (encR y).toArray 90)).grownBy w' lv.ownBlock → Placed (w.alloc (.cells (encR y).toArray 90)) lv v' → K (a.put o.dst v') w') :
    if Region.wanted o (yielded ops a.tmps) = true then Oper.wp Tryz.prog o a (w.alloc (.cells (encR y).toArray 90)) K Q else E := by
  obtain ⟨i0, z0, hi0, hz0, hz1, hz2, hz3⟩ := infoW'
  refine step_append_placed hg s x 85 hop base 90 i0 z0 6 104 Tryz.underlying85 hi0 hz0 hz2 hz3 hz1 (by decide) lv xs.length (xs.flatMap encR) hs (hown.alloc _) ⟨w.heap.size, 0, none⟩ 1 1 (encR y) hx rfl (cells6_new w _ _ _ _ _ _ 90) h1 (by unfold maxLen; omega) (by omega) (by simp; omega) h

theorem AdAt.less {S S' : Nat → Prop} {w : World} {v : Value} {l : List Ltr} (h : AdAt w S v l) (hS : ∀ b, b < w.heap.size → S' b → S b) : AdAt w S' v l := h.keep (Keeps.refl (fun _ => False) w) (fun _ _ _ e => e) hS

theorem rowAt' {w : World} {base : Nat} {T : TypeId} {v : Value} {l : List Ltr} (h : w.ownsRow base T 2 v l.length (l.flatMap encL)) : AdAt w (fun b => b < base ∨ w.heap.size ≤ b) v l := by
  obtain ⟨ao, cap, rfl, _, _, ha⟩ := own_form h
  refine ⟨ao, cap, rfl, rowRd h, fun b off e hn => ?_⟩
  obtain ⟨g, rfl⟩ := ha (by omega)
  injection e with e
  injection e with e1
  have := h.lt g rfl
  subst e1
  exact ⟨fun e => by omega, this.2⟩

/-- the reference with a mail more -/
def Rs.took (ρ : Rs) (av : Value) (y : Raw) (g : Wg) : Rs := { ρ with av := av, xs := ρ.xs ++ [y], l := ρ.l ++ [g], top := g.1 }

theorem RefAt.took (h : RefAt S r base ρ w) (hSb : ∀ b, S b → b < w.heap.size) {w3 w5 : World} {v5 : Value} {y : Raw} {g : Wg}
    (hw3 : w.heap.size ≤ w3.heap.size) (hpl : Placed (w3.alloc (.cells (encR y).toArray 90)) ρ.av v5) (o5 : w5.ownsRow base 90 6 v5 (ρ.xs.length + 1) (ρ.xs.flatMap encR ++ encR y)) (hr5 : w5.heap[r]? = some (rCells { ρ with top := g.1 }))
    (k5 : Keeps (fun b => b = r ∨ ρ.av.ownBlock = some b) w w5) (k35 : Keeps (fun b => b = r ∨ ρ.av.ownBlock = some b) w3 w5)
    (hid : y.1 = g.1) (hfa : y.2.1.data.toList = g.2.1.1) (hfb : y.2.2.1.data.toList = g.2.1.2.1) (hdd : y.2.2.2.2.1.data.toList = g.2.1.2.2.2) (htt : AdAt w (fun b => S b ∨ b = r ∨ ρ.av.ownBlock = some b) y.2.2.2.1 (mlTo g.2.1))
    (hlf : AdAt w3 (fun b => b < w.heap.size ∨ w3.heap.size ≤ b) y.2.2.2.2.2 g.2.2) :
    RefAt S r base (ρ.took v5 y g) (w5.setCell ⟨r, 0, none⟩ v5) ∧ Keeps (fun b => b = r ∨ ρ.av.ownBlock = some b) w (w5.setCell ⟨r, 0, none⟩ v5) := by
  have k6 : Keeps (fun b => b = r) w5 (w5.setCell ⟨r, 0, none⟩ v5) := (Keeps.refl (fun b => b = r) w5).setCell (p := ⟨r, 0, none⟩) (fun _ => rfl) _
  have ka : Keeps (fun b => b = r ∨ ρ.av.ownBlock = some b) w (w5.setCell ⟨r, 0, none⟩ v5) := k5.then k6 (fun b _ e => .inl e)
  have kb : Keeps (fun b => b = r ∨ ρ.av.ownBlock = some b) w3 (w5.setCell ⟨r, 0, none⟩ v5) := k35.then k6 (fun b _ e => .inl e)
  have hrl := h.lt
  have hes : (w3.alloc (.cells (encR y).toArray 90)).heap.size = w3.heap.size + 1 := by simp
  have hown : ∀ b, v5.ownBlock = some b → ρ.av.ownBlock = some b ∨ w3.heap.size < b := fun b hb => by
    rcases hpl with e | e
    · exact .inl (by rw [← e]; exact hb)
    · rw [hes, hb] at e
      exact .inr (by have := Option.some.inj e; omega)
  have hT : ∀ b, b < w.heap.size → ¬ (S b ∨ b = r ∨ ρ.av.ownBlock = some b) → ¬ (b = r ∨ ρ.av.ownBlock = some b) := fun b _ hn e => hn (.inr e)
  have hS : ∀ b, b < w.heap.size → (S b ∨ b = r ∨ v5.ownBlock = some b) → (S b ∨ b = r ∨ ρ.av.ownBlock = some b) := fun b hb e => by
    rcases e with e | e | e
    · exact .inl e
    · exact .inr (.inl e)
    · rcases hown b e with e | e
      · exact .inr (.inr e)
      · omega
  have hav : ∀ b, ρ.av.ownBlock = some b → b < w.heap.size := fun b hb => (h.row.lt b hb).2
  refine ⟨⟨?_, ?_, ?_, ?_, h.put.keep ka hT hS, h.nS, fun k hk => ?_, h.bs⟩, ka⟩
  · exact heap_setCell_at hr5 0 _
  · show (w5.setCell ⟨r, 0, none⟩ v5).ownsRow base 90 6 v5 (ρ.xs ++ [y]).length ((ρ.xs ++ [y]).flatMap encR)
    rw [List.length_append, flatR_snoc]
    refine k6.owns o5 (fun j hj e => ?_)
    have t1 := owns_tag o5 hj
    rw [e, tag_cells (cs := #[ρ.av, .int .i64 g.1, .bool ρ.dead, .bool ρ.hp, .string ρ.pa, .string ρ.pb, ρ.pt, .string ρ.pd, .bool ρ.hd, .int .i64 ρ.id, .string ρ.ta, .string ρ.tb]) hr5] at t1
    exact absurd (Option.some.inj t1) (by decide)
  · show (ρ.xs ++ [y]).length = (ρ.l ++ [g]).length
    rw [List.length_append, List.length_append, h.len]; rfl
  · intro i x g' hx hg'
    have hx : (ρ.xs ++ [y])[i]? = some x := hx
    have hg' : (ρ.l ++ [g])[i]? = some g' := hg'
    by_cases hi : i < ρ.xs.length
    · rw [List.getElem?_append_left hi] at hx
      rw [List.getElem?_append_left (by rw [← h.len]; exact hi)] at hg'
      exact (h.raw i x g' hx hg').keep ka hT hS
    · have hi1 : i = ρ.xs.length := by
        have := (List.getElem?_eq_some_iff.1 hx).1
        simp at this
        omega
      subst hi1
      rw [List.getElem?_append_right (Nat.le_refl _)] at hx
      rw [h.len, List.getElem?_append_right (Nat.le_refl _)] at hg'
      simp at hx hg'
      subst hx hg'
      refine ⟨hid, hfa, hfb, htt.keep ka hT hS, hdd, hlf.keep kb (fun b hb hn e => ?_) (fun b hb e => ?_)⟩
      · rcases e with e | e
        · exact hn (.inl (by omega))
        · exact hn (.inl (hav b e))
      · rcases e with e | e | e
        · exact .inl (hSb b e)
        · exact .inl (by omega)
        · rcases hown b e with e | e
          · exact .inl (hav b e)
          · exact .inr (by omega)
  · rcases hown k hk with e | e
    · exact h.nR k e
    · exact fun hs => by have := hSb k hs; omega

end

section
variable {S : Nat → Prop} {r base : Nat} {ρ : Rs} {w : World}

set_option maxHeartbeats 8000000 in
set_option maxRecDepth 100000 in
theorem took5 (h : RefAt S r base ρ w) (hSb : ∀ b, S b → b < w.heap.size) (id : Int) (pa pb pd : ByteArray) (pt : Value) (pto : List Ltr) (hp : AdAt w (fun b => S b ∨ b = r ∨ ρ.av.ownBlock = some b) pt pto) (hn : ρ.l.length ≤ 1099511626) (hto : pto.length ≤ 1099511627) (h1 : ρ.top < id) (h0 : 0 < id) :
    Calls Tryz.prog 23 #[ptr r, .int .i64 id, mailV pa pb pt pd] w fun e w' => e = .returned (.bool true) ∧ ∃ av y, RefAt S r base (ρ.took av y (id, (pa.data.toList, pb.data.toList, pto, pd.data.toList), once pto)) w' ∧ Keeps (fun b => b = r ∨ ρ.av.ownBlock = some b) w w' := by
  obtain ⟨pao, pcap, rfl, hprd⟩ := hp.form
  have f0 : Fresh w (w.alloc (.cells #[.string pa, .string pb, .slice pao pto.length pcap, .string pd] 30)) := (Keeps.refl _ _).alloc _
  have hx0 := heap_new w (.cells #[.string pa, .string pb, .slice pao pto.length pcap, .string pd] 30)
  have hw0 : (w.alloc (.cells #[.string pa, .string pb, .slice pao pto.length pcap, .string pd] 30)).heap.size = w.heap.size + 1 := by simp
  have h00 := h.fresh f0
  have c1 := h00.at 1 _ rfl
  have z1 := h00.fz 1
  have hrl := h.lt
  have HR : Hid (RefAt S r base ρ w) := h
  obtain ⟨ao, cap, hav⟩ := h.form
  unfold ptr mailV at *
  go_enter Tryz.func23, Tryz.ntmps23
  go_upto_region 1 with fail
  generalize w.alloc (.cells #[.string pa, .string pb, .slice pao pto.length pcap, .string pd] 30) = w0 at *
  have hle : ¬ id ≤ ρ.top := by omega
  have hle2 : ¬ id ≤ 0 := by omega
  go_upto_region 4 with fail
  have k1 : Keeps (fun b => b = r) w0 (w0.setCell ⟨r, 1, none⟩ (.int .i64 id)) := (Keeps.refl (fun b => b = r) _).setCell (p := ⟨r, 1, none⟩) (fun _ => rfl) _
  have hr1 : (w0.setCell ⟨r, 1, none⟩ (.int .i64 id)).heap[r]? = some (rCells { ρ with top := id }) := heap_setCell_at h00.cell 1 _
  have hx1 := k1.heap hx0 (fun e => by omega)
  have kw1 : Keeps (fun b => b = r) w (w0.setCell ⟨r, 1, none⟩ (.int .i64 id)) := f0.ofFresh.trans k1
  have hs1 := k1.size
  generalize w0.setCell ⟨r, 1, none⟩ (.int .i64 id) = w1 at *
  have hprd1 : AdRd w1 pao pto := hprd.keep kw1 (fun b off e hn hb => by
    obtain ⟨ao', cap', e', _, h3⟩ := hp
    injection e' with e1 _ _
    subst e1
    exact (h3 b off e hn).1 (.inr (.inl hb)))
  have hun := unique_ref pao pcap pto w1.drew hto (hprd1.fresh ((Keeps.refl _ _).drew))
  have HRO : Hid (∀ W, Fresh w1 W → W.heap[r]? = some (rCells { ρ with top := id }) ∧ W.ownsRow base 90 6 (.slice ao ρ.l.length cap) ρ.xs.length (ρ.xs.flatMap encR)) := fun W k => ⟨k.heap hr1 (fun e => e), by
    have h2 := kw1.owns HR.out.row (fun j hj e => by
      have t1 := owns_tag HR.out.row hj
      rw [e, tag_cells (cs := #[ρ.av, .int .i64 ρ.top, .bool ρ.dead, .bool ρ.hp, .string ρ.pa, .string ρ.pb, ρ.pt, .string ρ.pd, .bool ρ.hd, .int .i64 ρ.id, .string ρ.ta, .string ρ.tb]) HR.out.cell] at t1
      exact absurd (Option.some.inj t1) (by decide))
    rw [← hav]
    exact k.owns h2 (fun _ _ e => e)⟩
  have HC : Hid (∀ W, Fresh w1 W → W.cell? ⟨r, 0, none⟩ = some (.slice ao ρ.l.length cap) ∧ W.cell? ⟨w.heap.size, 0, none⟩ = some (.string pa) ∧ W.cell? ⟨w.heap.size, 1, none⟩ = some (.string pb) ∧ W.cell? ⟨w.heap.size, 2, none⟩ = some (.slice pao pto.length pcap) ∧ W.cell? ⟨w.heap.size, 3, none⟩ = some (.string pd)) := fun W k => by
    obtain ⟨a0, a1, a2, a3, _⟩ := mcells (k.heap hx1 (fun e => e))
    have hc := (HRO.out W k).1
    unfold rCells at hc
    refine ⟨?_, a0, a1, a2, a3⟩
    rw [Lib.cell_of_heap hc, ← hav]; rfl
  obtain ⟨d0, d1, d2, d3, d4⟩ := HC.out w1 (Keeps.refl _ _)
  have hxl : ρ.xs.length ≤ 1099511627 := by rw [HR.out.len]; omega
  have hbs := HR.out.bs
  clear c1 z1 h00 hx1 hr1 hprd1 hprd k1 hx0
  go_region_law (first | (refine step_append_mail rfl (.tmp 25) (.tmp 32) rfl base (.slice ao ρ.l.length cap) ρ.xs (id, pa, pb, .slice pao pto.length pcap, pd, .slice va (once pto).length vc) (by simp [Act.eval]) hrow3 (by simp [Act.eval]) hxl hb3 (by intro u hu; simp [encR] at hu; rcases hu with rfl | rfl | rfl | rfl | rfl | rfl <;> rfl) ?_; intro v5 w5 o5 g5 pl5; obtain ⟨a5, c5a, rfl, _⟩ := own_form o5; have hr5 := grown_other g5 (hrow3.alloc _) (cs := #[ρ.av, .int .i64 id, .bool ρ.dead, .bool ρ.hp, .string ρ.pa, .string ρ.pb, ρ.pt, .string ρ.pd, .bool ρ.hd, .int .i64 ρ.id, .string ρ.ta, .string ρ.tb]) (((Keeps.refl (fun _ => False) w3).alloc (.cells (encR (id, pa, pb, .slice pao pto.length pcap, pd, .slice va (once pto).length vc)).toArray 90)).heap hr3 (fun e => e)) (by decide); have c5 : w5.cell? ⟨r, 0, none⟩ = some ρ.av := (by rw [Lib.cell_of_heap hr5]; rfl); have z5 : w5.frozen? ⟨r, 0, none⟩ = false := frozen_of_row w5 r 0 _ _ hr5) | (go_simp; go_wp2_with (go_at_call 64; refine hun.mono ?_; rintro e w3 ⟨v3, rfl, hrb, k3⟩; obtain ⟨va, vc, rfl, _, _, _⟩ := own_form (show w3.ownsRow w1.drew.heap.size 27 2 v3 (once pto).length ((once pto).flatMap encL) from hrb); have kA : Fresh w1 w3 := ((Keeps.refl (fun _ => False) w1).drew).trans k3; obtain ⟨hr3, hrow3⟩ := HRO.out w3 kA; obtain ⟨y0, y1, y2, y3, y4⟩ := HC.out w3 kA; have yy0 := (HC.out (w3.alloc (.cells #[.int .i64 id, .string pa, .string pb, .slice pao pto.length pcap, .string pd, .slice va (once pto).length vc] 90)) (kA.alloc _)).1; have hb3 : base ≤ w3.heap.size := (by have := kA.size; omega))))
  all_goals
    have kw3 : Keeps (fun b => b = r ∨ ρ.av.ownBlock = some b) w3 w5 := ((Keeps.refl _ w3).alloc _).grown g5 (fun j hj _ => .inr (by rw [hav]; exact hj))
    have kw5 : Keeps (fun b => b = r ∨ ρ.av.ownBlock = some b) w w5 := ((kw1.mono (fun b _ e => .inl e)).then kA (fun _ _ e => e.elim)).then kw3 (fun b _ e => e)
    have hlf := (rowAt' (show w3.ownsRow w1.drew.heap.size 27 2 (.slice va (once pto).length vc) (once pto).length ((once pto).flatMap encL) from hrb)).less (S' := fun b => b < w.heap.size ∨ w3.heap.size ≤ b) (fun b _ e => e.elim (fun e => .inl (Nat.lt_of_lt_of_le e (show w.heap.size ≤ w1.heap.size from kw1.size))) .inr)
    have HT : Hid _ := HR.out.took hSb (w3 := w3) (w5 := w5) (g := (id, (pa.data.toList, pb.data.toList, pto, pd.data.toList), once pto)) (Nat.le_trans kw1.size kA.size) (by rw [hav]; exact pl5) o5 hr5 kw5 kw3 rfl rfl rfl rfl hp hlf
    clear kw3 kw5 hlf y0 y1 y2 y3 y4 yy0 hr3 hrow3 c5 z5 o5 g5 pl5 hr5 hrb k3 kA hun d0 d1 d2 d3 d4
    generalize w5.setCell ⟨r, 0, none⟩ (.slice a5 (ρ.xs.length + 1) c5a) = w6 at *
    go_wp2_with fail
    go_ret
    exact ⟨rfl, _, _, HT.out.1, HT.out.2⟩

end
end Go.Proofs.YtegbkpjcjlihmabGreatDoor

namespace Go.Proofs.YtegbkpjcjlihmabGreatDoor
open Go.RowKit Go.Maps Go.Sort Go.Lib

/-- the reference with somebody less -/
def Rs.went (ρ : Rs) (av : Value) (xs : List Raw) (id : Int) (p : Ltr) : Rs := { ρ with av := av, xs := xs, l := gone ρ.l id p }

theorem gone_step {l : List Wg} {i : Nat} {g : Wg} (id : Int) (p : Ltr) (h : l[i]? = some g) : gone (l.take (i + 1)) id p = if (gone1 id p g).2.2.isEmpty = true then gone (l.take i) id p else gone (l.take i) id p ++ [gone1 id p g] := by
  have e : l.take (i + 1) = l.take i ++ [g] := by rw [List.take_add_one, h]; rfl
  unfold gone
  rw [e, List.map_append, List.filter_append]
  cases h1 : (gone1 id p g).2.2.isEmpty <;> simp [h1]

theorem cells6 {w : World} {b : Nat} {x0 x1 x2 x3 x4 x5 : Value} {T : TypeId} (h : w.heap[b]? = some (.cells #[x0, x1, x2, x3, x4, x5] T (0, 0))) :
    w.cell? ⟨b, 0, none⟩ = some x0 ∧ w.cell? ⟨b, 1, none⟩ = some x1 ∧ w.cell? ⟨b, 2, none⟩ = some x2 ∧ w.cell? ⟨b, 3, none⟩ = some x3 ∧ w.cell? ⟨b, 4, none⟩ = some x4 ∧ w.cell? ⟨b, 5, none⟩ = some x5 ∧ w.frozen? ⟨b, 5, none⟩ = false := by
  refine ⟨?_, ?_, ?_, ?_, ?_, ?_, frozen_of_row w b 5 _ _ h⟩ <;> (rw [Lib.cell_of_heap h]; rfl)

section
variable {S : Nat → Prop} {r base : Nat} {ρ : Rs} {w : World}

/-- how far Gone is -/
structure GSt (S : Nat → Prop) (r base : Nat) (ρ : Rs) (w0 : World) (id : Int) (p : Ltr) (i : Nat) (v : Value) (ys : List Raw) (wr : World) : Prop where
  row : wr.ownsRow w0.heap.size 90 6 v ys.length (ys.flatMap encR)
  len : ys.length = (gone (ρ.l.take i) id p).length
  raw : ∀ (j : Nat) y g, ys[j]? = some y → (gone (ρ.l.take i) id p)[j]? = some g → RawOk wr (fun b => S b ∨ b = r ∨ v.ownBlock = some b) y g
  k : Fresh w0 wr

theorem GSt.next {w0 wr w5 : World} {id : Int} {p : Ltr} {i : Nat} {v v5 : Value} {ys : List Raw} {g : Wg} {y : Raw} (G : GSt S r base ρ w0 id p i v ys wr) (hg : ρ.l[i]? = some g) (hne : (gone1 id p g).2.2.isEmpty = false) {w3 : World}
    (k3 : Fresh wr w3) (hpl : Placed (w3.alloc (.cells (encR y).toArray 90)) v v5) (o5 : w5.ownsRow w0.heap.size 90 6 v5 (ys.length + 1) (ys.flatMap encR ++ encR y)) (g5 : (w3.alloc (.cells (encR y).toArray 90)).grownBy w5 v.ownBlock)
    (hy : RawOk w3 (fun b => S b ∨ b = r ∨ v.ownBlock = some b) y (gone1 id p g)) : GSt S r base ρ w0 id p (i + 1) v5 (ys ++ [y]) w5 := by
  have hes : (w3.alloc (.cells (encR y).toArray 90)).heap.size = w3.heap.size + 1 := by simp
  have k5 : Keeps (fun b => v.ownBlock = some b) w3 w5 := ((Keeps.refl _ w3).alloc _).grown g5 (fun j hj _ => hj)
  have hown : ∀ b, v5.ownBlock = some b → v.ownBlock = some b ∨ w3.heap.size < b := fun b hb => by
    rcases hpl with e | e
    · exact .inl (by rw [← e]; exact hb)
    · rw [hes, hb] at e
      exact .inr (by have := Option.some.inj e; omega)
  have hS : ∀ b, b < w3.heap.size → (S b ∨ b = r ∨ v5.ownBlock = some b) → (S b ∨ b = r ∨ v.ownBlock = some b) := fun b hb e => by
    rcases e with e | e | e
    · exact .inl e
    · exact .inr (.inl e)
    · rcases hown b e with e | e
      · exact .inr (.inr e)
      · omega
  have hT : ∀ b, b < w3.heap.size → ¬ (S b ∨ b = r ∨ v.ownBlock = some b) → ¬ v.ownBlock = some b := fun b _ hn e => hn (.inr (.inr e))
  have hst := gone_step id p hg
  rw [hne] at hst
  simp only [Bool.false_eq_true, if_false] at hst
  have k35 := k3.size
  refine ⟨?_, ?_, ?_, ?_⟩
  · rw [List.length_append, flatR_snoc]; exact o5
  · rw [hst, List.length_append, List.length_append, G.len]; rfl
  · intro j x g' hx hg'
    rw [hst] at hg'
    by_cases hj : j < ys.length
    · rw [List.getElem?_append_left hj] at hx
      rw [List.getElem?_append_left (by rw [← G.len]; exact hj)] at hg'
      exact ((G.raw j x g' hx hg').keep k3 (fun _ _ _ e => e) (fun _ _ e => e)).keep k5 hT hS
    · have hj1 : j = ys.length := by
        have := (List.getElem?_eq_some_iff.1 hx).1
        simp at this
        omega
      subst hj1
      rw [List.getElem?_append_right (Nat.le_refl _)] at hx
      rw [G.len, List.getElem?_append_right (Nat.le_refl _)] at hg'
      simp at hx hg'
      subst hx hg'
      exact hy.keep k5 hT hS
  · exact (G.k.trans k3).then k5 (fun b hb e => by have := (G.row.lt b e).1; omega)

theorem GSt.skip {w0 wr w3 : World} {id : Int} {p : Ltr} {i : Nat} {v : Value} {ys : List Raw} {g : Wg} (G : GSt S r base ρ w0 id p i v ys wr) (hg : ρ.l[i]? = some g) (he : (gone1 id p g).2.2.isEmpty = true) (k3 : Fresh wr w3) : GSt S r base ρ w0 id p (i + 1) v ys w3 := by
  have hst := gone_step id p hg
  rw [he] at hst
  simp only [if_true] at hst
  refine ⟨k3.owns G.row (fun _ _ e => e), by rw [hst]; exact G.len, fun j y g' hy hg' => ?_, G.k.trans k3⟩
  rw [hst] at hg'
  exact (G.raw j y g' hy hg').keep k3 (fun _ _ _ e => e) (fun _ _ e => e)

/-- the reference when all are looked through -/
theorem GSt.done {w0 wr : World} {id : Int} {p : Ltr} {v : Value} {ys : List Raw} (h : RefAt S r base ρ w0) (hSb : ∀ b, S b → b < w0.heap.size) (G : GSt S r base ρ w0 id p ρ.l.length v ys wr) :
    RefAt S r base (ρ.went v ys id p) (wr.setCell ⟨r, 0, none⟩ v) ∧ Keeps (fun b => b = r ∨ ρ.av.ownBlock = some b) w0 (wr.setCell ⟨r, 0, none⟩ v) := by
  have k6 : Keeps (fun b => b = r) wr (wr.setCell ⟨r, 0, none⟩ v) := (Keeps.refl (fun b => b = r) wr).setCell (p := ⟨r, 0, none⟩) (fun _ => rfl) _
  have ka : Keeps (fun b => b = r) w0 (wr.setCell ⟨r, 0, none⟩ v) := G.k.ofFresh.trans k6
  have hr := h.lt
  have hb := h.bs
  have e0 : ρ.l.take ρ.l.length = ρ.l := List.take_length
  have hvb : ∀ b, v.ownBlock = some b → w0.heap.size ≤ b := fun b hb => (G.row.lt b hb).1
  have hnv : ∀ j, v.ownBlock = some j → j ≠ r := fun j hj e => by have := hvb j hj; omega
  refine ⟨⟨heap_setCell_at (G.k.heap h.cell (fun e => e)) 0 _, ?_, ?_, ?_, ?_, h.nS, fun k hk hs => by have := hvb k hk; have := hSb k hs; omega, h.bs⟩, ka.mono (fun b _ e => .inl e)⟩
  · exact owns_base (k6.owns G.row (fun j hj e => hnv j hj e)) (fun k hk => by have := hvb k hk; omega)
  · show ys.length = (gone ρ.l id p).length
    have := G.len
    rw [e0] at this
    exact this
  · intro j y g hy hg
    have := G.raw j y g hy (by rw [e0]; exact hg)
    exact this.keep k6 (fun b _ hn e => hn (.inr (.inl e))) (fun b _ e => e)
  · refine h.put.keep ka (fun b _ hn e => hn (.inr (.inl e))) (fun b hb e => ?_)
    rcases e with e | e | e
    · exact .inl e
    · exact .inr (.inl e)
    · have := hvb b e; omega

set_option maxHeartbeats 8000000 in
set_option maxRecDepth 100000 in
theorem gone5 (h : RefAt S r base ρ w) (hSb : ∀ b, S b → b < w.heap.size) (id : Int) (ta tb : ByteArray) (hn : ρ.l.length ≤ 1099511627) (hlf : ∀ g ∈ ρ.l, g.2.2.length ≤ 1099511627) :
    Calls Tryz.prog 80 #[ptr r, .int .i64 id, .agg #[.string ta, .string tb]] w fun e w' => e = .returned (.tuple #[]) ∧ (∃ av xs, RefAt S r base (ρ.went av xs id (ta.data.toList, tb.data.toList)) w') ∧ Keeps (fun b => b = r ∨ ρ.av.ownBlock = some b) w w' := by
  obtain ⟨i0, z0, hi, hz0, hz3, hz1, hz2⟩ := infoW'
  have f0 : Fresh w (w.alloc (.cells #[.string ta, .string tb] 27)) := (Keeps.refl _ _).alloc _
  have hb0 := heap_new w (.cells #[.string ta, .string tb] 27)
  have h00 := h.fresh f0
  have hrl := h.lt
  obtain ⟨ao, cap, hav⟩ := h.form
  have HL : Hid (∀ g ∈ ρ.l, g.2.2.length ≤ 1099511627) := hlf
  have HF0 : Hid (Fresh w (w.alloc (.cells #[.string ta, .string tb] 27))) := f0
  have HR : Hid (RefAt S r base ρ (w.alloc (.cells #[.string ta, .string tb] 27))) := h00
  clear h h00 hlf
  unfold ptr at *
  go_enter Tryz.func80, Tryz.ntmps80
  go_upto_region 1 with fail
  generalize w.alloc (.cells #[.string ta, .string tb] 27) = w0 at *
  have hw0 := f0.size
  have hSb0 : ∀ b, S b → b < w0.heap.size := fun b hb => Nat.lt_of_lt_of_le (hSb b hb) hw0
  have HG0 : Hid (GSt S r base ρ w0 id (ta.data.toList, tb.data.toList) 0 (.slice none 0 0) [] w0) := ⟨World.ownsRow_nil _ _ _ _, rfl, fun j y g hy => by simp at hy, Keeps.refl _ _⟩
  have hrl0 : r < w0.heap.size := by omega
  clear f0
  go_wp2_with fail
  go_loopw [6, 7] (fun t6 t7 wr => ∃ (i : Nat) (ys : List Raw), i ≤ ρ.l.length ∧ t7 = .int .i64 i ∧ GSt S r base ρ w0 id (ta.data.toList, tb.data.toList) i t6 ys wr) (fun _ t7 _ => ρ.l.length - (intOf t7).toNat)
  case atStart => exact ⟨0, [], Nat.zero_le _, rfl, HG0.out⟩
  case round =>
    obtain ⟨i, ys, hi1, rfl, hG⟩ := hrel
    have HG : Hid (GSt S r base ρ w0 id (ta.data.toList, tb.data.toList) i u6 ys wr) := hG
    have kk := hG.k
    have hRr := HR.out.fresh kk
    have c0 := hRr.at 0 _ rfl
    rw [hav] at c0
    have HRr : Hid (RefAt S r base ρ wr) := hRr
    have hyl : ys.length ≤ ρ.l.length := by
      rw [hG.len]
      unfold gone
      refine Nat.le_trans (List.length_filter_le _ _) ?_
      rw [List.length_map, List.length_take]
      omega
    obtain ⟨ua, uc, rfl, _, _, _⟩ := own_form hG.row
    clear hG hRr
    by_cases hlt : i < ρ.l.length
    · obtain ⟨g, hg⟩ : ∃ g, ρ.l[i]? = some g := ⟨ρ.l[i], List.getElem?_eq_getElem hlt⟩
      obtain ⟨b, x, rfl, hx, hok, hc⟩ := HRr.out.rd hav hg
      obtain ⟨tao, tcap, ht1, ht2⟩ := hok.tt.form
      obtain ⟨lao, lcap, hl1, hl2⟩ := hok.lf.form
      obtain ⟨xid, xa, xb, xt, xd, xl⟩ := x
      have ht1 : xt = .slice tao (mlTo g.2.1).length tcap := ht1
      have hl1 : xl = .slice lao g.2.2.length lcap := hl1
      subst ht1 hl1
      have q0 := hc 0 _ rfl
      have q1 := hc 1 _ rfl
      have q2 := hc 2 _ rfl
      have q3 := hc 3 _ rfl
      have q4 := hc 4 _ rfl
      have q5 := hc 5 _ rfl
      rw [Nat.add_zero] at q0
      have hxid : xid = g.1 := hok.id
      subst hxid
      have HOK : Hid (RawOk w0 (fun b' => S b' ∨ b' = r ∨ ρ.av.ownBlock = some b') (g.1, xa, xb, .slice tao (mlTo g.2.1).length tcap, xd, .slice lao g.2.2.length lcap) g) := HR.out.raw i _ _ hx hg
      have HGG : Hid (ρ.l[i]? = some g) := hg
      have hll := HL.out g (List.mem_of_getElem? hg)
      have z0' : (0 : Int) ≤ (i : Int) := by omega
      have z1' : (i : Int) < (ρ.l.length : Int) := by omega
      have HAV : Hid (∀ j, ρ.av.ownBlock = some j → j < w0.heap.size) := fun j hj => (HR.out.row.lt j hj).2
      clear hx hok hc hg ht2
      have k1w : Fresh wr (wr.alloc (.cells #[.int .i64 g.1, .string xa, .string xb, .slice tao (mlTo g.2.1).length tcap, .string xd, .slice lao g.2.2.length lcap] 90)) := (Keeps.refl _ _).alloc _
      have hkx1 := heap_new wr (.cells #[.int .i64 g.1, .string xa, .string xb, .slice tao (mlTo g.2.1).length tcap, .string xd, .slice lao g.2.2.length lcap] 90)
      have hbw := (kk.trans k1w).heap hb0 (fun e => e)
      obtain ⟨t0, t1, _, _⟩ := cells2 hbw
      have HVB : Hid (∀ j, (Value.slice ua ys.length uc).ownBlock = some j → w0.heap.size ≤ j ∧ j < wr.heap.size) := fun j hj => HG.out.row.lt j hj
      have HB : Hid (∀ j, j < w0.heap.size → (S j ∨ j = r ∨ (Value.slice ua ys.length uc).ownBlock = some j) → (S j ∨ j = r ∨ ρ.av.ownBlock = some j)) := fun j hj e => by
        rcases e with e | e | e
        · exact .inl e
        · exact .inr (.inl e)
        · have := (HVB.out j e).1; omega
      by_cases hide : g.1 = id
      · subst hide
        have hwo := without_ref lao lcap g.2.2 ta tb (wr.alloc (.cells #[.int .i64 g.1, .string xa, .string xb, .slice tao (mlTo g.2.1).length tcap, .string xd, .slice lao g.2.2.length lcap] 90)) hll (hl2.fresh k1w)
        go_upto_region 6 with fail
        generalize wr.alloc (.cells #[.int .i64 g.1, .string xa, .string xb, .slice tao (mlTo g.2.1).length tcap, .string xd, .slice lao g.2.2.length lcap] 90) = w1 at *
        obtain ⟨k0, k1, k2, k3', k4, k5, kf⟩ := cells6 hkx1
        go_wp2_with fail
        refine hwo.mono ?_
        rintro e w3 ⟨v3, rfl, hrb, k3⟩
        obtain ⟨la', lc', rfl, _, _, _⟩ := own_form (show w3.ownsRow w1.heap.size 27 2 v3 (lessA g.2.2 (ta.data.toList, tb.data.toList)).length ((lessA g.2.2 (ta.data.toList, tb.data.toList)).flatMap encL) from hrb)
        obtain ⟨lf', hlf'⟩ : ∃ lf', lf' = lessA g.2.2 (ta.data.toList, tb.data.toList) := ⟨_, rfl⟩
        rw [← hlf'] at hrb ⊢
        have HGO : Hid (gone1 g.1 (ta.data.toList, tb.data.toList) g = (g.1, g.2.1, lf')) := by
          show _ = _
          rw [hlf']
          exact if_pos rfl
        clear hlf'
        have hkx3 := k3.heap hkx1 (fun e => e)
        have k9 : Keeps (fun j => j = wr.heap.size) w3 (w3.setCell ⟨wr.heap.size, 5, none⟩ (.slice la' lf'.length lc')) := (Keeps.refl (fun j => j = wr.heap.size) w3).setCell (p := ⟨wr.heap.size, 5, none⟩) (fun _ => rfl) _
        have HKX : Hid ((w3.setCell ⟨wr.heap.size, 5, none⟩ (.slice la' lf'.length lc')).heap[wr.heap.size]? = some (.cells #[.int .i64 g.1, .string xa, .string xb, .slice tao (mlTo g.2.1).length tcap, .string xd, .slice la' lf'.length lc'] 90 (0, 0))) := heap_setCell_at hkx3 5 _
        have KW : Hid (Fresh wr (w3.setCell ⟨wr.heap.size, 5, none⟩ (.slice la' lf'.length lc'))) := (k1w.trans k3).then k9 (fun j hj e => by omega)
        have hw1 := k1w.size
        have hrb' : w3.ownsRow w1.heap.size 27 2 (.slice la' lf'.length lc') lf'.length (lf'.flatMap encL) := hrb
        have hkl := heap_lt hkx1
        have HRY : Hid (RawOk (w3.setCell ⟨wr.heap.size, 5, none⟩ (.slice la' lf'.length lc')) (fun j => S j ∨ j = r ∨ (Value.slice ua ys.length uc).ownBlock = some j) (g.1, xa, xb, .slice tao (mlTo g.2.1).length tcap, xd, .slice la' lf'.length lc') (gone1 g.1 (ta.data.toList, tb.data.toList) g)) := by
          have hok := HOK.out
          show RawOk _ _ _ _
          rw [HGO.out]
          refine ⟨hok.id, hok.fa, hok.fb, ?_, hok.dd, (rowAt' hrb').keep k9 (fun j hj hn e => hn (.inl (by omega))) (fun j hj e => ?_)⟩
          · exact hok.tt.keep (kk.trans KW.out) (fun _ _ _ e => e) (fun j hj e => HB.out j hj e)
          · rcases e with e | e | e
            · exact .inl (by have := hSb0 j e; have := kk.size; omega)
            · exact .inl (by have := kk.size; omega)
            · exact .inl (by have := (HVB.out j e).2; omega)
        clear k9 hrb hrb' hwo k0 k1 k2 k3' k4 k5 kf
        obtain ⟨k0, k1, k2, k3', k4, k5, kf⟩ := cells6 hkx3
        clear k3
        go_upto_region 8 with fail
        generalize w3.setCell ⟨wr.heap.size, 5, none⟩ (.slice la' lf'.length lc') = W3 at *
        obtain ⟨k0, k1, k2, k3', k4, k5, kf⟩ := cells6 HKX.out
        have hrowW : W3.ownsRow w0.heap.size 90 6 (.slice ua ys.length uc) ys.length (ys.flatMap encR) := KW.out.owns HG.out.row (fun _ _ e => e)
        have hW3 : w0.heap.size ≤ W3.heap.size := Nat.le_trans kk.size KW.out.size
        by_cases he : lf' = []
        · have hn0 : lf'.length = 0 := by rw [he]; rfl
          have hgt : ¬ (0 : Int) < (lf'.length : Int) := by omega
          have HF : Hid (GSt S r base ρ w0 g.1 (ta.data.toList, tb.data.toList) (i + 1) (.slice ua ys.length uc) ys W3) := HG.out.skip HGG.out (by rw [HGO.out, he]; rfl) KW.out
          clear hn0 he hrowW
          go_wp2_with fail
          go_roundw
          case rel => exact ⟨i + 1, ys, by omega, by go_num, HF.out⟩
          case measure => simp [intOf]; omega
        · have hn0 : 0 < lf'.length := List.length_pos_iff.2 he
          have hgt : (0 : Int) < (lf'.length : Int) := by omega
          have HNE : Hid ((gone1 g.1 (ta.data.toList, tb.data.toList) g).2.2.isEmpty = false) := by
            show _ = _
            rw [HGO.out]
            exact List.isEmpty_eq_false_iff.2 he
          clear hn0 he
          go_wp2_with (at_builtin; refine wpList_append_placed _ rfl _ _ 85 rfl w0.heap.size 90 i0 z0 6 104 Tryz.underlying85 hi hz0 hz1 hz2 hz3 (by decide) _ _ _ rfl (hrowW.alloc _) ⟨W3.heap.size, 0, none⟩ 1 1 (encR (g.1, xa, xb, .slice tao (mlTo g.2.1).length tcap, xd, .slice la' lf'.length lc')) rfl rfl ?c1 ?c2 ?c3 ?c4 ?c5 ?_)
          any_goals first | exact cells6_new _ _ _ _ _ _ _ _ | exact fun _ _ h => h | (intro u' hu'; simp [encR] at hu'; rcases hu' with rfl | rfl | rfl | rfl | rfl | rfl <;> rfl) | (unfold maxLen; omega) | omega | (simp; omega)
          intro v7 w7 ho7 hg7 hpl
          have HF : Hid (GSt S r base ρ w0 g.1 (ta.data.toList, tb.data.toList) (i + 1) v7 (ys ++ [(g.1, xa, xb, .slice tao (mlTo g.2.1).length tcap, xd, .slice la' lf'.length lc')]) w7) := HG.out.next HGG.out HNE.out KW.out hpl ho7 hg7 HRY.out
          clear ho7 hg7 hpl hrowW
          go_wp2_with fail
          go_roundw
          case rel => exact ⟨i + 1, _, by omega, by go_num, HF.out⟩
          case measure => simp [intOf]; omega
      · have hideb : (g.1 == id) = false := beq_eq_false_iff_ne.2 hide
        have HGO : Hid (gone1 id (ta.data.toList, tb.data.toList) g = (g.1, g.2.1, g.2.2)) := by
          show _ = _
          rw [gone1_other hide]
        have HKX : Hid ((wr.alloc (.cells #[.int .i64 g.1, .string xa, .string xb, .slice tao (mlTo g.2.1).length tcap, .string xd, .slice lao g.2.2.length lcap] 90)).heap[wr.heap.size]? = some (.cells #[.int .i64 g.1, .string xa, .string xb, .slice tao (mlTo g.2.1).length tcap, .string xd, .slice lao g.2.2.length lcap] 90 (0, 0))) := hkx1
        have KW : Hid (Fresh wr (wr.alloc (.cells #[.int .i64 g.1, .string xa, .string xb, .slice tao (mlTo g.2.1).length tcap, .string xd, .slice lao g.2.2.length lcap] 90))) := k1w
        have HRY : Hid (RawOk (wr.alloc (.cells #[.int .i64 g.1, .string xa, .string xb, .slice tao (mlTo g.2.1).length tcap, .string xd, .slice lao g.2.2.length lcap] 90)) (fun j => S j ∨ j = r ∨ (Value.slice ua ys.length uc).ownBlock = some j) (g.1, xa, xb, .slice tao (mlTo g.2.1).length tcap, xd, .slice lao g.2.2.length lcap) (gone1 id (ta.data.toList, tb.data.toList) g)) := by
          have hok := HOK.out
          show RawOk _ _ _ _
          rw [HGO.out]
          exact ⟨hok.id, hok.fa, hok.fb, hok.tt.keep (kk.trans KW.out) (fun _ _ _ e => e) (fun j hj e => HB.out j hj e), hok.dd, hok.lf.keep (kk.trans KW.out) (fun _ _ _ e => e) (fun j hj e => HB.out j hj e)⟩
        have HIDE : Hid (¬ g.1 = id) := hide
        clear hide
        go_upto_region 6 with fail
        generalize wr.alloc (.cells #[.int .i64 g.1, .string xa, .string xb, .slice tao (mlTo g.2.1).length tcap, .string xd, .slice lao g.2.2.length lcap] 90) = W3 at *
        clear t0 t1 hbw hkx1 k1w
        obtain ⟨k0, k1, k2, k3', k4, k5, kf⟩ := cells6 HKX.out
        have hrowW : W3.ownsRow w0.heap.size 90 6 (.slice ua ys.length uc) ys.length (ys.flatMap encR) := KW.out.owns HG.out.row (fun _ _ e => e)
        have hW3 : w0.heap.size ≤ W3.heap.size := Nat.le_trans kk.size KW.out.size
        by_cases he : g.2.2 = []
        · have hn0 : g.2.2.length = 0 := by rw [he]; rfl
          have hgt : ¬ (0 : Int) < (g.2.2.length : Int) := by omega
          have HF : Hid (GSt S r base ρ w0 id (ta.data.toList, tb.data.toList) (i + 1) (.slice ua ys.length uc) ys W3) := HG.out.skip HGG.out (by rw [HGO.out, he]; rfl) KW.out
          clear hn0 he hrowW
          go_wp2_with fail
          go_roundw
          case rel => exact ⟨i + 1, ys, by omega, by go_num, HF.out⟩
          case measure => simp [intOf]; omega
        · have hn0 : 0 < g.2.2.length := List.length_pos_iff.2 he
          have hgt : (0 : Int) < (g.2.2.length : Int) := by omega
          have HNE : Hid ((gone1 id (ta.data.toList, tb.data.toList) g).2.2.isEmpty = false) := by
            show _ = _
            rw [HGO.out]
            exact List.isEmpty_eq_false_iff.2 he
          clear hn0 he
          go_wp2_with (at_builtin; refine wpList_append_placed _ rfl _ _ 85 rfl w0.heap.size 90 i0 z0 6 104 Tryz.underlying85 hi hz0 hz1 hz2 hz3 (by decide) _ _ _ rfl (hrowW.alloc _) ⟨W3.heap.size, 0, none⟩ 1 1 (encR (g.1, xa, xb, .slice tao (mlTo g.2.1).length tcap, xd, .slice lao g.2.2.length lcap)) rfl rfl ?d1 ?d2 ?d3 ?d4 ?d5 ?_)
          any_goals first | exact cells6_new _ _ _ _ _ _ _ _ | exact fun _ _ h => h | (intro u' hu'; simp [encR] at hu'; rcases hu' with rfl | rfl | rfl | rfl | rfl | rfl <;> rfl) | (unfold maxLen; omega) | omega | (simp; omega)
          intro v7 w7 ho7 hg7 hpl
          have HF : Hid (GSt S r base ρ w0 id (ta.data.toList, tb.data.toList) (i + 1) v7 (ys ++ [(g.1, xa, xb, .slice tao (mlTo g.2.1).length tcap, xd, .slice lao g.2.2.length lcap)]) w7) := HG.out.next HGG.out HNE.out KW.out hpl ho7 hg7 HRY.out
          clear ho7 hg7 hpl hrowW
          go_wp2_with fail
          go_roundw
          case rel => exact ⟨i + 1, _, by omega, by go_num, HF.out⟩
          case measure => simp [intOf]; omega
    · have ei : i = ρ.l.length := by omega
      subst ei
      have z1' : ¬ (ρ.l.length : Int) < (ρ.l.length : Int) := by omega
      have HT : Hid _ := GSt.done HR.out hSb0 HG.out
      have f6 := HRr.out.fz 0
      go_wp2_with fail
      go_end0
      exact ⟨rfl, ⟨_, _, HT.out.1⟩, (HF0.out.ofFresh).trans (HT.out.2.mono (fun j _ e => by first | exact e | (rw [hav] at e; exact e)))⟩

end
end Go.Proofs.YtegbkpjcjlihmabGreatDoor
