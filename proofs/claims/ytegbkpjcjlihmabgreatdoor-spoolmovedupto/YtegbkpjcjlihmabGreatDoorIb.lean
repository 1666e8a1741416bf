/-
  Addresses of the reference, as they lie: At, Unique, Without; Address, Given, Same, left. | Address; a mail of the reference, as a value. | Who is left of a mail that is not there: nobody. | The spool's Mail, Left, Done. | Mails that are small; what a Done leaves, plain; the names that are used.
-/
import Derived.Test.YtegbkpjcjlihmabGreatDoorGr
import Derived.Test.YtegbkpjcjlihmabGreatDoorGp
import Derived.Deep.RegionHeld3
import Derived.Test.YtegbkpjcjlihmabGreatDoorIa
import Derived.Deep.CutRange
import Derived.Test.YtegbkpjcjlihmabGreatDoorGm
import Derived.Test.YtegbkpjcjlihmabGreatDoorGx
namespace Go.Proofs.YtegbkpjcjlihmabGreatDoor
open Go.RowKit Go.Maps Go.Sort Go.Lib

theorem infoA : (Tryz.prog.info? 27).map (fun i => (i.zero.map (fun z => z.cells.size), i.size, i.bytes)) = some (some 2, 2, 32) := by kernel_rfl
theorem infoA' : ∃ i z, Tryz.prog.info? 27 = some i ∧ i.zero = some z ∧ z.cells.size = 2 ∧ i.size = 2 ∧ i.bytes = 32 := by
  cases h : Tryz.prog.info? 27 with
  | none => have := infoA; rw [h] at this; cases this
  | some i =>
    have := infoA
    rw [h] at this
    simp at this
    obtain ⟨⟨z, h1, h2⟩, h3, h4⟩ := this
    exact ⟨i, z, rfl, h1, h2, h3, h4⟩

/-- addresses, read -/
def AdRd (w : World) (ao : Option Addr) (l : List Ltr) : Prop :=
  l.length ≠ 0 → ∃ b off, ao = some ⟨b, off, none⟩ ∧ ∀ (i : Nat) (p : Ltr), l[i]? = some p → w.cell? ⟨b, off + i * 2, none⟩ = some (.string ⟨p.1.toArray⟩) ∧ w.cell? ⟨b, off + i * 2 + 1, none⟩ = some (.string ⟨p.2.toArray⟩)

theorem AdRd.keep {S : Nat → Prop} {w w' : World} {ao : Option Addr} {l : List Ltr} (h : AdRd w ao l) (k : Keeps S w w') (hS : ∀ b off, ao = some ⟨b, off, none⟩ → l.length ≠ 0 → ¬ S b) : AdRd w' ao l := fun hn => by
  obtain ⟨b, off, e, hc⟩ := h hn
  exact ⟨b, off, e, fun i p hp => ⟨cell_keeps k (hc i p hp).1 (hS b off e hn), cell_keeps k (hc i p hp).2 (hS b off e hn)⟩⟩

theorem AdRd.fresh {w w' : World} {ao : Option Addr} {l : List Ltr} (h : AdRd w ao l) (k : Fresh w w') : AdRd w' ao l := h.keep k (fun _ _ _ _ e => e)

/-- a list of addresses, its row outside S -/
def AdAt (w : World) (S : Nat → Prop) (v : Value) (l : List Ltr) : Prop :=
  ∃ ao cap, v = .slice ao l.length cap ∧ AdRd w ao l ∧ ∀ b off, ao = some ⟨b, off, none⟩ → l.length ≠ 0 → ¬ S b ∧ b < w.heap.size

theorem AdAt.keep {S S' T : Nat → Prop} {w w' : World} {v : Value} {l : List Ltr} (h : AdAt w S v l) (k : Keeps T w w') (hT : ∀ b, b < w.heap.size → ¬ S b → ¬ T b) (hS : ∀ b, b < w.heap.size → S' b → S b) : AdAt w' S' v l := by
  obtain ⟨ao, cap, e, h1, h2⟩ := h
  refine ⟨ao, cap, e, h1.keep k (fun b off e hn => hT b (h2 b off e hn).2 (h2 b off e hn).1), fun b off e hn => ⟨fun hs => (h2 b off e hn).1 (hS b (h2 b off e hn).2 hs), ?_⟩⟩
  have := k.size
  have := (h2 b off e hn).2
  omega

theorem AdAt.fresh {S : Nat → Prop} {w w' : World} {v : Value} {l : List Ltr} (h : AdAt w S v l) (k : Fresh w w') : AdAt w' S v l := h.keep k (fun _ _ _ e => e) (fun _ _ e => e)
theorem AdAt.form {S : Nat → Prop} {w : World} {v : Value} {l : List Ltr} (h : AdAt w S v l) : ∃ ao cap, v = .slice ao l.length cap ∧ AdRd w ao l := let ⟨a, c, e, h1, _⟩ := h; ⟨a, c, e, h1⟩
theorem AdAt.nil (w : World) (S : Nat → Prop) : AdAt w S (.slice none 0 0) [] := ⟨none, 0, rfl, fun h => absurd rfl h, fun _ _ e => by cases e⟩

/-- a row of addresses (27 or 56) is read -/
theorem rowRd {w : World} {base cap : Nat} {T : TypeId} {ao : Option Addr} {l : List Ltr} (h : w.ownsRow base T 2 (.slice ao l.length cap) l.length (l.flatMap encL)) : AdRd w ao l := fun hn => by
  obtain ⟨a, c, e, _, _, ha⟩ := own_form h
  injection e with e1 e2 e3
  subst e1
  obtain ⟨g, rfl⟩ := ha (by omega)
  have hadd : ∀ j, (⟨g, 0, none⟩ : Addr).add j = ⟨g, j, none⟩ := fun j => by unfold Addr.add; split <;> simp_all
  refine ⟨g, 0, rfl, fun i p hp => ?_⟩
  obtain ⟨e1, e2⟩ := flatL_at l i p hp
  have q0 := h.cells (g := g) rfl _ _ e1
  have q1 := h.cells (g := g) rfl _ _ e2
  rw [hadd] at q0 q1
  rw [Nat.zero_add]
  exact ⟨q0, q1⟩

theorem rowAt {w : World} {base : Nat} {T : TypeId} {v : Value} {l : List Ltr} {S : Nat → Prop} (h : w.ownsRow base T 2 v l.length (l.flatMap encL)) (hS : ∀ b, base ≤ b → ¬ S b) : AdAt w S v l := by
  obtain ⟨ao, cap, rfl, _, _, ha⟩ := own_form h
  refine ⟨ao, cap, rfl, rowRd h, fun b off e hn => ?_⟩
  obtain ⟨g, rfl⟩ := ha (by omega)
  injection e with e
  injection e with e1
  have := h.lt g rfl
  subst e1
  exact ⟨hS _ this.1, this.2⟩

set_option maxHeartbeats 2000000 in
set_option maxRecDepth 20000 in
theorem at_ref (ao : Option Addr) (cap : Nat) (l : List Ltr) (a b : ByteArray) (w : World) (hn : l.length ≤ 1099511627776) (hr : AdRd w ao l) :
    Calls Tryz.prog 99 #[.slice ao l.length cap, .agg #[.string a, .string b]] w fun e w' => (∃ n : Int, e = .returned (.int .i64 n) ∧ (0 ≤ n ↔ (a.data.toList, b.data.toList) ∈ l)) ∧ Fresh w w' := by
  have HR : Hid (AdRd w ao l) := hr
  have fa : Fresh w (w.alloc (.cells #[.string a, .string b] 27)) := (Keeps.refl _ w).alloc _
  have hb0 := heap_new w (.cells #[.string a, .string b] 27)
  clear hr
  go_enter Tryz.func99, Tryz.ntmps99
  go_wp2_with fail
  generalize w.alloc (.cells #[.string a, .string b] 27) = w0 at *
  go_loopw [5] (fun t6 wr => ∃ i : Nat, i ≤ l.length ∧ t6 = .int .i64 i ∧ (a.data.toList, b.data.toList) ∉ l.take i ∧ Fresh w0 wr) (fun t6 _ => l.length - (intOf t6).toNat)
  case atStart => exact ⟨0, Nat.zero_le _, rfl, by simp, Keeps.refl _ _⟩
  case round =>
    obtain ⟨i, h1, rfl, hno, kk⟩ := hrel
    have HN0 : Hid ((a.data.toList, b.data.toList) ∉ l.take i) := hno
    have KK : Hid (Fresh w wr) := fa.trans kk
    clear hno
    by_cases hlt : i < l.length
    · obtain ⟨x, hx⟩ : ∃ x, l[i]? = some x := ⟨l[i], List.getElem?_eq_getElem hlt⟩
      obtain ⟨g, off, rfl, hq⟩ := (HR.out.fresh KK.out) (by omega)
      obtain ⟨q0, q1⟩ := hq i x hx
      have hbr := kk.heap hb0 (fun e => e)
      have c0 : wr.cell? ⟨w.heap.size, 0, none⟩ = some (.string a) := by rw [Lib.cell_of_heap hbr]; rfl
      have c1 : wr.cell? ⟨w.heap.size, 1, none⟩ = some (.string b) := by rw [Lib.cell_of_heap hbr]; rfl
      have HT : Hid (l.take (i + 1) = l.take i ++ [x]) := by
        show _ = _
        rw [List.take_add_one, hx]; rfl
      have HM : Hid (x ∈ l) := List.mem_of_getElem? hx
      obtain ⟨X1, hX1⟩ : ∃ X1 : ByteArray, X1 = ⟨x.1.toArray⟩ := ⟨_, rfl⟩
      obtain ⟨X2, hX2⟩ : ∃ X2 : ByteArray, X2 = ⟨x.2.toArray⟩ := ⟨_, rfl⟩
      have H1 : Hid (x = (X1.data.toList, X2.data.toList)) := by rw [hX1, hX2]; rfl
      rw [← hX1] at q0
      rw [← hX2] at q1
      clear hx hX1 hX2 hq hbr
      have z0 : (0 : Int) ≤ (i : Int) := by omega
      have z1 : (i : Int) < (l.length : Int) := by omega
      have hsz := kk.size
      by_cases hu : X1 = a
      · by_cases hk : X2 = b
        · subst hu
          subst hk
          have hub : (X1.toList == X1.toList) = true := by rw [beq_bytes]; simp
          have hub2 : (X2.toList == X2.toList) = true := by rw [beq_bytes]; simp
          go_wp2_with fail
          go_quiet (fail)
          go_wp2_with fail
          go_ret
          refine ⟨⟨_, rfl, fun _ => ?_, fun _ => by omega⟩, KK.out.drewN _⟩
          rw [← H1.out]
          exact HM.out
        · have hkb := beq_false (a := X2) (b := b) (fun e => hk (ba_ext e))
          have HN2 : Hid ((a.data.toList, b.data.toList) ∉ l.take (i + 1)) := by
            show ¬ _
            rw [HT.out, List.mem_append]
            rintro (e | e)
            · exact HN0.out e
            · simp only [List.mem_singleton] at e
              rw [H1.out] at e
              exact hk (ba_ext (congrArg (fun p : Ltr => p.2) e).symm)
          subst hu
          have hub : (X1.toList == X1.toList) = true := by rw [beq_bytes]; simp
          clear hk
          go_wp2_with fail
          go_quiet (fail)
          go_wp2_with fail
          go_roundw
          case rel => exact ⟨i + 1, by omega, by go_num, HN2.out, kk.drewN _⟩
          case measure => simp [intOf]; omega
      · have hub := beq_false (a := X1) (b := a) (fun e => hu (ba_ext e))
        have HN2 : Hid ((a.data.toList, b.data.toList) ∉ l.take (i + 1)) := by
          show ¬ _
          rw [HT.out, List.mem_append]
          rintro (e | e)
          · exact HN0.out e
          · simp only [List.mem_singleton] at e
            rw [H1.out] at e
            exact hu (ba_ext (congrArg (fun p : Ltr => p.1) e).symm)
        clear hu
        go_wp2_with fail
        go_quiet (fail)
        go_wp2_with fail
        go_roundw
        case rel => exact ⟨i + 1, by omega, by go_num, HN2.out, kk.drewN _⟩
        case measure => simp [intOf]; omega
    · have ei : i = l.length := by omega
      subst ei
      have z1 : ¬ (l.length : Int) < (l.length : Int) := by omega
      have HN3 : Hid ((a.data.toList, b.data.toList) ∉ l) := by
        have := HN0.out
        rw [List.take_length] at this
        exact this
      go_wp2_with fail
      go_ret
      exact ⟨⟨_, rfl, fun h => absurd h (by decide), fun h => absurd h HN3.out⟩, KK.out⟩

/-- a row of the reference's addresses -/
def RowB (w : World) (base : Nat) (v : Value) (l : List Ltr) : Prop := w.ownsRow base 27 2 v l.length (l.flatMap encL)

theorem cells2_new (w : World) (a b : Value) (T : TypeId) : ∀ j u, [a, b][j]? = some u → (w.alloc (.cells #[a, b] T)).cell? ((⟨w.heap.size, 0, none⟩ : Addr).add j) = some u := by
  intro j u hj
  match j, hj with
  | 0, hj => simp at hj; subst hj; simp [Addr.add]
  | 1, hj => simp at hj; subst hj; simp [Addr.add]

set_option maxHeartbeats 4000000 in
set_option maxRecDepth 100000 in
theorem unique_ref (ao : Option Addr) (cap : Nat) (l : List Ltr) (w : World) (hn : l.length ≤ 1099511627) (hr : AdRd w ao l) :
    Calls Tryz.prog 64 #[.slice ao l.length cap] w fun e w' => ∃ v, e = .returned v ∧ RowB w' w.heap.size v (once l) ∧ Fresh w w' := by
  obtain ⟨i0, z0, hi, hz0, hz3, hz1, hz2⟩ := infoA'
  have HR : Hid (AdRd w ao l) := hr
  clear hr
  go_enter Tryz.func64, Tryz.ntmps64
  go_wp2_with fail
  go_loopw [3, 4] (fun t5 t6 wr => ∃ i : Nat, i ≤ l.length ∧ t6 = .int .i64 i ∧ RowB wr w.heap.size t5 (once (l.take i)) ∧ Fresh w wr) (fun _ t6 _ => l.length - (intOf t6).toNat)
  case atStart => exact ⟨0, Nat.zero_le _, rfl, World.ownsRow_nil _ _ _ _, Keeps.refl _ _⟩
  case round =>
    obtain ⟨i, h1, rfl, hrow, kk⟩ := hrel
    have HRow : Hid (RowB wr w.heap.size u3 (once (l.take i))) := hrow
    have hfl : (once (l.take i)).length ≤ l.length := Nat.le_trans (once_len _) (by rw [List.length_take]; omega)
    have hwr := kk.size
    unfold RowB at hrow
    obtain ⟨ra, rc, rfl, _, _, _⟩ := own_form hrow
    by_cases hlt : i < l.length
    · obtain ⟨x, hx⟩ : ∃ x, l[i]? = some x := ⟨l[i], List.getElem?_eq_getElem hlt⟩
      obtain ⟨g, off, rfl, hq⟩ := (HR.out.fresh kk) (by omega)
      obtain ⟨q0, q1⟩ := hq i x hx
      have HT : Hid (once (l.take (i + 1)) = addOnce (once (l.take i)) x) := once_next hx
      obtain ⟨X1, hX1⟩ : ∃ X1 : ByteArray, X1 = ⟨x.1.toArray⟩ := ⟨_, rfl⟩
      obtain ⟨X2, hX2⟩ : ∃ X2 : ByteArray, X2 = ⟨x.2.toArray⟩ := ⟨_, rfl⟩
      have H1 : Hid ((X1.data.toList, X2.data.toList) = x) := by rw [hX1, hX2]; rfl
      have H3 : Hid (encL x = [.string X1, .string X2]) := by rw [hX1, hX2]; rfl
      rw [← hX1] at q0
      rw [← hX2] at q1
      have hat := at_ref ra rc (once (l.take i)) X1 X2 wr (by omega) (rowRd hrow)
      clear hx hX1 hX2 hq hrow
      generalize once (l.take i) = tl at *
      have z0' : (0 : Int) ≤ (i : Int) := by omega
      have z1' : (i : Int) < (l.length : Int) := by omega
      go_wp2_with fail
      refine hat.mono ?_
      rintro e w3 ⟨⟨n, rfl, hn3⟩, k3⟩
      have hn3' : Hid (0 ≤ n ↔ x ∈ tl) := by rw [← H1.out]; exact hn3
      have q0' := cell_keeps k3 q0 (fun e => e)
      have q1' := cell_keeps k3 q1 (fun e => e)
      have HRow3 : Hid (RowB w3 w.heap.size (.slice ra tl.length rc) tl) := k3.owns HRow.out (fun _ _ e => e)
      have kk3 : Fresh w w3 := kk.trans k3
      have hw3 := kk3.size
      clear hat hn3 q0 q1 HRow k3 kk
      by_cases hneg : n < 0
      · have HF0 : Hid (once (l.take (i + 1)) = tl ++ [x]) := by
          show _ = _
          rw [HT.out]
          exact if_neg (fun e => by have := hn3'.out.2 e; omega)
        have hrow : w3.ownsRow w.heap.size 27 2 (.slice ra tl.length rc) tl.length (tl.flatMap encL) := HRow3.out
        go_wp2_with (at_builtin; refine wpList_append_placed _ rfl _ _ 28 rfl w.heap.size 27 i0 z0 2 32 Tryz.underlying28 hi hz0 hz1 hz2 hz3 (by decide) _ _ _ rfl (hrow.alloc _) ⟨w3.heap.size, 0, none⟩ 1 1 [.string X1, .string X2] rfl rfl ?c1 ?c2 ?c3 ?c4 ?c5 ?_)
        any_goals first | exact cells2_new _ _ _ _ | exact ⟨rfl, rfl⟩ | (intro u' hu'; simp at hu'; rcases hu' with rfl | rfl <;> rfl) | (unfold maxLen; omega) | omega | (simp; omega)
        intro v7 w7 ho7 hg7 hpl
        clear hpl
        have KF : Fresh w w7 := (kk3.alloc _).grown hg7 (fun g' hg' hlt' => by have := (hrow.lt g' hg').1; omega)
        have HF : Hid (RowB w7 w.heap.size v7 (once (l.take (i + 1)))) := by
          show w7.ownsRow _ _ _ _ _ _
          rw [HF0.out, List.length_append, List.flatMap_append]
          have e2 : [x].flatMap encL = [.string X1, .string X2] := by rw [List.flatMap_cons, H3.out]; rfl
          rw [e2]
          exact ho7
        clear ho7 hg7 HRow3
        go_wp2_with fail
        go_roundw
        case rel => exact ⟨i + 1, by omega, by go_num, HF.out, KF⟩
        case measure => simp [intOf]; omega
      · have HF : Hid (RowB w3 w.heap.size (.slice ra tl.length rc) (once (l.take (i + 1)))) := by
          show RowB _ _ _ _
          rw [HT.out, show addOnce tl x = tl from if_pos (hn3'.out.1 (by omega))]
          exact HRow3.out
        go_wp2_with fail
        go_roundw
        case rel => exact ⟨i + 1, by omega, by go_num, HF.out, kk3⟩
        case measure => simp [intOf]; omega
    · have ei : i = l.length := by omega
      subst ei
      have z1' : ¬ (l.length : Int) < (l.length : Int) := by omega
      have eL : l.take l.length = l := List.take_length
      rw [eL] at HRow
      clear hrow hfl
      go_wp2_with fail
      go_ret
      exact ⟨_, rfl, HRow.out, kk⟩

/-- addresses less one -/
def lessA (l : List Ltr) (p : Ltr) : List Ltr := l.filter (fun q => decide (q ≠ p))

set_option maxHeartbeats 4000000 in
set_option maxRecDepth 100000 in
theorem without_ref (ao : Option Addr) (cap : Nat) (l : List Ltr) (a b : ByteArray) (w : World) (hn : l.length ≤ 1099511627) (hr : AdRd w ao l) :
    Calls Tryz.prog 111 #[.slice ao l.length cap, .agg #[.string a, .string b]] w fun e w' => ∃ v, e = .returned v ∧ RowB w' w.heap.size v (lessA l (a.data.toList, b.data.toList)) ∧ Fresh w w' := by
  obtain ⟨i0, z0, hi, hz0, hz3, hz1, hz2⟩ := infoA'
  have HR : Hid (AdRd w ao l) := hr
  have fa : Fresh w (w.alloc (.cells #[.string a, .string b] 27)) := (Keeps.refl _ w).alloc _
  have hb0 := heap_new w (.cells #[.string a, .string b] 27)
  clear hr
  go_enter Tryz.func111, Tryz.ntmps111
  go_wp2_with fail
  generalize w.alloc (.cells #[.string a, .string b] 27) = w0 at *
  have hsz0 := fa.size
  go_loopw [5, 6] (fun t5 t6 wr => ∃ i : Nat, i ≤ l.length ∧ t6 = .int .i64 i ∧ RowB wr w0.heap.size t5 (lessA (l.take i) (a.data.toList, b.data.toList)) ∧ Fresh w0 wr) (fun _ t6 _ => l.length - (intOf t6).toNat)
  case atStart => exact ⟨0, Nat.zero_le _, rfl, World.ownsRow_nil _ _ _ _, Keeps.refl _ _⟩
  case round =>
    obtain ⟨i, h1, rfl, hrow, kk⟩ := hrel
    have HRow : Hid (RowB wr w0.heap.size u5 (lessA (l.take i) (a.data.toList, b.data.toList))) := hrow
    have hfl : (lessA (l.take i) (a.data.toList, b.data.toList)).length ≤ l.length := Nat.le_trans (by unfold lessA; exact List.length_filter_le _ _) (by rw [List.length_take]; omega)
    have hwr := kk.size
    have KK : Hid (Fresh w wr) := fa.trans kk
    clear hrow
    by_cases hlt : i < l.length
    · obtain ⟨x, hx⟩ : ∃ x, l[i]? = some x := ⟨l[i], List.getElem?_eq_getElem hlt⟩
      obtain ⟨g, off, rfl, hq⟩ := (HR.out.fresh KK.out) (by omega)
      obtain ⟨q0, q1⟩ := hq i x hx
      have hbr := kk.heap hb0 (fun e => e)
      have c0 : wr.cell? ⟨w.heap.size, 0, none⟩ = some (.string a) := by rw [Lib.cell_of_heap hbr]; rfl
      have c1 : wr.cell? ⟨w.heap.size, 1, none⟩ = some (.string b) := by rw [Lib.cell_of_heap hbr]; rfl
      have HT : Hid (l.take (i + 1) = l.take i ++ [x]) := by
        show _ = _
        rw [List.take_add_one, hx]; rfl
      obtain ⟨X1, hX1⟩ : ∃ X1 : ByteArray, X1 = ⟨x.1.toArray⟩ := ⟨_, rfl⟩
      obtain ⟨X2, hX2⟩ : ∃ X2 : ByteArray, X2 = ⟨x.2.toArray⟩ := ⟨_, rfl⟩
      have H1 : Hid (x = (X1.data.toList, X2.data.toList)) := by rw [hX1, hX2]; rfl
      have H3 : Hid (encL x = [.string X1, .string X2]) := by rw [hX1, hX2]; rfl
      rw [← hX1] at q0
      rw [← hX2] at q1
      clear hx hX1 hX2 hq hbr
      have z0' : (0 : Int) ≤ (i : Int) := by omega
      have z1' : (i : Int) < (l.length : Int) := by omega
      have HFe : Hid (x = (a.data.toList, b.data.toList) → lessA (l.take (i + 1)) (a.data.toList, b.data.toList) = lessA (l.take i) (a.data.toList, b.data.toList)) := fun e => by
        unfold lessA
        rw [HT.out, List.filter_append]
        simp [e]
      have HFn : Hid (x ≠ (a.data.toList, b.data.toList) → lessA (l.take (i + 1)) (a.data.toList, b.data.toList) = lessA (l.take i) (a.data.toList, b.data.toList) ++ [x]) := fun e => by
        unfold lessA
        rw [HT.out, List.filter_append]
        congr 1
        rw [List.filter_cons_of_pos (by simpa using e)]
        rfl
      obtain ⟨tl, htl⟩ : ∃ tl, tl = lessA (l.take i) (a.data.toList, b.data.toList) := ⟨_, rfl⟩
      rw [← htl] at HRow hfl HFe HFn
      clear htl
      by_cases hxe : X1 = a ∧ X2 = b
      · obtain ⟨rfl, rfl⟩ := hxe
        have hub : (X1.toList == X1.toList) = true := by rw [beq_bytes]; simp
        have hub2 : (X2.toList == X2.toList) = true := by rw [beq_bytes]; simp
        have HF : Hid (RowB wr w0.heap.size u5 (lessA (l.take (i + 1)) (X1.data.toList, X2.data.toList))) := by
          show RowB _ _ _ _
          rw [HFe.out H1.out]
          exact HRow.out
        go_wp2_with fail
        go_quiet (fail)
        have HF' : Hid (RowB (wr.drewN nq) w0.heap.size u5 (lessA (l.take (i + 1)) (X1.data.toList, X2.data.toList))) := ((Keeps.refl (fun _ => False) wr).drewN nq).owns HF.out (fun _ _ e => e)
        go_wp2_with fail
        go_roundw
        case rel => exact ⟨i + 1, by omega, by go_num, HF'.out, kk.drewN _⟩
        case measure => simp [intOf]; omega
      · have HF0 : Hid (lessA (l.take (i + 1)) (a.data.toList, b.data.toList) = tl ++ [x]) := HFn.out (fun e => by
          rw [H1.out] at e
          exact hxe ⟨ba_ext (congrArg (fun p : Ltr => p.1) e), ba_ext (congrArg (fun p : Ltr => p.2) e)⟩)
        have hcase : ((X1.toList == a.toList) = false) ∨ (a = X1 ∧ (X2.toList == b.toList) = false) := by
          by_cases hu : X1 = a
          · refine .inr ⟨hu.symm, beq_false (fun e => hxe ⟨hu, ba_ext e⟩)⟩
          · exact .inl (beq_false (fun e => hu (ba_ext e)))
        clear hxe
        rcases hcase with hub | ⟨rfl, hkb⟩
        · go_wp2_with fail
          go_quiet (fail)
          have kq : Fresh w0 (wr.drewN nq) := kk.drewN _
          have hrow : (wr.drewN nq).ownsRow w0.heap.size 27 2 u5 tl.length (tl.flatMap encL) := ((Keeps.refl (fun _ => False) wr).drewN nq).owns HRow.out (fun _ _ e => e)
          have q0q : (wr.drewN nq).cell? ⟨g, off + i * 2, none⟩ = some (.string X1) := q0
          have q1q : (wr.drewN nq).cell? ⟨g, off + i * 2 + 1, none⟩ = some (.string X2) := q1
          generalize wr.drewN nq = w3 at *
          have hw3 := kq.size
          clear q0 q1
          go_wp2_with (at_builtin; refine wpList_append_placed _ rfl _ _ 28 rfl w0.heap.size 27 i0 z0 2 32 Tryz.underlying28 hi hz0 hz1 hz2 hz3 (by decide) _ _ _ rfl (hrow.alloc _) ⟨w3.heap.size, 0, none⟩ 1 1 [.string X1, .string X2] rfl rfl ?c1 ?c2 ?c3 ?c4 ?c5 ?_)
          any_goals first | exact cells2_new _ _ _ _ | exact ⟨rfl, rfl⟩ | (intro u' hu'; simp at hu'; rcases hu' with rfl | rfl <;> rfl) | (unfold maxLen; omega) | omega | (simp; omega)
          intro v7 w7 ho7 hg7 hpl
          clear hpl
          have KF : Fresh w0 w7 := (kq.alloc _).grown hg7 (fun g' hg' hlt' => by have := (hrow.lt g' hg').1; omega)
          have HF : Hid (RowB w7 w0.heap.size v7 (lessA (l.take (i + 1)) (a.data.toList, b.data.toList))) := by
            show w7.ownsRow _ _ _ _ _ _
            rw [HF0.out, List.length_append, List.flatMap_append]
            have e2 : [x].flatMap encL = [.string X1, .string X2] := by rw [List.flatMap_cons, H3.out]; rfl
            rw [e2]
            exact ho7
          clear ho7 hg7 HRow
          go_wp2_with fail
          go_roundw
          case rel => exact ⟨i + 1, by omega, by go_num, HF.out, KF⟩
          case measure => simp [intOf]; omega
        · have hub : (a.toList == a.toList) = true := by rw [beq_bytes]; simp
          go_wp2_with fail
          go_quiet (fail)
          have kq : Fresh w0 (wr.drewN nq) := kk.drewN _
          have hrow : (wr.drewN nq).ownsRow w0.heap.size 27 2 u5 tl.length (tl.flatMap encL) := ((Keeps.refl (fun _ => False) wr).drewN nq).owns HRow.out (fun _ _ e => e)
          have q0q : (wr.drewN nq).cell? ⟨g, off + i * 2, none⟩ = some (.string a) := q0
          have q1q : (wr.drewN nq).cell? ⟨g, off + i * 2 + 1, none⟩ = some (.string X2) := q1
          generalize wr.drewN nq = w3 at *
          have hw3 := kq.size
          clear q0 q1
          go_wp2_with (at_builtin; refine wpList_append_placed _ rfl _ _ 28 rfl w0.heap.size 27 i0 z0 2 32 Tryz.underlying28 hi hz0 hz1 hz2 hz3 (by decide) _ _ _ rfl (hrow.alloc _) ⟨w3.heap.size, 0, none⟩ 1 1 [.string a, .string X2] rfl rfl ?d1 ?d2 ?d3 ?d4 ?d5 ?_)
          any_goals first | exact cells2_new _ _ _ _ | exact ⟨rfl, rfl⟩ | (intro u' hu'; simp at hu'; rcases hu' with rfl | rfl <;> rfl) | (unfold maxLen; omega) | omega | (simp; omega)
          intro v7 w7 ho7 hg7 hpl
          clear hpl
          have KF : Fresh w0 w7 := (kq.alloc _).grown hg7 (fun g' hg' hlt' => by have := (hrow.lt g' hg').1; omega)
          have HF : Hid (RowB w7 w0.heap.size v7 (lessA (l.take (i + 1)) (a.data.toList, b.data.toList))) := by
            show w7.ownsRow _ _ _ _ _ _
            rw [HF0.out, List.length_append, List.flatMap_append]
            have e2 : [x].flatMap encL = [.string a, .string X2] := by rw [List.flatMap_cons, H3.out]; rfl
            rw [e2]
            exact ho7
          clear ho7 hg7 HRow
          go_wp2_with fail
          go_roundw
          case rel => exact ⟨i + 1, by omega, by go_num, HF.out, KF⟩
          case measure => simp [intOf]; omega
    · have ei : i = l.length := by omega
      subst ei
      have z1' : ¬ (l.length : Int) < (l.length : Int) := by omega
      have eL : l.take l.length = l := List.take_length
      rw [eL] at HRow
      go_wp2_with fail
      go_ret
      have hfin : wr.ownsRow w0.heap.size 27 2 u5 _ _ := HRow.out
      exact ⟨_, rfl, owns_base hfin (fun k hk => by have := (hfin.lt k hk).1; omega), KK.out⟩

end Go.Proofs.YtegbkpjcjlihmabGreatDoor

namespace Go.Proofs.YtegbkpjcjlihmabGreatDoor
open Go.RowKit Go.Maps Go.Sort Go.Lib

set_option maxHeartbeats 2000000 in
set_option maxRecDepth 20000 in
theorem address_law (a b : ByteArray) (w : World) : Calls Tryz.prog 63 #[.agg #[.string a, .string b]] w fun e w' => e = .returned (.agg #[.string a, .string b]) ∧ Fresh w w' := by
  have f1 : Fresh w ((w.alloc (.cells #[.string a, .string b] 27)).alloc (.cells #[.string ⟨#[]⟩, .string ⟨#[]⟩] 56)) := ((Keeps.refl _ _).alloc _).alloc _
  obtain ⟨h1, h2⟩ := heap2 w (.cells #[.string a, .string b] 27) (.cells #[.string ⟨#[]⟩, .string ⟨#[]⟩] 56)
  go_enter Tryz.func63, Tryz.ntmps63
  go_upto_region 1 with fail
  generalize (w.alloc (.cells #[.string a, .string b] 27)).alloc (.cells #[.string ⟨#[]⟩, .string ⟨#[]⟩] 56) = w2 at *
  obtain ⟨q0, q1, _, _⟩ := cells2 h1
  obtain ⟨r0, r1, f0, f2⟩ := cells2 h2
  have ks : Fresh w ((w2.setCell ⟨w.heap.size + 1, 0, none⟩ (.string a)).setCell ⟨w.heap.size + 1, 1, none⟩ (.string b)) :=
    f1.then (((Keeps.refl (fun k => k = w.heap.size + 1) w2).setCell (p := ⟨w.heap.size + 1, 0, none⟩) (fun _ => rfl) _).setCell (p := ⟨w.heap.size + 1, 1, none⟩) (fun _ => rfl) _) (fun i hi e => by omega)
  have q2 : ((w2.setCell ⟨w.heap.size + 1, 0, none⟩ (.string a)).setCell ⟨w.heap.size + 1, 1, none⟩ (.string b)).cell? ⟨w.heap.size + 1, 0, none⟩ = some (.string a) := by go_simp
  have q3 : ((w2.setCell ⟨w.heap.size + 1, 0, none⟩ (.string a)).setCell ⟨w.heap.size + 1, 1, none⟩ (.string b)).cell? ⟨w.heap.size + 1, 1, none⟩ = some (.string b) := by go_simp
  have KS : Hid (Fresh w ((w2.setCell ⟨w.heap.size + 1, 0, none⟩ (.string a)).setCell ⟨w.heap.size + 1, 1, none⟩ (.string b))) := ks
  clear ks
  go_wp2_with fail
  refine bodyPost_ret (v := .agg #[.string a, .string b]) (by simp [results, Tryz.results63, go_sem, q2, q3]) rfl ?_
  exact ⟨rfl, KS.out⟩

/-- a mail of the reference, as a value -/
def mailV (fa fb : ByteArray) (tv : Value) (dd : ByteArray) : Value := .agg #[.string fa, .string fb, tv, .string dd]

end Go.Proofs.YtegbkpjcjlihmabGreatDoor

namespace Go.Proofs.YtegbkpjcjlihmabGreatDoor
open Go.RowKit Go.Maps Go.ChangeMaps Go.WideMaps Go.Sort Go.Shelf
attribute [local go_sem] Oper.semAt_some

set_option maxRecDepth 100000 in
set_option maxHeartbeats 1000000 in
theorem keysA_nil (Bm n : Nat) (w : World) (hBm : Bm < w.heap.size) (hm : w.cell? ⟨Bm, 0, none⟩ = some (.map none)) :
    SeqCell Tryz.prog n 140 #[.pointer (some ⟨Bm, 0, none⟩)] (fun x : AddrK => addrV x.1) (fun ss => ss = []) (fun pre => pre.length < 0) (fun _ => False) KeepsWalks w := by
  intro l J W hW hJ _ hY h0
  have hm' : W.cell? ⟨Bm, 0, none⟩ = some (.map none) := (hW.cell (p := ⟨Bm, 0, none⟩) hBm).trans hm
  clear hm hY
  have hrg := run_range_nilMap (P := Tryz.prog) W 134 56 3 Tryz.underlying134
  have hnx : ∀ ty, (Instr.next (.pointer (some ⟨W.heap.size, 0, none⟩)) false ty).run Tryz.prog (W.alloc (.mapIter none 0 #[] 0)) = _ := fun ty => run_next_nilMap _ ty 0 0 #[]
  refine callsIn_of_wp Tryz.func140 rfl trivial ?_ rfl
  simp only [Tryz.ntmps140, List.size_toArray, List.length_cons, List.length_nil, Nat.reduceAdd, Nat.reduceSub, Array.replicate_succ, Array.replicate_zero, List.push_toArray, List.append_toArray, List.nil_append, List.cons_append]
  gi_wp2
  refine wpIn_loop_rounds 1 ?_
  rw [roundsIn_succ]
  gi_wp2
  go_end0
  exact ⟨⟨_, rfl⟩, [], rfl, hJ [] W _ none h0 (World.grownBy_alloc W _ none) (fun r e => by cases e)⟩

set_option maxRecDepth 100000 in
set_option maxHeartbeats 2000000 in
theorem appendSeqA_of (w : World) (Bm N : Nat) (Q : List AddrK → Prop) (hN : N ≤ 1099511627776) (hseq : SeqCell Tryz.prog 4 140 #[.pointer (some ⟨Bm, 0, none⟩)] (fun x : AddrK => addrV x.1) Q (fun pre => pre.length < N) (fun _ => False) KeepsWalks (w.alloc (.cells #[.slice none 0 0] 57))) :
    Calls Tryz.prog 177 #[.slice none 0 0, .func (.func 140) #[] #[.pointer (some ⟨Bm, 0, none⟩)]] w fun e w' => ∃ (v : Value) (ss : List AddrK), e = .returned v ∧ Q ss ∧ ss.length ≤ N ∧ RowA w' w.heap.size v (valsOf ss) ∧ Below w.heap.size w w' := by
  refine (callsIn_wide (n := 5)).1 ?_
  obtain ⟨i0, z0, hi, hz0, hz3, hz1, hz2⟩ := info56'
  have bO := _root_.Go.Boxed.new w 57 (.slice none 0 0)
  have hB0 : Below w.heap.size w (w.alloc (.cells #[.slice none 0 0] 57)) := (Below.refl _ w).alloc (Nat.le_refl _) _
  refine callsIn_of_wp_marks Tryz.func177 rfl trivial ?_ rfl
  simp only [Tryz.ntmps177, List.size_toArray, List.length_cons, List.length_nil, Nat.reduceAdd, Nat.reduceSub, Array.replicate_succ, Array.replicate_zero, List.push_toArray, List.append_toArray, List.nil_append, List.cons_append]
  gi_wp2
  generalize hW0 : w.alloc (.cells #[.slice none 0 0] 57) = W0 at *
  have hsz : W0.heap.size = w.heap.size + 1 := by rw [← hW0]; simp
  refine rangeFunc_cell (n := 5) (by omega) (gf := 140) (lb := #[.pointer (some ⟨Bm, 0, none⟩)]) rfl (enters_of Tryz.func140 (by kernel_rfl) rfl) hseq rfl walksK_t walksK_b (fun _ h => h.elim)
    (fun ss W => (∃ v, _root_.Go.Boxed W w.heap.size 57 v ∧ W.ownsRow w.heap.size 56 2 v (valsOf ss).length ((valsOf ss).flatMap encL) ∧ True) ∧ Below w.heap.size w W ∧ ss.length ≤ N)
    (OwnFrom.and (Own.from (holdsRow_own w.heap.size w.heap.size 57 56 2 (fun ss => (valsOf ss).length) (fun ss => (valsOf ss).flatMap encL) (fun _ _ => True)) _) (OwnFrom.and (ownFrom_below (Nat.le_refl _) (by omega)) (ownFrom_pure _ _)))
    (fun _ h => h.elim)
    ⟨⟨_, bO, World.ownsRow_nil _ _ _ _, trivial⟩, hB0, Nat.zero_le _⟩
    (fun x a' W => ∃ Bx, w.heap.size < Bx ∧ W.heap[Bx]? = some (.cells #[.string ⟨x.1.1.toArray⟩, .string ⟨x.1.2.toArray⟩] 56 (0, 0)) ∧ a' = { tmps := #[.slice none 0 0, .func (.func 140) #[] #[.pointer (some ⟨Bm, 0, none⟩)], .pointer (some ⟨w.heap.size, 0, none⟩), undef, .slice none 0 0, .pointer (some ⟨Bx, 0, none⟩), .func (.func 140) #[] #[.pointer (some ⟨Bm, 0, none⟩)], addrV x.1, undef, undef, undef, undef, undef], defers := [] })
    ?hAx ?assign ?body ?done
  case hAx =>
    rintro x a' W l o o' ⟨Bx, h1, h2, h3⟩ hl ho
    refine ⟨Bx, h1, ?_, h3⟩
    have hne : l ≠ Bx := fun e => by rw [e, h2] at ho; cases ho
    exact (World.putObj_heap_other (fun e => hne e.symm)).trans h2
  case assign =>
    rintro l pre ⟨⟨xa, xb⟩, hx⟩ W K ⟨⟨v, hv, hrow, _⟩, hB, hle⟩ hK
    unfold addrV at *
    gi_wp2
    exact hK _ _ ((KeepsOthers.alloc _ _).from _) (KeepsWalks.alloc _ _) ⟨⟨v, hv.alloc _, hrow.alloc _, trivial⟩, hB.alloc hB.size _, hle⟩ ⟨W.heap.size, hv.lt, heap_new _ _, rfl⟩
  case body =>
    rintro l pre ⟨⟨xa, xb⟩, hx⟩ a' W ⟨⟨v, hv, hrow, _⟩, hB, hle⟩ hlt ⟨Bx, hBx, hX, rfl⟩
    have hc := hv.cell
    obtain ⟨q0, q1, _, _⟩ := cells2 hX
    obtain ⟨n0, n1, _, _⟩ := cells2 (heap_new W (.cells #[.string ⟨xa.toArray⟩, .string ⟨xb.toArray⟩] 56))
    have hnews : ∀ j u, [Value.string ⟨xa.toArray⟩, Value.string ⟨xb.toArray⟩][j]? = some u → (W.alloc (.cells #[.string ⟨xa.toArray⟩, .string ⟨xb.toArray⟩] 56)).cell? ((⟨W.heap.size, 0, none⟩ : Addr).add j) = some u := fun j u hj => by
      match j, hj with
      | 0, hj => simp at hj; subst hj; exact n0
      | 1, hj => simp at hj; subst hj; exact n1
      | j + 2, hj => simp at hj
    have HVL : Hid ((valsOf pre).length = pre.length) := by show _ = _; simp [valsOf]
    have hvl : (valsOf pre).length ≤ pre.length := Nat.le_of_eq HVL.out
    have hlt' : pre.length < N := hlt
    have HX : Hid (valsOf (pre ++ [⟨(xa, xb), hx⟩]) = valsOf pre ++ [(xa, xb)]) := valsOf_snoc pre _
    unfold addrV at *
    clear n0 n1
    gi_wp2_with (gi_at_builtin; refine wpListIn_append_own _ rfl _ _ 57 rfl w.heap.size 56 i0 z0 2 32 Tryz.underlying57 hi hz0 hz1 hz2 hz3 (by decide) _ _ _ rfl (hrow.alloc _) ⟨W.heap.size, 0, none⟩ 1 1 [.string ⟨xa.toArray⟩, .string ⟨xb.toArray⟩] rfl rfl hnews (by simp [Value.oneCell']) (by unfold maxLen; omega) (by omega) (by have := hB.size; simp; omega) ?_; intro v' w1 hown' hgrow _; obtain ⟨g', cap', rfl⟩ := ownsRow_succ hown'; obtain ⟨hv1, hv2, hr2, hk2, hb2⟩ := hv.appended (by decide) hrow hB.size (Nat.le_refl _) hown' hgrow; have hc1 := hv1.cell; have hf1 := hv1.frozen)
    refine ⟨hk2.from _, ⟨hk2.size, fun k o hk hw => hk2.same k o hk (Obj.not_cells_of_walk hw)⟩, ⟨_, hv2, ?_⟩, hB.trans hb2, ?_⟩
    · rw [HX.out, rowA_snoc, List.length_append]
      exact hr2
    · rw [List.length_append]
      exact hlt'
  case done =>
    rintro D xs W hD hS ⟨⟨v, hv, hrow, _⟩, hB, hle⟩ hK
    have hc := hv.cell
    gi_wp2
    refine ⟨by simp, .inl ⟨_, _, rfl, run_takeDeferred hK, ?_⟩⟩
    exact ⟨_, results_tmp rfl _ _ _, v, xs, rfl, hS, hle, ownsRow_putObj hrow _ hK rfl, hB.trans (belowK_b (w := w) (Nat.le_refl _) W D _ _ (by omega) hK rfl rfl)⟩


set_option maxHeartbeats 2000000 in
set_option maxRecDepth 20000 in
theorem list_nil (w : World) : Calls Tryz.prog 89 #[.map none] w fun e w' => ∃ ao cap, e = .returned (.slice ao 0 cap) ∧ Fresh w w' := by
  have k1 : Fresh w (w.alloc (.cells #[.map none] 134)) := (Keeps.refl _ _).alloc _
  have k2 : Fresh w ((w.alloc (.cells #[.map none] 134)).alloc (.cells #[.map none] 134)) := k1.alloc _
  have c2 := cell1 (heap_new (w.alloc (.cells #[.map none] 134)) (.cells #[.map none] 134))
  have es : (w.alloc (.cells #[.map none] 134)).heap.size = w.heap.size + 1 := by simp
  rw [es] at c2
  have hk := keysA_any none (w.alloc (.cells #[.map none] 134))
  rw [es] at hk
  have hlt := cell_lt c2
  have HK : Hid (Fresh w ((w.alloc (.cells #[.map none] 134)).alloc (.cells #[.map none] 134))) := k2
  have happ := appendSeqA_of ((w.alloc (.cells #[.map none] 134)).alloc (.cells #[.map none] 134)) (w.heap.size + 1) 0 (fun ss => ss = []) (by omega) (keysA_nil (w.heap.size + 1) 4 _ (by simp) (cell_keeps ((Keeps.refl (fun _ => False) ((w.alloc (.cells #[.map none] 134)).alloc (.cells #[.map none] 134))).alloc (.cells #[.slice none 0 0] 57)) c2 (fun e => e)))
  have hcol : Calls Tryz.prog 138 #[.func (.func 140) #[] #[.pointer (some ⟨w.heap.size + 1, 0, none⟩)]] ((w.alloc (.cells #[.map none] 134)).alloc (.cells #[.map none] 134)) fun e w' => ∃ ao cap, e = .returned (.slice ao 0 cap) ∧ Below ((w.alloc (.cells #[.map none] 134)).alloc (.cells #[.map none] 134)).heap.size ((w.alloc (.cells #[.map none] 134)).alloc (.cells #[.map none] 134)) w' := by
    clear hk c2 k1 k2 HK
    generalize (w.alloc (.cells #[.map none] 134)).alloc (.cells #[.map none] 134) = W at *
    go_enter Tryz.func138, Tryz.ntmps138
    go_wp2_with fail
    refine happ.mono ?_
    rintro e w1 ⟨v, ss, rfl, rfl, h2, h3, h4⟩
    obtain ⟨ao, cap, rfl, _, _, _⟩ := own_form (show w1.ownsRow W.heap.size 56 2 v 0 [] from h3)
    go_wp2_with fail
    go_ret
    exact ⟨ao, cap, rfl, h4⟩
  have hsf : ∀ W, (∃ k, Calls Tryz.prog 138 #[.func (.func 140) #[] #[.pointer (some ⟨k, 0, none⟩)]] W fun e w' => ∃ ao cap, e = .returned (.slice ao 0 cap) ∧ Below W.heap.size W w') → True := fun _ _ => trivial
  clear happ hsf
  generalize hW : (w.alloc (.cells #[.map none] 134)).alloc (.cells #[.map none] 134) = W at *
  have hs : Calls Tryz.prog 120 #[.func (.func 140) #[] #[.pointer (some ⟨w.heap.size + 1, 0, none⟩)], .func (.func 122) #[] #[.pointer (some ⟨w.heap.size, 0, none⟩)]] W fun e w' => ∃ ao cap, e = .returned (.slice ao 0 cap) ∧ Fresh W w' := by
    clear hk c2 k1 k2 HK hW
    go_enter Tryz.func120, Tryz.ntmps120
    go_wp2_with fail
    refine hcol.mono ?_
    rintro e w1 ⟨ao, cap, rfl, h4⟩
    have k1 : Fresh W w1 := Keeps.ofBelow h4
    have hs := sortA_none ao cap (.func (.func 122) #[] #[.pointer (some ⟨w.heap.size, 0, none⟩)]) w1
    clear hcol h4
    go_wp2_with fail
    refine hs.mono ?_
    rintro e w2 ⟨rfl, rfl⟩
    clear hs
    go_wp2_with fail
    go_ret
    exact ⟨ao, cap, rfl, k1⟩
  clear hcol c2 k1 k2
  go_enter Tryz.func89, Tryz.ntmps89
  go_wp2_with fail
  refine hk.mono ?_
  rintro e w1 ⟨rfl, rfl⟩
  clear hk
  go_wp2_with fail
  refine hs.mono ?_
  rintro e w2 ⟨ao, cap, rfl, h4⟩
  clear hs
  have HF := HK.out.trans h4
  clear h4
  go_wp2_with fail
  go_ret
  exact ⟨ao, cap, rfl, HF⟩

end Go.Proofs.YtegbkpjcjlihmabGreatDoor

namespace Go.Proofs.YtegbkpjcjlihmabGreatDoor
open Go.RowKit Go.Maps Go.Sort Go.Lib Go.ChangeMaps Go.WideMaps

theorem read_len {K : List Text} {C L : Nat} {σ : Dk} (hf : Fits K C L σ) (s : Text) : ((σ.read s).getD []).length ≤ L := by
  unfold Dk.read
  cases h : σ.now s with
  | none => exact Nat.zero_le _
  | some x => exact (hf.sizes x (hf.nowIn s x h)).2

/-- how many are left -/
theorem LeftAt.count {w : World} {m n c : Nat} {M : Lefts} {ls : List Ltr} (h : LeftAt w m n c M) (ho : Ordered M ls) : c = ls.length := by
  obtain ⟨D, hown, rfl, hk⟩ := h
  obtain ⟨es, hD, hpw⟩ := hown.tidy law56
  obtain ⟨es', hD', hko⟩ := hown.keysOf
  obtain rfl : es = es' := by rw [hD] at hD'; simpa using hD'
  have hform : ∀ p ∈ es, ∃ q : AddrK, p.1 = keyA q.1 := fun p hp => by
    obtain ⟨v, hv⟩ := hko p hp
    obtain ⟨q, _, hq⟩ := keyA_inv hv
    exact ⟨q, hq⟩
  have hn1 : (es.map (·.1)).Nodup := List.pairwise_map.2 hpw
  have hn2 : (ls.map keyA).Nodup := by
    refine List.pairwise_map.2 (ho.nodup.imp_of_mem fun {p q} hp hq hne e => hne ?_)
    exact keyA_inj ((ho.mem p).1 hp).1 ((ho.mem q).1 hq).1 e
  have hmem : ∀ k, k ∈ es.map (·.1) ↔ k ∈ ls.map keyA := fun k => by
    constructor
    · intro hk1
      obtain ⟨p, hp, rfl⟩ := List.mem_map.1 hk1
      obtain ⟨q, hq⟩ := hform p hp
      refine List.mem_map.2 ⟨q.1, (ho.mem q.1).2 ⟨q.2, ?_⟩, hq.symm⟩
      rw [← (hk q.1 q.2).1, hD, has_eq, List.any_eq_true]
      exact ⟨p, hp, by rw [hq, same_keyA q.2 q.2]; simp⟩
    · intro hk1
      obtain ⟨p, hp, rfl⟩ := List.mem_map.1 hk1
      obtain ⟨h1, h2⟩ := (ho.mem p).1 hp
      rw [← (hk p h1).1, hD, has_eq, List.any_eq_true] at h2
      obtain ⟨q, hq, hs⟩ := h2
      obtain ⟨q', hq'⟩ := hform q hq
      rw [hq', same_keyA q'.2 h1] at hs
      exact List.mem_map.2 ⟨q, hq, by rw [hq', of_decide_eq_true hs]⟩
  have := ((List.perm_ext_iff_of_nodup hn1 hn2).2 hmem).length_eq
  rw [List.length_map, List.length_map] at this
  rw [hD]
  exact this

section
variable {w wr w' : World} {A : Nat → Prop} {d s : Nat} {L L' : Nat} {mw N : Nat} {P P' : Int → Lefts → Prop} {lv : Int} {b b' : Bool} {W : Waits} {σ : Dk} {K : List Text} {C : Nat}

theorem SpAt.keep {T : Nat → Prop} (h : SpAt w A d L s mw N P lv b W wr) (k : Keeps T wr w') (hT : ∀ i, T i → A i) : SpAt w A d L s mw N P lv b W w' := by
  refine ⟨k.heap h.sp (fun e => h.nS (hT _ e)), k.waitsAt h.wt (fun e => h.nM (hT _ e)), h.inj, fun n i hi => ?_, h.nS, h.nM, h.wS, h.wM, h.ne, h.ok, h.nW⟩
  obtain ⟨p1, p0, nn, c, M, p2, p3, p4, p5⟩ := h.lft n i hi
  exact ⟨p1, p0, nn, c, M, p2, k.leftAt p3 (fun e => p0 (hT _ e)), p4, p5⟩

theorem SpAt.monoP (h : SpAt w A d L s mw N P lv b W wr) (hP : ∀ n M, P n M → P' n M) : SpAt w A d L s mw N P' lv b W wr := by
  refine ⟨h.sp, h.wt, h.inj, fun n i hi => ?_, h.nS, h.nM, h.wS, h.wM, h.ne, h.ok, h.nW⟩
  obtain ⟨p1, p0, nn, c, M, p2, p3, p4, p5⟩ := h.lft n i hi
  exact ⟨p1, p0, nn, c, M, p2, p3, p4, hP _ _ p5⟩

set_option maxHeartbeats 2000000 in
set_option maxRecDepth 20000 in
theorem left5 (S : SpAt w A d L s mw N P lv b W wr) (hL : L ≤ 1099511627776) (id : Int) (hid : okI id) :
    Calls Tryz.prog 45 #[ptr s, .int .i64 id] wr fun e w' => ((W id = none ∧ ∃ ao cap, e = .returned (.slice ao 0 cap)) ∨ (∃ k M v ls, W id = some k ∧ P id M ∧ e = .returned v ∧ Ordered M ls ∧ RowA w' wr.heap.size v ls)) ∧ Fresh wr w' := by
  obtain ⟨_, _, c2, _, _, _, _, _⟩ := mcells S.sp
  cases hW : W id with
  | none =>
    have hg := (S.wt.get id hid).1 hW
    have hl := list_nil wr
    clear S
    unfold ptr at *
    go_enter Tryz.func45, Tryz.ntmps45
    go_wp2_with fail
    refine hl.mono ?_
    rintro e w1 ⟨ao, cap, rfl, k1⟩
    clear hl
    go_wp2_with fail
    go_ret
    exact ⟨.inl ⟨(by first | rfl | trivial), ao, cap, rfl⟩, k1⟩
  | some k =>
    have hg := (S.wt.get id hid).2 k hW
    obtain ⟨_, _, nn, c, M, p2, p3, p4, p5⟩ := S.lft id k hW
    have hl := list_any p4 wr k nn c p3 (by omega)
    have HP : Hid (P id M) := p5
    clear S p3 p4 p5
    unfold ptr at *
    go_enter Tryz.func45, Tryz.ntmps45
    go_wp2_with fail
    refine hl.mono ?_
    rintro e w1 ⟨v, ls, rfl, h1, h2, h3, k1⟩
    clear hl
    have HE : Hid (Ordered M ls ∧ RowA w1 wr.heap.size v ls) := ⟨h1, h3⟩
    clear h1 h3
    go_wp2_with fail
    go_ret
    exact ⟨.inr ⟨k, M, v, ls, rfl, HP.out, rfl, HE.out⟩, k1⟩

def mailNoBB : ByteArray := ⟨#[115, 112, 111, 111, 108, 47, 109, 97, 105, 108, 47]⟩

theorem mName_numB (id : Int) : (numB mailNoBB id).data.toList = mName id := rfl

theorem numB_size (id : Int) (hid : okI id) : (numB mailNoBB id).size ≤ maxLen := by
  have := Lib.itoa_length_le id hid.1 hid.2
  show (numName mailNoBB.data.toList id).length ≤ maxLen
  unfold numName maxLen
  rw [List.length_append]
  have : mailNoBB.data.toList.length = 11 := rfl
  omega

set_option maxHeartbeats 4000000 in
set_option maxRecDepth 100000 in
theorem mail5 (h : Live w wr A d K C L σ) (hG : Gl w) (S : SpAt w A d L' s mw N P lv b W wr) (h8 : 8 ≤ w.heap.size) (hL : L < 4294967281) (id : Int) (hid : okI id) :
    Calls Tryz.prog 43 #[ptr s, .int .i64 id] wr fun e w' => ((W id = none ∧ e = .returned (.tuple #[.agg #[.string ⟨#[]⟩, .string ⟨#[]⟩, .slice none 0 0, .string ⟨#[]⟩], .bool false])) ∨ ((W id).isSome = true ∧ ∃ (fa fb dd : ByteArray) (tv : Value) (l : List Ltr) (r : Text), e = .returned (.tuple #[mailV fa fb tv dd, .bool true]) ∧
      MailOf ((σ.read (mName id)).getD []) fa.data.toList fb.data.toList l dd.data.toList r ∧ w'.ownsRow wr.heap.size 56 2 tv l.length (l.flatMap encL))) ∧ Live w w' A d K C L σ ∧ Keeps A wr w' := by
  have f0 : Fresh wr (wr.alloc (.cells #[.string ⟨#[]⟩, .string ⟨#[]⟩, .slice none 0 0, .string ⟨#[]⟩] 59)) := (Keeps.refl _ _).alloc _
  have hr0 := heap_new wr (.cells #[.string ⟨#[]⟩, .string ⟨#[]⟩, .slice none 0 0, .string ⟨#[]⟩] 59)
  have S1 := S.fresh f0
  have h1 := h.fresh f0
  have hA : ∀ i, A i → i < wr.heap.size := fun i hi => (h.1 i hi).2
  have hww := h.2.2.2.size
  have hsl := S.lt
  have hrl := read_len h.2.2.1 (mName id)
  obtain ⟨c0, _, c2, _, _, _, _, _⟩ := mcells S1.sp
  have HF0 : Hid (Fresh wr (wr.alloc (.cells #[.string ⟨#[]⟩, .string ⟨#[]⟩, .slice none 0 0, .string ⟨#[]⟩] 59))) := f0
  have hnS := S.nS
  clear h S f0
  unfold ptr mailV at *
  cases hW : W id with
  | none =>
    have hg := (S1.wt.look id hid).1 hW
    have H1 : Hid (Live w (wr.alloc (.cells #[.string ⟨#[]⟩, .string ⟨#[]⟩, .slice none 0 0, .string ⟨#[]⟩] 59)) A d K C L σ) := h1
    clear S1 h1
    go_enter Tryz.func43, Tryz.ntmps43
    go_upto_region 1 with fail
    generalize wr.alloc (.cells #[.string ⟨#[]⟩, .string ⟨#[]⟩, .slice none 0 0, .string ⟨#[]⟩] 59) = w1 at *
    obtain ⟨o0, o1, o2, o3, l0, l1, l2, l3⟩ := mcells hr0
    have k9 : Fresh wr ((((w1.setCell ⟨wr.heap.size, 0, none⟩ (.string ⟨#[]⟩)).setCell ⟨wr.heap.size, 1, none⟩ (.string ⟨#[]⟩)).setCell ⟨wr.heap.size, 2, none⟩ (.slice none 0 0)).setCell ⟨wr.heap.size, 3, none⟩ (.string ⟨#[]⟩)) :=
      HF0.out.then (((((Keeps.refl (fun i => i = wr.heap.size) _).setCell (p := ⟨wr.heap.size, 0, none⟩) (fun _ => rfl) _).setCell (p := ⟨wr.heap.size, 1, none⟩) (fun _ => rfl) _).setCell (p := ⟨wr.heap.size, 2, none⟩) (fun _ => rfl) _).setCell (p := ⟨wr.heap.size, 3, none⟩) (fun _ => rfl) _) (fun i hi e => by omega)
    have k8 : Keeps (fun i => i = wr.heap.size) w1 ((((w1.setCell ⟨wr.heap.size, 0, none⟩ (.string ⟨#[]⟩)).setCell ⟨wr.heap.size, 1, none⟩ (.string ⟨#[]⟩)).setCell ⟨wr.heap.size, 2, none⟩ (.slice none 0 0)).setCell ⟨wr.heap.size, 3, none⟩ (.string ⟨#[]⟩)) :=
      ((((Keeps.refl (fun i => i = wr.heap.size) _).setCell (p := ⟨wr.heap.size, 0, none⟩) (fun _ => rfl) _).setCell (p := ⟨wr.heap.size, 1, none⟩) (fun _ => rfl) _).setCell (p := ⟨wr.heap.size, 2, none⟩) (fun _ => rfl) _).setCell (p := ⟨wr.heap.size, 3, none⟩) (fun _ => rfl) _
    have HE : Hid _ := And.intro (H1.out.side k8 (fun i hi e => by have := hA i hi; omega) (fun i e => by omega)) (k9.ofFresh (S := A))
    clear k8 k9 H1
    have u0 : ((((w1.setCell ⟨wr.heap.size, 0, none⟩ (.string ⟨#[]⟩)).setCell ⟨wr.heap.size, 1, none⟩ (.string ⟨#[]⟩)).setCell ⟨wr.heap.size, 2, none⟩ (.slice none 0 0)).setCell ⟨wr.heap.size, 3, none⟩ (.string ⟨#[]⟩)).cell? ⟨wr.heap.size, 0, none⟩ = some (.string ⟨#[]⟩) := by go_simp
    have u1 : ((((w1.setCell ⟨wr.heap.size, 0, none⟩ (.string ⟨#[]⟩)).setCell ⟨wr.heap.size, 1, none⟩ (.string ⟨#[]⟩)).setCell ⟨wr.heap.size, 2, none⟩ (.slice none 0 0)).setCell ⟨wr.heap.size, 3, none⟩ (.string ⟨#[]⟩)).cell? ⟨wr.heap.size, 1, none⟩ = some (.string ⟨#[]⟩) := by go_simp
    have u2 : ((((w1.setCell ⟨wr.heap.size, 0, none⟩ (.string ⟨#[]⟩)).setCell ⟨wr.heap.size, 1, none⟩ (.string ⟨#[]⟩)).setCell ⟨wr.heap.size, 2, none⟩ (.slice none 0 0)).setCell ⟨wr.heap.size, 3, none⟩ (.string ⟨#[]⟩)).cell? ⟨wr.heap.size, 2, none⟩ = some (.slice none 0 0) := by go_simp
    have u3 : ((((w1.setCell ⟨wr.heap.size, 0, none⟩ (.string ⟨#[]⟩)).setCell ⟨wr.heap.size, 1, none⟩ (.string ⟨#[]⟩)).setCell ⟨wr.heap.size, 2, none⟩ (.slice none 0 0)).setCell ⟨wr.heap.size, 3, none⟩ (.string ⟨#[]⟩)).cell? ⟨wr.heap.size, 3, none⟩ = some (.string ⟨#[]⟩) := by go_simp
    go_wp2_with fail
    refine bodyPost_ret (v := .tuple #[.agg #[.string ⟨#[]⟩, .string ⟨#[]⟩, .slice none 0 0, .string ⟨#[]⟩], .bool false]) (by simp [results, Tryz.results43, go_sem, u0, u1, u2, u3]) rfl ?_
    exact ⟨.inl ⟨(by first | rfl | trivial), rfl⟩, HE.out.1, HE.out.2⟩
  | some m =>
    have hg := (S1.wt.look id hid).2 m hW
    have HG1 : Hid (∀ W1, Keeps A (wr.alloc (.cells #[.string ⟨#[]⟩, .string ⟨#[]⟩, .slice none 0 0, .string ⟨#[]⟩] 59)) W1 → W1.cell? ⟨s, 0, none⟩ = some (.pointer (some ⟨d, 0, none⟩))) := fun W1 k => cell_keeps k c0 hnS
    have H1 : Hid (Live w (wr.alloc (.cells #[.string ⟨#[]⟩, .string ⟨#[]⟩, .slice none 0 0, .string ⟨#[]⟩] 59)) A d K C L σ) := h1
    have hnum := numbered_any mailNoBB id (wr.alloc (.cells #[.string ⟨#[]⟩, .string ⟨#[]⟩, .slice none 0 0, .string ⟨#[]⟩] 59)).drew (hG.fresh (H1.out.2.2.2.trans ((Keeps.refl _ _).drew))) (by decide) hid.1 hid.2
    obtain ⟨NB, hNB⟩ : ∃ NB, NB = numB mailNoBB id := ⟨_, rfl⟩
    have hNs : NB.size ≤ maxLen := by rw [hNB]; exact numB_size id hid
    have HN : Hid (NB.data.toList = mName id) := by rw [hNB]; exact mName_numB id
    rw [← hNB] at hnum
    clear S1 h1 hNB
    go_enter Tryz.func43, Tryz.ntmps43
    go_upto_region 4 with fail
    generalize wr.alloc (.cells #[.string ⟨#[]⟩, .string ⟨#[]⟩, .slice none 0 0, .string ⟨#[]⟩] 59) = w1 at *
    unfold mailNoBB at hnum
    go_region_held3 (fun W1 => W1.cell? ⟨s, 0, none⟩ = some (.pointer (some ⟨d, 0, none⟩))) (first | exact c0 | exact HG1.out _ kA | exact HG1.out _ kB) (first | (go_at_call 61; refine hnum.mono ?_; rintro e w2 ⟨rfl, k2⟩; have kA : Keeps A w1 w2 := (((Keeps.refl (fun _ => False) w1).drew).trans k2).ofFresh; have H2 : Hid (Live w w2 A d K C L σ) := H1.out.fresh (((Keeps.refl (fun _ => False) w1).drew).trans k2); have hrd := H2.out.read NB hNs; unfold ptr at hrd) | (go_at_call 15; refine hrd.mono ?_; rintro e w3 ⟨rfl, h3, k3, -⟩; have kB : Keeps A w1 w3 := kA.trans k3))
    obtain ⟨bt, hbt⟩ : ∃ bt : ByteArray, bt = ⟨((σ.read NB.data.toList).getD []).toArray⟩ := ⟨_, rfl⟩
    have HBT : Hid (bt.data.toList = (σ.read (mName id)).getD []) := by
      show _ = _
      rw [hbt, ← HN.out]
    have hbs : bt.size < 4294967281 := by
      have e1 : bt.size = bt.data.toList.length := rfl
      have e2 := HBT.out
      rw [e1, e2]
      omega
    have H3 : Hid (Live w w3 A d K C L σ) := h3
    have hkB := kB.size
    have hw1 := HF0.out.size
    have hr3 := kB.heap hr0 (fun e => by have := hA _ e; omega)
    have k4 : Fresh w3 (w3.alloc (.cells #[.string bt] 160)) := (Keeps.refl _ _).alloc _
    have hmail := mail_any w3.heap.size bt (w3.alloc (.cells #[.string bt] 160)) (hG.fresh (h3.2.2.2.trans k4)) (heap_new _ _) hbs (by omega)
    have HKB : Hid (Keeps A wr w3) := (HF0.out.ofFresh (S := A)).trans kB
    have hr4 := k4.heap hr3 (fun e => e)
    have hrlt := heap_lt hr3
    rw [← hbt]
    clear h3 k3 kB kA k2 hrd hnum hr0 hr3 hbt
    unfold ptr at hmail
    go_wp2_with fail
    refine hmail.mono ?_
    rintro e w5 ⟨a, bb, dd, r, tv, l, t1, t2, t3, rfl, m1, m2, m3, m4, hrow, hp, k5⟩
    have HML : Hid (MailOf bt.data.toList a.data.toList bb.data.toList l dd.data.toList r.data.toList) := ⟨t1, t2, t3, m1, m2, m3, m4⟩
    have hr5 := k5.heap hr4 (fun e => by omega)
    obtain ⟨ta, tc, rfl, _, _, _⟩ := own_form hrow
    obtain ⟨o0, o1, o2, o3, l0, l1, l2, l3⟩ := mcells hr5
    have kall : Keeps (fun i => i = wr.heap.size) w5 ((((w5.setCell ⟨wr.heap.size, 0, none⟩ (.string a)).setCell ⟨wr.heap.size, 1, none⟩ (.string bb)).setCell ⟨wr.heap.size, 2, none⟩ (.slice ta l.length tc)).setCell ⟨wr.heap.size, 3, none⟩ (.string dd)) := ((((Keeps.refl (fun i => i = wr.heap.size) _).setCell (p := ⟨wr.heap.size, 0, none⟩) (fun _ => rfl) _).setCell (p := ⟨wr.heap.size, 1, none⟩) (fun _ => rfl) _).setCell (p := ⟨wr.heap.size, 2, none⟩) (fun _ => rfl) _).setCell (p := ⟨wr.heap.size, 3, none⟩) (fun _ => rfl) _
    have k35 : Keeps (fun i => i = w3.heap.size) w3 w5 := k4.ofFresh.trans k5
    have HE : Hid (((((w5.setCell ⟨wr.heap.size, 0, none⟩ (.string a)).setCell ⟨wr.heap.size, 1, none⟩ (.string bb)).setCell ⟨wr.heap.size, 2, none⟩ (.slice ta l.length tc)).setCell ⟨wr.heap.size, 3, none⟩ (.string dd)).ownsRow wr.heap.size 56 2 (.slice ta l.length tc) l.length (l.flatMap encL) ∧ Live w ((((w5.setCell ⟨wr.heap.size, 0, none⟩ (.string a)).setCell ⟨wr.heap.size, 1, none⟩ (.string bb)).setCell ⟨wr.heap.size, 2, none⟩ (.slice ta l.length tc)).setCell ⟨wr.heap.size, 3, none⟩ (.string dd)) A d K C L σ ∧ Keeps A wr ((((w5.setCell ⟨wr.heap.size, 0, none⟩ (.string a)).setCell ⟨wr.heap.size, 1, none⟩ (.string bb)).setCell ⟨wr.heap.size, 2, none⟩ (.slice ta l.length tc)).setCell ⟨wr.heap.size, 3, none⟩ (.string dd))) := by
      refine ⟨owns_base (kall.owns hrow (fun j hj e => by have := (hrow.lt j hj).1; simp at this; omega)) (fun k hk => by have := (hrow.lt k hk).1; simp at this; omega), (H3.out.side k35 (fun i hi e => by have := hA i hi; omega) (fun i e => by omega)).side kall (fun i hi e => by have := hA i hi; omega) (fun i e => by omega), (HKB.out.then k35 (fun i hi e => by omega)).then kall (fun i hi e => by omega)⟩
    clear kall k35 hrow hp k5 hr5 hr4 k4 hmail m1 m2 m3 m4
    have u0 : ((((w5.setCell ⟨wr.heap.size, 0, none⟩ (.string a)).setCell ⟨wr.heap.size, 1, none⟩ (.string bb)).setCell ⟨wr.heap.size, 2, none⟩ (.slice ta l.length tc)).setCell ⟨wr.heap.size, 3, none⟩ (.string dd)).cell? ⟨wr.heap.size, 0, none⟩ = some (.string a) := by go_simp
    have u1 : ((((w5.setCell ⟨wr.heap.size, 0, none⟩ (.string a)).setCell ⟨wr.heap.size, 1, none⟩ (.string bb)).setCell ⟨wr.heap.size, 2, none⟩ (.slice ta l.length tc)).setCell ⟨wr.heap.size, 3, none⟩ (.string dd)).cell? ⟨wr.heap.size, 1, none⟩ = some (.string bb) := by go_simp
    have u2 : ((((w5.setCell ⟨wr.heap.size, 0, none⟩ (.string a)).setCell ⟨wr.heap.size, 1, none⟩ (.string bb)).setCell ⟨wr.heap.size, 2, none⟩ (.slice ta l.length tc)).setCell ⟨wr.heap.size, 3, none⟩ (.string dd)).cell? ⟨wr.heap.size, 2, none⟩ = some (.slice ta l.length tc) := by go_simp
    have u3 : ((((w5.setCell ⟨wr.heap.size, 0, none⟩ (.string a)).setCell ⟨wr.heap.size, 1, none⟩ (.string bb)).setCell ⟨wr.heap.size, 2, none⟩ (.slice ta l.length tc)).setCell ⟨wr.heap.size, 3, none⟩ (.string dd)).cell? ⟨wr.heap.size, 3, none⟩ = some (.string dd) := by go_simp
    go_wp2_with fail
    refine bodyPost_ret (v := .tuple #[.agg #[.string a, .string bb, .slice ta l.length tc, .string dd], .bool true]) (by simp [results, Tryz.results43, go_sem, u0, u1, u2, u3]) rfl ?_
    refine ⟨.inr ⟨rfl, a, bb, dd, _, l, r.data.toList, rfl, ?_, HE.out.1⟩, HE.out.2.1, HE.out.2.2⟩
    rw [← HBT.out]
    exact HML.out

end
end Go.Proofs.YtegbkpjcjlihmabGreatDoor

namespace Go.Proofs.YtegbkpjcjlihmabGreatDoor
open Go.RowKit Go.Maps

/-- how much there is to a mail -/
def toW (l : List Ltr) : Nat := (l.map (fun p => p.1.length + p.2.length + 1)).sum
def mlW (m : Ml) : Nat := m.1.length + m.2.1.length + m.2.2.2.length + toW m.2.2.1

theorem toW_cons (p : Ltr) (l : List Ltr) : toW (p :: l) = p.1.length + p.2.length + 1 + toW l := by simp [toW]
theorem toW_len : ∀ l : List Ltr, l.length ≤ toW l
  | [] => Nat.zero_le _
  | p :: l => by rw [toW_cons, List.length_cons]; have := toW_len l; omega
theorem toW_mem : ∀ {l : List Ltr} {p : Ltr}, p ∈ l → p.1.length + p.2.length + 1 ≤ toW l
  | q :: l, p, h => by
    rw [toW_cons]
    rcases List.mem_cons.1 h with rfl | h
    · omega
    · have := toW_mem h; omega

theorem toT_len {l : List Ltr} (h : toW l ≤ 1048576) : (wt (l.flatMap twoOf)).length ≤ 44 * toW l := by
  have h1 : ∀ l : List Ltr, ((l.flatMap twoOf).map (fun x => x.length + 22)).sum ≤ 44 * toW l := fun l => by
    induction l with
    | nil => simp [toW]
    | cons p l ih =>
      rw [toW_cons, List.flatMap_cons, List.map_append, List.sum_append]
      simp only [twoOf, List.map_cons, List.map_nil, List.sum_cons, List.sum_nil]
      omega
  refine Nat.le_trans (wt_len _ (fun x hx => ?_)) (h1 l)
  obtain ⟨p, hp, hx⟩ := List.mem_flatMap.1 hx
  have := toW_mem hp
  simp [twoOf] at hx
  rcases hx with rfl | rfl <;> omega

theorem mlT_len {m : Ml} (h : mlW m ≤ 1048576) : (mlText m).length ≤ 44 * mlW m + 88 := by
  have ht : toW m.2.2.1 ≤ 1048576 := by unfold mlW at h; omega
  have h1 := toT_len ht
  unfold mlText mailText
  have := wt_len [m.1, m.2.1, wt (m.2.2.1.flatMap twoOf), m.2.2.2] (fun x hx => by
    unfold mlW at h
    simp only [List.mem_cons, List.mem_nil_iff, or_false] at hx
    rcases hx with rfl | rfl | rfl | rfl <;> omega)
  simp only [List.map_cons, List.map_nil, List.sum_cons, List.sum_nil] at this
  unfold mlW at *
  omega

theorem mlT_to (m : Ml) : (mlTo m).length ≤ (mlText m).length := by
  have h1 : ∀ xs : List Text, xs.length ≤ (wt xs).length := fun xs => by
    induction xs with
    | nil => exact Nat.zero_le _
    | cons x xs ih => rw [wt_cons]; simp only [List.length_append, List.length_cons]; omega
  have h2 : (mlTo m).length ≤ (m.2.2.1.flatMap twoOf).length := by
    show m.2.2.1.length ≤ _
    induction m.2.2.1 with
    | nil => exact Nat.zero_le _
    | cons p l ih => rw [List.flatMap_cons]; simp [twoOf] at ih ⊢; omega
  have h3 := h1 (m.2.2.1.flatMap twoOf)
  unfold mlText mailText
  rw [wt_cons, wt_cons, wt_cons]
  simp only [List.length_append, List.length_cons]
  omega

theorem mlOk_of {m : Ml} (h : mlW m ≤ 1048576) : MlOk m := by
  have ht : toW m.2.2.1 ≤ 1048576 := by unfold mlW at h; omega
  have h1 := toT_len ht
  have h2 := toW_len m.2.2.1
  unfold mlW at h
  exact ⟨by omega, by omega, by omega, fun p hp => by have := toW_mem hp; omega, by omega, by omega⟩

/-- which maps belong to mails -/
def Pm (l : List Wg) (n : Int) (M : Lefts) : Prop := ∃ g ∈ l, g.1 = n ∧ M = leftM (mlTo g.2.1) g.2.2
def Dom (l : List Wg) (W : Waits) : Prop := ∀ n, (W n).isSome = true ↔ n ∈ ids l

section
variable {l : List Wg} {lv : Int} {g : Wg} {p : Ltr} {W : Waits}

theorem ids_gone (id : Int) (n : Int) : n ∈ ids (gone l id p) ↔ ∃ g ∈ l, (gone1 id p g).2.2 ≠ [] ∧ g.1 = n := by
  unfold ids
  rw [List.mem_map]
  constructor
  · rintro ⟨v, hv, rfl⟩
    obtain ⟨h1, g, hg, rfl⟩ := mem_gone.1 hv
    exact ⟨g, hg, h1, (gone1_id id p g).1.symm⟩
  · rintro ⟨g, hg, h1, rfl⟩
    exact ⟨_, mem_gone.2 ⟨h1, g, hg, rfl⟩, (gone1_id id p g).1⟩

theorem Pm.other (hW : Wgs l lv) {n id : Int} {M : Lefts} (hne : n ≠ id) (h : Pm l n M) : Pm (gone l id p) n M := by
  obtain ⟨g, hg, rfl, rfl⟩ := h
  exact ⟨g, mem_gone.2 ⟨(hW.mem g hg).2.2.2.1, g, hg, (gone1_other hne).symm⟩, rfl, rfl⟩

theorem Pm.mark (hW : Wgs l lv) (hg : g ∈ l) (h1 : g.2.2 ≠ [p]) : Pm (gone l g.1 p) g.1 (delA (leftM (mlTo g.2.1) g.2.2) p) := by
  obtain ⟨_, _, _, h4, h5⟩ := hW.mem g hg
  have e : gone1 g.1 p g = (g.1, g.2.1, g.2.2.filter (fun q => decide (q ≠ p))) := if_pos rfl
  refine ⟨gone1 g.1 p g, mem_gone.2 ⟨?_, g, hg, rfl⟩, (gone1_id _ _ _).1, ?_⟩
  · rw [e]
    exact left_more (h5.nodup (once_nd _)) h4 h1
  · rw [leftM_del, e]

theorem Dom.mark (hW : Wgs l lv) (hD : Dom l W) (hg : g ∈ l) (h1 : g.2.2 ≠ [p]) : Dom (gone l g.1 p) W := fun n => by
  rw [hD n, ids_gone]
  unfold ids
  rw [List.mem_map]
  constructor
  · rintro ⟨v, hv, rfl⟩
    refine ⟨v, hv, ?_, rfl⟩
    by_cases e : v.1 = g.1
    · obtain rfl := ids_inj hW.up hv hg e
      obtain ⟨_, _, _, h4, h5⟩ := hW.mem v hv
      rw [show gone1 v.1 p v = (v.1, v.2.1, v.2.2.filter (fun q => decide (q ≠ p))) from if_pos rfl]
      exact left_more (h5.nodup (once_nd _)) h4 h1
    · rw [gone1_other e]
      exact (hW.mem v hv).2.2.2.1
  · rintro ⟨v, hv, _, rfl⟩
    exact ⟨v, hv, rfl⟩

theorem Dom.drop (hW : Wgs l lv) (hD : Dom l W) (hg : g ∈ l) (h1 : g.2.2 = [p]) : Dom (gone l g.1 p) (delW W g.1) := fun n => by
  rw [ids_gone]
  unfold delW
  by_cases e : n = g.1
  · rw [if_pos e]
    refine ⟨(fun h => by cases h), ?_⟩
    rintro ⟨v, hv, h2, e2⟩
    exfalso
    obtain rfl := ids_inj hW.up hv hg (e2.trans e)
    apply h2
    rw [show gone1 v.1 p v = (v.1, v.2.1, v.2.2.filter (fun q => decide (q ≠ p))) from if_pos rfl]
    show v.2.2.filter _ = []
    rw [h1]
    simp
  · rw [if_neg e, hD n]
    unfold ids
    rw [List.mem_map]
    constructor
    · rintro ⟨v, hv, rfl⟩
      exact ⟨v, hv, by rw [gone1_other e]; exact (hW.mem v hv).2.2.2.1, rfl⟩
    · rintro ⟨v, hv, _, rfl⟩
      exact ⟨v, hv, rfl⟩

/-- lists that rise and hold the same are the same -/
theorem up_unique {a b : List Int} (ha : a.Pairwise (· < ·)) (hb : b.Pairwise (· < ·)) (h : ∀ n, n ∈ a ↔ n ∈ b) : a = b :=
  List.Perm.eq_of_pairwise (le := fun x y => x < y) (fun x y _ _ h1 h2 => by omega) ha hb
    ((List.perm_ext_iff_of_nodup (ha.imp (fun h e => by omega)) (hb.imp (fun h e => by omega))).2 h)

end

/-! names -/

def otherT : Text := [111, 116, 104, 101, 114]
def spoolT : Text := [115, 112, 111, 111, 108]
def B5 : List Text := [newT, otherT, spoolT]
def K5 (t : Nat) : List Text := KK B5 t

theorem not_nm {s : Text} (h1 : ∀ r, s ≠ lastT ++ r) (h2 : ∀ r, s ≠ mailT ++ r) : ¬ Nm s := fun h => by
  rcases h with h | h
  · rw [numberOf_not h1] at h; cases h
  · unfold MlN at h; rw [numberOf_not h2] at h; cases h
theorem other_nm : ¬ Nm otherT := not_nm (fun r e => by simp [otherT, lastT] at e) (fun r e => by simp [otherT, mailT] at e)
theorem spool_nm : ¬ Nm spoolT := not_nm (fun r e => by simp [spoolT, lastT] at e) (fun r e => by simp [spoolT, mailT] at e)

theorem K5_len (t : Nat) : (K5 t).length = 3 + 2 * (t + 1) := KK_len B5 t
theorem K5_sub {t : Nat} {s : Text} (h : s ∈ K5 t) : s ∈ K5 (t + 1) := KK_sub h
theorem K5_new (t : Nat) : newT ∈ K5 t := mem_KK.2 (.inl (by simp [B5]))
theorem K5_other (t : Nat) : otherT ∈ K5 t := mem_KK.2 (.inl (by simp [B5]))
theorem K5_spool (t : Nat) : spoolT ∈ K5 t := mem_KK.2 (.inl (by simp [B5]))
theorem K5_l {t : Nat} {n : Int} (h0 : 0 ≤ n) (h1 : n ≤ t) : lName n ∈ K5 t := mem_KK.2 (.inr ⟨n.toNat, by omega, .inl (by rw [Int.toNat_of_nonneg h0])⟩)
theorem K5_m {t : Nat} {n : Int} (h0 : 0 ≤ n) (h1 : n ≤ t) : mName n ∈ K5 t := mem_KK.2 (.inr ⟨n.toNat, by omega, .inr (by rw [Int.toNat_of_nonneg h0])⟩)
theorem K5_size {t : Nat} (ht : t ≤ 1000000) : ∀ s ∈ K5 t, s.length ≤ 1099511627776 := fun s hs => by
  rcases mem_KK.1 hs with hs | ⟨i, hi, rfl | rfl⟩
  · simp [B5] at hs
    rcases hs with rfl | rfl | rfl <;> decide
  · have := Lib.itoa_length_le (i : Int) (by omega) (by omega)
    simp [lName, numName, lastT]; omega
  · have := Lib.itoa_length_le (i : Int) (by omega) (by omega)
    simp [mName, numName, mailT]; omega

end Go.Proofs.YtegbkpjcjlihmabGreatDoor
