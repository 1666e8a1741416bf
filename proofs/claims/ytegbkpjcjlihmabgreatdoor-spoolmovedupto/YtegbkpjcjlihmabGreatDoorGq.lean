/-
  The reference of letters: Of, Users. | Writes as data, and what they leave of letters: plain. | What must be in the boxes, and what may be: plain.
-/
import Derived.Test.YtegbkpjcjlihmabGreatDoorRfb
import Derived.Test.YtegbkpjcjlihmabGreatDoorGi
import Derived.Test.YtegbkpjcjlihmabGreatDoorGh
import Derived.Test.YtegbkpjcjlihmabGreatDoorGj
namespace Go.Proofs.YtegbkpjcjlihmabGreatDoor
open Go.RowKit Go.Maps Go.Sort Go.Lib

set_option maxHeartbeats 4000000 in
set_option maxRecDepth 100000 in
theorem of_ref (ao : Option Addr) (cap : Nat) (l : List Lt3) (u : ByteArray) (w : World) (hn : l.length ≤ 1099511627) (hr : Rd3 w ao l) :
    Calls Tryz.prog 77 #[.slice ao l.length cap, .string u] w fun e w' => ∃ v, e = .returned v ∧ Row3 w' w.heap.size v (l.filter (fun x => x.1 == u.data.toList)) ∧ Fresh w w' := by
  obtain ⟨i0, z0, hi, hz0, hz3, hz1, hz2⟩ := infoL3'
  have HR : Hid (Rd3 w ao l) := hr
  clear hr
  go_enter Tryz.func77, Tryz.ntmps77
  go_wp2_with fail
  go_loopw [5, 6] (fun t5 t6 wr => ∃ i : Nat, i ≤ l.length ∧ t6 = .int .i64 i ∧ Row3 wr w.heap.size t5 ((l.take i).filter (fun x => x.1 == u.data.toList)) ∧ Fresh w wr) (fun _ t6 _ => l.length - (intOf t6).toNat)
  case atStart => exact ⟨0, Nat.zero_le _, rfl, World.ownsRow_nil _ _ _ _, Keeps.refl _ _⟩
  case round =>
    obtain ⟨i, h1, rfl, hrow, kk⟩ := hrel
    have HRow : Hid (Row3 wr w.heap.size u5 ((l.take i).filter (fun x => x.1 == u.data.toList))) := hrow
    have hfl : ((l.take i).filter (fun x => x.1 == u.data.toList)).length ≤ l.length := Nat.le_trans (List.length_filter_le _ _) (by rw [List.length_take]; omega)
    have hwr := kk.size
    clear hrow
    by_cases hlt : i < l.length
    · obtain ⟨x, hx⟩ : ∃ x, l[i]? = some x := ⟨l[i], List.getElem?_eq_getElem hlt⟩
      obtain ⟨g, rfl, q0, q1, q2⟩ := (HR.out.fresh kk) i x hx
      have HT : Hid (l.take (i + 1) = l.take i ++ [x]) := by
        show _ = _
        rw [List.take_add_one, hx]; rfl
      obtain ⟨X1, hX1⟩ : ∃ X1 : ByteArray, X1 = ⟨x.1.toArray⟩ := ⟨_, rfl⟩
      obtain ⟨X2, hX2⟩ : ∃ X2 : ByteArray, X2 = ⟨x.2.1.toArray⟩ := ⟨_, rfl⟩
      obtain ⟨X3, hX3⟩ : ∃ X3 : ByteArray, X3 = ⟨x.2.2.toArray⟩ := ⟨_, rfl⟩
      have H1 : Hid (X1.data.toList = x.1) := by rw [hX1]; rfl
      have H3 : Hid (enc3 x = [.string X1, .string X2, .string X3]) := by rw [hX1, hX2, hX3]; rfl
      rw [← hX1] at q0
      rw [← hX2] at q1
      rw [← hX3] at q2
      clear hx hX1 hX2 hX3
      have z0' : (0 : Int) ≤ (i : Int) := by omega
      have z1' : (i : Int) < (l.length : Int) := by omega
      by_cases hu : X1 = u
      · have HF0 : Hid ((l.take (i + 1)).filter (fun x => x.1 == u.data.toList) = (l.take i).filter (fun x => x.1 == u.data.toList) ++ [x]) := by
          show _ = _
          rw [HT.out, List.filter_append]
          congr 1
          have : (x.1 == u.data.toList) = true := by rw [← hu, H1.out]; simp
          simp [this]
        subst hu
        have hub : (X1.toList == X1.toList) = true := by rw [beq_bytes]; simp
        obtain ⟨tl, htl⟩ : ∃ tl, tl = (l.take i).filter (fun x => x.1 == X1.data.toList) := ⟨_, rfl⟩
        rw [← htl] at HRow hfl HF0
        clear htl
        have hrow : wr.ownsRow w.heap.size 67 3 u5 tl.length (tl.flatMap enc3) := HRow.out
        go_wp2_with (at_builtin; refine wpList_append_placed _ rfl _ _ 65 rfl w.heap.size 67 i0 z0 3 48 Tryz.underlying65 hi hz0 hz1 hz2 hz3 (by decide) _ _ _ rfl (hrow.alloc _) ⟨wr.heap.size, 0, none⟩ 1 1 [.string X1, .string X2, .string X3] rfl rfl ?c1 ?c2 ?c3 ?c4 ?c5 ?_)
        any_goals first | exact cells3_new _ _ _ _ _ | exact ⟨rfl, rfl, rfl⟩ | (intro u' hu'; simp at hu'; rcases hu' with rfl | rfl | rfl <;> rfl) | (unfold maxLen; omega) | omega | (simp; omega)
        intro v7 w7 ho7 hg7 hpl
        clear hpl
        have KF : Fresh w w7 := (kk.alloc _).grown hg7 (fun g' hg' hlt' => by have := (hrow.lt g' hg').1; omega)
        have HF : Hid (Row3 w7 w.heap.size v7 ((l.take (i + 1)).filter (fun x => x.1 == X1.data.toList))) := by
          show w7.ownsRow _ _ _ _ _ _
          rw [HF0.out, List.length_append, List.flatMap_append]
          have e2 : [x].flatMap enc3 = [.string X1, .string X2, .string X3] := by rw [List.flatMap_cons, H3.out]; rfl
          rw [e2]
          exact ho7
        clear ho7 hg7 HRow
        go_wp2_with fail
        go_roundw
        case rel => exact ⟨i + 1, by omega, by go_num, HF.out, KF⟩
        case measure => simp [intOf]; omega
      · have hub := beq_false (a := X1) (b := u) (fun e => hu (ba_ext e))
        have HF : Hid (Row3 wr w.heap.size u5 ((l.take (i + 1)).filter (fun x => x.1 == u.data.toList))) := by
          show Row3 _ _ _ _
          rw [HT.out, List.filter_append]
          have : (x.1 == u.data.toList) = false := by
            rw [← H1.out]
            exact beq_eq_false_iff_ne.2 (fun e => hu (ba_ext e))
          simp only [List.filter_cons, this, List.filter_nil, Bool.false_eq_true, if_false, List.append_nil]
          exact HRow.out
        clear hu
        go_wp2_with fail
        go_roundw
        case rel => exact ⟨i + 1, by omega, by go_num, HF.out, kk⟩
        case measure => simp [intOf]; omega
    · have ei : i = l.length := by omega
      subst ei
      have z1' : ¬ (l.length : Int) < (l.length : Int) := by omega
      have eL : l.take l.length = l := List.take_length
      rw [eL] at HRow
      go_wp2_with fail
      go_ret
      exact ⟨_, rfl, HRow.out, kk⟩

/-- whose the first i letters are -/
def usersR (l : List Lt3) (i : Nat) : List Text := Lib.compactUpTo (l.map (fun x => x.1)).toArray i

theorem usersR_succ {l : List Lt3} {i : Nat} {x : Lt3} (h : l[i]? = some x) (b : Bool) (hb : b = true ↔ (i = 0 ∨ ∃ y, l[i - 1]? = some y ∧ x.1 ≠ y.1)) : usersR l (i + 1) = usersR l i ++ (if b = true then [x.1] else []) := by
  unfold usersR
  rw [Lib.compactUpTo_succ]
  congr 1
  have e1 : (l.map (fun x => x.1)).toArray[i]! = x.1 := by
    simp [h]
  have e2 : Lib.keeps (l.map (fun x => x.1)).toArray i = b := by
    unfold Lib.keeps
    rw [Bool.eq_iff_iff, hb]
    by_cases hi : i = 0
    · simp [hi]
    · obtain ⟨y, hy⟩ : ∃ y, l[i - 1]? = some y := ⟨l[i - 1]'(by have := (List.getElem?_eq_some_iff.1 h).1; omega), List.getElem?_eq_getElem _⟩
      simp [hi, h, hy]
  rw [e1, e2]

theorem usersR_len (l : List Lt3) (i : Nat) : (usersR l i).length ≤ i := by
  unfold usersR Lib.compactUpTo
  rw [List.length_map]
  exact Nat.le_trans (List.length_filter_le _ _) (by simp)

set_option maxHeartbeats 4000000 in
set_option maxRecDepth 100000 in
theorem users_ref (ao : Option Addr) (cap : Nat) (l : List Lt3) (w : World) (hn : l.length ≤ 1099511627) (hr : Rd3 w ao l) :
    Calls Tryz.prog 76 #[.slice ao l.length cap] w fun e w' => ∃ v, e = .returned v ∧ Row9 w' w.heap.size v (Lib.compact (l.map (fun x => x.1))) ∧ Fresh w w' := by
  obtain ⟨i0, z0, hi, hz0, hz3, hz1, hz2⟩ := info9'
  have HR : Hid (Rd3 w ao l) := hr
  clear hr
  go_enter Tryz.func76, Tryz.ntmps76
  go_wp2_with fail
  go_loopw [3, 4] (fun t3 t4 wr => ∃ i : Nat, i ≤ l.length ∧ t4 = .int .i64 i ∧ Row9 wr w.heap.size t3 (usersR l i) ∧ Fresh w wr) (fun _ t4 _ => l.length - (intOf t4).toNat)
  case atStart => exact ⟨0, Nat.zero_le _, rfl, World.ownsRow_nil _ _ _ _, Keeps.refl _ _⟩
  case round =>
    obtain ⟨i, h1, rfl, hrow, kk⟩ := hrel
    have HRow : Hid (Row9 wr w.heap.size u3 (usersR l i)) := hrow
    have hfl := usersR_len l i
    have hwr := kk.size
    clear hrow
    by_cases hlt : i < l.length
    · obtain ⟨x, hx⟩ : ∃ x, l[i]? = some x := ⟨l[i], List.getElem?_eq_getElem hlt⟩
      obtain ⟨g, rfl, q0, q1, q2⟩ := (HR.out.fresh kk) i x hx
      obtain ⟨X1, hX1⟩ : ∃ X1 : ByteArray, X1 = ⟨x.1.toArray⟩ := ⟨_, rfl⟩
      have H1 : Hid (X1.data.toList = x.1) := by rw [hX1]; rfl
      have HXX : Hid (l[i]? = some x) := hx
      rw [← hX1] at q0
      clear hx hX1
      have z0' : (0 : Int) ≤ (i : Int) := by omega
      have z1' : (i : Int) < (l.length : Int) := by omega
      obtain ⟨tl, htl⟩ : ∃ tl, tl = usersR l i := ⟨_, rfl⟩
      have HTL : Hid (tl = usersR l i) := htl
      rw [← htl] at HRow hfl
      clear htl
      have HADD : Hid (∀ v7 w7, usersR l (i + 1) = tl ++ [x.1] → w7.ownsRow w.heap.size 9 1 v7 (tl.length + 1) (tl.map encStr ++ [.string X1]) → Row9 w7 w.heap.size v7 (usersR l (i + 1))) := fun v7 w7 e ho => by
        show w7.ownsRow _ _ _ _ _ _
        rw [e, List.length_append, List.map_append]
        have e2 : [x.1].map encStr = [.string X1] := by
          rw [← H1.out]; rfl
        rw [e2]
        exact ho
      by_cases h00 : i = 0
      · have HS : Hid (usersR l (i + 1) = tl ++ [x.1]) := by
          show _ = _
          rw [HTL.out]
          exact usersR_succ HXX.out true ⟨fun _ => .inl h00, fun _ => rfl⟩
        subst h00
        go_wp2_with fail
        go_quiet (fail)
        have fq : Fresh w (wr.drewN nq) := kk.drewN _
        have hrow : (wr.drewN nq).ownsRow w.heap.size 9 1 u3 tl.length (tl.map encStr) := ((Keeps.refl (fun _ => False) wr).drewN nq).owns HRow.out (fun _ _ e => e)
        have r0 := cell_keeps ((Keeps.refl (fun _ => False) wr).drewN nq) q0 (fun e => e)
        have hwq := fq.size
        generalize wr.drewN nq = wq at *
        clear q0 q1 q2 kk
        go_wp2_with (at_builtin; refine wpList_append_placed _ rfl _ _ 43 rfl w.heap.size 9 i0 z0 1 16 Tryz.underlying43 hi hz0 hz1 hz2 hz3 (by decide) _ _ _ rfl (hrow.alloc _) ⟨wq.heap.size, 0, none⟩ 1 1 [.string X1] rfl rfl ?c1a ?c2a ?c3a ?c4a ?c5a ?_)
        any_goals first | (intro j u hj; match j, hj with | 0, hj => simp at hj; subst hj; exact cell1 (heap_new _ _)) | rfl | (intro u' hu'; simp at hu'; subst hu'; rfl) | (unfold maxLen; omega) | omega | (simp; omega)
        intro v7 w7 ho7 hg7 hpl
        clear hpl
        have KF : Fresh w w7 := (fq.alloc _).grown hg7 (fun g' hg' hlt' => by have := (hrow.lt g' hg').1; omega)
        have HF : Hid (Row9 w7 w.heap.size v7 (usersR l (0 + 1))) := HADD.out v7 w7 HS.out ho7
        clear ho7 hg7 HRow
        go_wp2_with fail
        go_roundw
        case rel => exact ⟨0 + 1, by omega, by go_num, HF.out, KF⟩
        case measure => simp [intOf]; omega
      · obtain ⟨j, rfl⟩ : ∃ j, i = j + 1 := ⟨i - 1, by omega⟩
        obtain ⟨y, hy⟩ : ∃ y, l[j]? = some y := ⟨l[j], List.getElem?_eq_getElem (by omega)⟩
        obtain ⟨g', hg', p0, _, _⟩ := (HR.out.fresh kk) j y hy
        obtain rfl : g' = g := by injection hg' with hg'; injection hg' with hg'; exact hg'.symm
        obtain ⟨Y1, hY1⟩ : ∃ Y1 : ByteArray, Y1 = ⟨y.1.toArray⟩ := ⟨_, rfl⟩
        have H2 : Hid (Y1.data.toList = y.1) := by rw [hY1]; rfl
        have HYY : Hid (l[j]? = some y) := hy
        rw [← hY1] at p0
        clear hy hY1 hg'
        have zj0 : (0 : Int) ≤ (j : Int) := by omega
        have zj1 : (j : Int) < (l.length : Int) := by omega
        have zj2 : (j : Int) + 1 < (l.length : Int) := by omega
        have zj3 : ((j : Int) + 1 == 0) = false := beq_eq_false_iff_ne.2 (by omega)
        have zj4 : (j : Int) ≤ 1099511627 := by omega
        by_cases hu : X1 = Y1
        · have HS : Hid (usersR l (j + 1 + 1) = tl) := by
            show _ = _
            rw [HTL.out, usersR_succ HXX.out false ⟨fun h => (by cases h), fun h => ?_⟩]
            · simp
            · rcases h with h | ⟨z, hz, hne⟩
              · omega
              · have : y = z := Option.some.inj (HYY.out.symm.trans hz)
                subst this
                exact absurd (by rw [← H1.out, ← H2.out, hu]) hne
          subst hu
          have hub : (X1.toList == X1.toList) = true := by rw [beq_bytes]; simp
          have HF : Hid (Row9 wr w.heap.size u3 (usersR l (j + 1 + 1))) := by
            show Row9 _ _ _ _
            rw [HS.out]
            exact HRow.out
          go_wp2_with fail
          go_quiet (fail)
          have fq : Fresh w (wr.drewN nq) := kk.drewN _
          have HF2 : Hid (Row9 (wr.drewN nq) w.heap.size u3 (usersR l (j + 1 + 1))) := ((Keeps.refl (fun _ => False) wr).drewN nq).owns HF.out (fun _ _ e => e)
          go_wp2_with fail
          go_roundw
          case rel => exact ⟨j + 1 + 1, by omega, by go_num, HF2.out, fq⟩
          case measure => simp [intOf]; omega
        · have hub := beq_false (a := X1) (b := Y1) (fun e => hu (ba_ext e))
          have HS : Hid (usersR l (j + 1 + 1) = tl ++ [x.1]) := by
            show _ = _
            rw [HTL.out]
            exact usersR_succ HXX.out true ⟨fun _ => .inr ⟨y, HYY.out, fun e => hu (ba_ext (by rw [H1.out, H2.out, e]))⟩, fun _ => rfl⟩
          clear hu
          go_wp2_with fail
          go_quiet (fail)
          have fq : Fresh w (wr.drewN nq) := kk.drewN _
          have hrow : (wr.drewN nq).ownsRow w.heap.size 9 1 u3 tl.length (tl.map encStr) := ((Keeps.refl (fun _ => False) wr).drewN nq).owns HRow.out (fun _ _ e => e)
          have r0 := cell_keeps ((Keeps.refl (fun _ => False) wr).drewN nq) q0 (fun e => e)
          have hwq := fq.size
          generalize wr.drewN nq = wq at *
          clear q0 q1 q2 p0 kk
          go_wp2_with (at_builtin; refine wpList_append_placed _ rfl _ _ 43 rfl w.heap.size 9 i0 z0 1 16 Tryz.underlying43 hi hz0 hz1 hz2 hz3 (by decide) _ _ _ rfl (hrow.alloc _) ⟨wq.heap.size, 0, none⟩ 1 1 [.string X1] rfl rfl ?c1b ?c2b ?c3b ?c4b ?c5b ?_)
          any_goals first | (intro j u hj; match j, hj with | 0, hj => simp at hj; subst hj; exact cell1 (heap_new _ _)) | rfl | (intro u' hu'; simp at hu'; subst hu'; rfl) | (unfold maxLen; omega) | omega | (simp; omega)
          intro v7 w7 ho7 hg7 hpl
          clear hpl
          have KF : Fresh w w7 := (fq.alloc _).grown hg7 (fun g' hg' hlt' => by have := (hrow.lt g' hg').1; omega)
          have HF : Hid (Row9 w7 w.heap.size v7 (usersR l (j + 1 + 1))) := HADD.out v7 w7 HS.out ho7
          clear ho7 hg7 HRow
          go_wp2_with fail
          go_roundw
          case rel => exact ⟨j + 1 + 1, by omega, by go_num, HF.out, KF⟩
          case measure => simp [intOf]; omega
    · have ei : i = l.length := by omega
      subst ei
      have z1' : ¬ (l.length : Int) < (l.length : Int) := by omega
      go_wp2_with fail
      go_ret
      refine ⟨_, rfl, ?_, kk⟩
      have e : Lib.compact (l.map (fun x => x.1)) = usersR l l.length := by
        unfold Lib.compact usersR
        rw [List.length_map]
      rw [e]
      exact HRow.out

end Go.Proofs.YtegbkpjcjlihmabGreatDoor

namespace Go.Proofs.YtegbkpjcjlihmabGreatDoor
open Go.RowKit Go.Maps

/-- a write: 0 Create, 1 Append, 2 Sync, 3 Remove, 4 Rename, else SyncDir -/
abbrev Wr := Nat × Text × Text

def Wr.rel : Wr → Rel
  | (0, s, _) => fun σ k σ' => σ.creates s k σ'
  | (1, s, t) => fun σ k σ' => σ.appends s t k σ'
  | (2, s, _) => fun σ k σ' => σ.syncs s k σ'
  | (3, s, _) => fun σ k σ' => σ.removes s k σ'
  | (4, s, t) => fun σ k σ' => σ.renames s t k σ'
  | _ => fun σ k σ' => σ.syncsDir k σ'

def Wr.cost : Wr → Nat
  | (0, _, _) => 1
  | (3, _, _) => 1
  | (4, _, _) => 1
  | _ => 0

def Wr.bytes : Wr → Nat
  | (1, _, t) => t.length
  | _ => 0

/-- the names that it may make -/
def Wr.makes : Wr → Text → Prop
  | (0, s, _), u => u = s
  | (4, _, t), u => u = t
  | _, _ => False

/-- the names that it may take away -/
def Wr.takes : Wr → Text → Prop
  | (3, s, _), u => u = s
  | (4, s, _), u => u = s
  | _, _ => False

/-- the names whose files it may write -/
def Wr.writes : Wr → Text → Prop
  | (1, s, _), u => u = s
  | (2, s, _), u => u = s
  | _, _ => False

section
variable {Lt : Text → Prop} {D : Text → Text} {K : List Text} {σ σ' : Dk} {k : Int} {C L : Nat}

theorem Wr.fits (x : Wr) (hf : Fits K C L σ) (hm : ∀ s, x.makes s → s ∈ K) (h : x.rel σ k σ') : Fits K (C + x.cost) (L + x.bytes) σ' := by
  obtain ⟨n, s, t⟩ := x
  match n, hm, h with
  | 0, hm, h => exact hf.creates (hm s rfl) h
  | 1, _, h => exact hf.appends h
  | 2, _, h => exact hf.syncs h
  | 3, _, h => exact hf.removes h
  | 4, hm, h => exact hf.renames (hm t rfl) h
  | n + 5, _, h => exact hf.syncsDir h

theorem runsW_fits : ∀ (ws : List Wr) {C L : Nat} {σ σ' : Dk} {k : Int}, Fits K C L σ → (∀ x ∈ ws, ∀ s, x.makes s → s ∈ K) → runs (ws.map Wr.rel) σ k σ' → Fits K (C + (ws.map Wr.cost).sum) (L + (ws.map Wr.bytes).sum) σ'
  | [], C, L, σ, σ', k, hf, _, h => by
    obtain ⟨_, rfl⟩ := h
    simpa using hf
  | x :: ws, C, L, σ, σ', k, hf, hm, h => by
    obtain ⟨j, σ1, h1, h2⟩ := h
    have f1 := x.fits hf (hm x (by simp)) h1
    rcases h2 with ⟨_, h2⟩ | ⟨_, _, rfl⟩
    · have := runsW_fits ws f1 (fun y hy => hm y (by simp [hy])) h2
      simp only [List.map_cons, List.sum_cons]
      rw [← Nat.add_assoc, ← Nat.add_assoc]
      exact this
    · simp only [List.map_cons, List.sum_cons]
      exact f1.mono (by omega) (by omega)

/-- what each keeps all keep -/
theorem runsW_keep (P : Dk → Prop) : ∀ (ws : List Wr) {C L : Nat} {σ σ' : Dk} {k : Int}, (∀ x ∈ ws, ∀ (C L : Nat) (σ σ' : Dk) (k : Int), Fits K C L σ → P σ → x.rel σ k σ' → P σ') → Fits K C L σ → (∀ x ∈ ws, ∀ s, x.makes s → s ∈ K) → P σ → runs (ws.map Wr.rel) σ k σ' → P σ'
  | [], _, _, _, _, _, _, _, _, hp, h => by
    obtain ⟨_, rfl⟩ := h
    exact hp
  | x :: ws, C, L, σ, σ', k, hx, hf, hm, hp, h => by
    obtain ⟨j, σ1, h1, h2⟩ := h
    have f1 := x.fits hf (hm x (by simp)) h1
    have p1 := hx x (by simp) C L σ σ1 j hf hp h1
    rcases h2 with ⟨_, h2⟩ | ⟨_, _, rfl⟩
    · exact runsW_keep P ws (fun y hy => hx y (by simp [hy])) f1 (fun y hy => hm y (by simp [hy])) p1 h2
    · exact p1

theorem Wr.boxed (x : Wr) (hb : Boxed Lt D σ) (hf : Fits K C L σ) (hm : ∀ s, x.makes s → s ∈ K ∧ ¬ Lt s) (ht : ∀ s, x.takes s ∨ x.writes s → ¬ Lt s) (h : x.rel σ k σ') : Boxed Lt D σ' := by
  obtain ⟨n, s, t⟩ := x
  match n, hm, ht, h with
  | 0, hm, _, h => exact hb.creates hf (hm s rfl).1 (hm s rfl).2 h
  | 1, _, ht, h => exact hb.appends (ht s (.inr rfl)) h
  | 2, _, ht, h => exact hb.syncs (ht s (.inr rfl)) h
  | 3, _, ht, h => exact hb.removes hf (ht s (.inl rfl)) h
  | 4, hm, ht, h => exact hb.renames hf (hm t rfl).1 (ht s (.inl rfl)) (fun e => absurd e (hm t rfl).2) h
  | n + 5, _, _, h => exact hb.syncsDir h

theorem Wr.stays (x : Wr) {u : Text} (hs : Stays σ u) (hf : Fits K C L σ) (ht : ¬ x.takes u) (h : x.rel σ k σ') : Stays σ' u := by
  obtain ⟨n, s, t⟩ := x
  match n, ht, h with
  | 0, _, h => exact hs.creates hf h
  | 1, _, h => exact hs.appends h
  | 2, _, h => exact hs.syncs h
  | 3, ht, h => exact hs.removes hf ht h
  | 4, ht, h => exact hs.renames hf ht h
  | n + 5, _, h => exact hs.syncsDir h

theorem Nowhere.tick {u : Text} (h : Nowhere σ u) : Nowhere σ.tick u := h

theorem Nowhere.creates {u s : Text} (h : Nowhere σ u) (hf : Fits K C L σ) (hne : u ≠ s) (hc : σ.creates s k σ') : Nowhere σ' u := by
  rcases hc with ⟨_, _, rfl⟩ | ⟨_, _, _, rfl⟩ | ⟨_, hn, x, hx, _, rfl⟩
  · exact h
  · exact h
  · refine Nowhere.did (σ := σ.tick.add x) h (hf.tick.add x) _ ?_
    simp only [Chg.app, putN, if_neg hne]
    exact h.now hf

theorem Nowhere.appends {u s t : Text} (h : Nowhere σ u) (hc : σ.appends s t k σ') : Nowhere σ' u := by
  rcases hc with ⟨_, _, rfl⟩ | ⟨_, _, _, rfl⟩ | ⟨_, x, hx, _, rfl⟩ <;> exact h

theorem Nowhere.syncs {u s : Text} (h : Nowhere σ u) (hc : σ.syncs s k σ') : Nowhere σ' u := by
  rcases hc with ⟨_, _, rfl⟩ | ⟨_, _, _, rfl⟩ | ⟨_, x, hx, _, rfl⟩ <;> exact h

theorem Nowhere.removes {u s : Text} (h : Nowhere σ u) (hf : Fits K C L σ) (hc : σ.removes s k σ') : Nowhere σ' u := by
  rcases hc with ⟨_, _, rfl⟩ | ⟨_, _, _, rfl⟩ | ⟨_, x, hx, _, rfl⟩
  · exact h
  · exact h
  · refine Nowhere.did (σ := σ.tick) h hf.tick _ ?_
    have := h.now hf
    simp only [Chg.app, delN]
    split
    · rfl
    · exact this

theorem Nowhere.renames {u s t : Text} (h : Nowhere σ u) (hf : Fits K C L σ) (hne : u ≠ t) (hc : σ.renames s t k σ') : Nowhere σ' u := by
  rcases hc with ⟨_, _, rfl⟩ | ⟨_, _, _, rfl⟩ | ⟨_, x, hx, _, rfl⟩
  · exact h
  · exact h
  · refine Nowhere.did (σ := σ.tick) h hf.tick _ ?_
    have := h.now hf
    simp only [Chg.app, putN, delN, if_neg hne]
    split
    · rfl
    · exact this

theorem Nowhere.syncsDir {u : Text} (h : Nowhere σ u) (hc : σ.syncsDir k σ') : Nowhere σ' u := by
  rcases hc with ⟨_, _, rfl⟩ | ⟨_, _, rfl⟩
  · exact h
  · intro i
    rw [synced_settled]
    exact h _

theorem Wr.nowhere (x : Wr) {u : Text} (hs : Nowhere σ u) (hf : Fits K C L σ) (ht : ¬ x.makes u) (h : x.rel σ k σ') : Nowhere σ' u := by
  obtain ⟨n, s, t⟩ := x
  match n, ht, h with
  | 0, ht, h => exact hs.creates hf ht h
  | 1, _, h => exact hs.appends h
  | 2, _, h => exact hs.syncs h
  | 3, _, h => exact hs.removes hf h
  | 4, ht, h => exact hs.renames hf ht h
  | n + 5, _, h => exact hs.syncsDir h

theorem Wr.leftN (x : Wr) (hs : σ.left = none) (h : x.rel σ k σ') : σ'.left = none := by
  have ht := tick_left hs
  obtain ⟨n, s, t⟩ := x
  match n, h with
  | 0, h => rcases h with ⟨_, _, rfl⟩ | ⟨_, _, _, rfl⟩ | ⟨_, hn, x, hx, _, rfl⟩ <;> exact ht
  | 1, h => rcases h with ⟨_, _, rfl⟩ | ⟨_, _, _, rfl⟩ | ⟨_, x, hx, _, rfl⟩ <;> exact ht
  | 2, h => rcases h with ⟨_, _, rfl⟩ | ⟨_, _, _, rfl⟩ | ⟨_, x, hx, _, rfl⟩ <;> exact ht
  | 3, h => rcases h with ⟨_, _, rfl⟩ | ⟨_, _, _, rfl⟩ | ⟨_, x, hx, _, rfl⟩ <;> exact ht
  | 4, h => rcases h with ⟨_, _, rfl⟩ | ⟨_, _, _, rfl⟩ | ⟨_, x, hx, _, rfl⟩ <;> exact ht
  | n + 5, h => rcases h with ⟨_, _, rfl⟩ | ⟨_, _, rfl⟩ <;> exact ht

/-- writes that touch no letter -/
def Off (Lt : Text → Prop) (K : List Text) (ws : List Wr) : Prop := ∀ x ∈ ws, (∀ s, x.makes s → s ∈ K ∧ ¬ Lt s) ∧ ∀ s, x.takes s ∨ x.writes s → ¬ Lt s

theorem Off.makes {ws : List Wr} (h : Off Lt K ws) : ∀ x ∈ ws, ∀ s, x.makes s → s ∈ K := fun x hx s hs => ((h x hx).1 s hs).1

theorem Off.boxed {ws : List Wr} (h : Off Lt K ws) (hf : Fits K C L σ) (hb : Boxed Lt D σ) (hr : runs (ws.map Wr.rel) σ k σ') : Boxed Lt D σ' :=
  runsW_keep (Boxed Lt D) ws (fun x hx _ _ _ _ _ hf hp hx' => x.boxed hp hf (h x hx).1 (h x hx).2 hx') hf h.makes hb hr

theorem Off.stays {ws : List Wr} (h : Off Lt K ws) {u : Text} (hu : Lt u) (hf : Fits K C L σ) (hb : Stays σ u) (hr : runs (ws.map Wr.rel) σ k σ') : Stays σ' u :=
  runsW_keep (fun σ => Stays σ u) ws (fun x hx _ _ _ _ _ hf hp hx' => x.stays hp hf (fun e => (h x hx).2 u (.inl e) hu) hx') hf h.makes hb hr

theorem Off.nowhere {ws : List Wr} (h : Off Lt K ws) {u : Text} (hu : Lt u) (hf : Fits K C L σ) (hb : Nowhere σ u) (hr : runs (ws.map Wr.rel) σ k σ') : Nowhere σ' u :=
  runsW_keep (fun σ => Nowhere σ u) ws (fun x hx _ _ _ _ _ hf hp hx' => x.nowhere hp hf (fun e => ((h x hx).1 u e).2 hu) hx') hf h.makes hb hr

theorem Off.leftN {ws : List Wr} (h : Off Lt K ws) (hf : Fits K C L σ) (hb : σ.left = none) (hr : runs (ws.map Wr.rel) σ k σ') : σ'.left = none :=
  runsW_keep (fun σ => σ.left = none) ws (fun x _ _ _ _ _ _ _ hp hx' => x.leftN hp hx') hf h.makes hb hr

end
end Go.Proofs.YtegbkpjcjlihmabGreatDoor

namespace Go.Proofs.YtegbkpjcjlihmabGreatDoor
open Go.RowKit Go.Maps

abbrev lim : Nat := 1000000000000000000
/-- a letter's name -/
def LtrN (s : Text) : Prop := ∃ p : Ltr, p.1.length < lim ∧ s = nameOf p.1 p.2
def nm3 (x : Lt3) : Text := nameOf x.1 x.2.1

theorem ltrN_fresh : ¬ LtrN freshT := fun ⟨p, hl, e⟩ => nameOf_ne_fresh p.1 p.2 hl e.symm

theorem nm3_inj {x y : Lt3} (hx : x.1.length < lim) (hy : y.1.length < lim) (e : nm3 x = nm3 y) : lk x = lk y := by
  obtain ⟨e1, e2⟩ := nameOf_inj hx hy e
  exact Prod.ext e1 e2

/-- letters l must be there, x may be, and no other one -/
structure Bst (K : List Text) (D : Text → Text) (σ : Dk) (l : List Lt3) (stop maybe : Bool) (x : Lt3) : Prop where
  up : UpL l
  boxed : Boxed LtrN D σ
  stay : ∀ y ∈ l, Stays σ (nm3 y) ∧ D (nm3 y) = y.2.2 ∧ y.1.length < lim
  gone : ∀ p : Ltr, p.1.length < lim → p ∉ l.map lk → (maybe = true → p ≠ lk x) → Nowhere σ (nameOf p.1 p.2)
  may : maybe = true → lk x ∉ l.map lk ∧ D (nm3 x) = x.2.2 ∧ x.1.length < lim
  left : stop = false → σ.left = none

section
variable {K : List Text} {D : Text → Text} {σ σ' : Dk} {l : List Lt3} {stop maybe : Bool} {x : Lt3} {C L : Nat} {k : Int}

theorem Bst.empty (K : List Text) (D : Text → Text) : Bst K D Dk.empty [] false false x where
  up := List.Pairwise.nil
  boxed := Boxed.empty _ _
  stay := fun y hy => by cases hy
  gone := fun p _ _ _ i => by
    have := (Fits.empty K 0 0).setK i (nameOf p.1 p.2)
    cases e : (Dk.empty.settled i).safe (nameOf p.1 p.2) with
    | none => rfl
    | some y =>
      have h2 := (Fits.empty [] 0 0).setK i (nameOf p.1 p.2) (by rw [e]; rfl)
      cases h2
  may := fun h => by cases h
  left := fun _ => rfl

/-- what is seen now -/
def seen (σ : Dk) (l : List Lt3) (maybe : Bool) (x : Lt3) : List Lt3 := if maybe = true ∧ (σ.now (nm3 x)).isSome = true then withL l x else l

theorem Bst.seen_up (h : Bst K D σ l stop maybe x) : UpL (seen σ l maybe x) := by
  unfold seen
  split
  · exact withL_up h.up
  · exact h.up

theorem Bst.seen_keys (h : Bst K D σ l stop maybe x) (hf : Fits K C L σ) (p : Ltr) : p ∈ (seen σ l maybe x).map lk ↔ (p.1.length < lim ∧ (σ.now (nameOf p.1 p.2)).isSome = true) := by
  constructor
  · intro hp
    have hl : p ∈ l.map lk → p.1.length < lim ∧ (σ.now (nameOf p.1 p.2)).isSome = true := fun hp => by
      obtain ⟨y, hy, rfl⟩ := List.mem_map.1 hp
      obtain ⟨h1, _, h3⟩ := h.stay y hy
      exact ⟨h3, h1.now hf⟩
    unfold seen at hp
    split at hp
    · rename_i hm
      rcases (withL_keys p).1 hp with rfl | hp
      · exact ⟨(h.may hm.1).2.2, hm.2⟩
      · exact hl hp
    · exact hl hp
  · rintro ⟨hlen, hn⟩
    by_cases hp : p ∈ l.map lk
    · unfold seen
      split
      · exact (withL_keys p).2 (.inr hp)
      · exact hp
    · by_cases hm : maybe = true ∧ p = lk x
      · obtain ⟨hm, rfl⟩ := hm
        unfold seen
        rw [if_pos ⟨hm, hn⟩]
        exact (withL_keys _).2 (.inl rfl)
      · have := (h.gone p hlen hp (fun e1 e2 => hm ⟨e1, e2⟩)).now hf
        rw [this] at hn
        cases hn

theorem Bst.seen_data (h : Bst K D σ l stop maybe x) (hf : Fits K C L σ) : ∀ y ∈ seen σ l maybe x, (σ.read (nameOf y.1 y.2.1)).getD [] = y.2.2 := by
  have hl : ∀ y ∈ l, (σ.read (nameOf y.1 y.2.1)).getD [] = y.2.2 := fun y hy => by
    obtain ⟨h1, h2, h3⟩ := h.stay y hy
    exact (read_boxed (s := nm3 y) h.boxed hf ⟨lk y, h3, rfl⟩ (h1.now hf)).trans h2
  intro y hy
  unfold seen at hy
  split at hy
  · rename_i hm
    rcases withL_mem hy with ⟨rfl, _⟩ | hy
    · obtain ⟨_, h2, h3⟩ := h.may hm.1
      exact (read_boxed (s := nm3 y) h.boxed hf ⟨lk y, h3, rfl⟩ hm.2).trans h2
    · exact hl y hy
  · exact hl y hy

/-- writes that touch no letter -/
theorem Bst.off (h : Bst K D σ l stop maybe x) (hf : Fits K C L σ) {ws : List Wr} (ho : Off LtrN K ws) (hr : runs (ws.map Wr.rel) σ k σ') : Bst K D σ' l stop maybe x where
  up := h.up
  boxed := ho.boxed hf h.boxed hr
  stay := fun y hy => by
    obtain ⟨h1, h2, h3⟩ := h.stay y hy
    exact ⟨ho.stays ⟨lk y, h3, rfl⟩ hf h1 hr, h2, h3⟩
  gone := fun p hp h1 h2 => ho.nowhere ⟨p, hp, rfl⟩ hf (h.gone p hp h1 h2) hr
  may := h.may
  left := fun e => ho.leftN hf (h.left e) hr

/-- the disk may stop from now on -/
theorem Bst.stopped (h : Bst K D σ l stop maybe x) (n : Option Nat) : Bst K D { σ with left := n } l true maybe x :=
  ⟨h.up, h.boxed.left n, h.stay, h.gone, h.may, fun e => by cases e⟩

/-- a crash: what is seen then must be there from then on -/
theorem Bst.crashed (h : Bst K D σ l stop maybe x) (hf : Fits K C L σ) (j : Nat) (ks : List Text) (ts : List Int) : Bst K D (σ.crashed j ks ts) (seen (σ.crashed j ks ts) l maybe x) false false x := by
  have hst : ∀ y ∈ l, Stays (σ.crashed j ks ts) (nm3 y) ∧ D (nm3 y) = y.2.2 ∧ y.1.length < lim := fun y hy => by
    obtain ⟨h1, h2, h3⟩ := h.stay y hy
    exact ⟨h1.crashed _ _ _, h2, h3⟩
  refine ⟨?_, h.boxed.crashed hf j ks ts, ?_, ?_, fun e => absurd e (by simp), fun _ => rfl⟩
  · unfold seen
    split
    · exact withL_up h.up
    · exact h.up
  · intro y hy
    unfold seen at hy
    split at hy
    · rename_i hm
      rcases withL_mem hy with ⟨rfl, _⟩ | hy
      · obtain ⟨_, h2, h3⟩ := h.may hm.1
        refine ⟨?_, h2, h3⟩
        rcases stays_or_nowhere_crashed σ j ks ts (nm3 y) with e | e
        · exact e.1
        · have := hm.2
          rw [e.2] at this
          cases this
      · exact hst y hy
    · exact hst y hy
  · intro p hp h1 _
    rcases stays_or_nowhere_crashed σ j ks ts (nameOf p.1 p.2) with e | e
    · exfalso
      apply h1
      by_cases hpl : p ∈ l.map lk
      · unfold seen
        split
        · exact (withL_keys p).2 (.inr hpl)
        · exact hpl
      · by_cases hm : maybe = true ∧ p = lk x
        · obtain ⟨hm, rfl⟩ := hm
          unfold seen
          rw [if_pos ⟨hm, e.2⟩]
          exact (withL_keys _).2 (.inl rfl)
        · have hnw := h.gone p hp hpl (fun e1 e2 => hm ⟨e1, e2⟩)
          have := hnw j
          have h2 := e.1 0
          rw [crashed_settled, this] at h2
          cases h2
    · exact e.1

def delW3 (σ : Dk) (nm data : Text) : List Wr := if (σ.now nm).isSome = true then [(5, [], [])] else (if (σ.now freshT).isSome = true then [(3, freshT, [])] else []) ++ [(0, freshT, []), (1, freshT, data), (2, freshT, []), (4, freshT, nm), (5, [], [])]

theorem delivers_writes {nm data : Text} (h : σ.delivers nm data k σ') : runs ((delW3 σ nm data).map Wr.rel) σ k σ' := by
  unfold Dk.delivers Dk.sweeps at h
  unfold delW3
  split
  · rename_i hn
    rw [if_pos hn] at h
    exact h
  · rename_i hn
    rw [if_neg hn] at h
    split
    · rename_i hn2
      rw [if_pos hn2] at h
      exact h
    · rename_i hn2
      rw [if_neg hn2] at h
      exact h

theorem delW3_makes {nm data : Text} : ∀ x ∈ delW3 σ nm data, ∀ s, x.makes s → s = freshT ∨ s = nm := by
  intro x hx s hs
  unfold delW3 at hx
  split at hx
  · simp at hx; subst hx; exact hs.elim
  · rw [List.mem_append] at hx
    rcases hx with hx | hx
    · split at hx
      · simp at hx; subst hx; exact hs.elim
      · cases hx
    · simp at hx
      rcases hx with rfl | rfl | rfl | rfl | rfl
      · exact .inl hs
      · exact hs.elim
      · exact hs.elim
      · exact .inr hs
      · exact hs.elim

def clnW (σ : Dk) : List Wr := (if (σ.now freshT).isSome = true then [(3, freshT, [])] else []) ++ [(5, [], [])]

theorem cleans_writes (h : σ.cleans k σ') : runs ((clnW σ).map Wr.rel) σ k σ' := by
  unfold Dk.cleans Dk.sweeps at h
  unfold clnW
  split
  · rename_i hn
    rw [if_pos hn] at h
    exact h
  · rename_i hn
    rw [if_neg hn] at h
    exact h

theorem Bst.clean (h : Bst K D σ l stop maybe x) (hf : Fits K C L σ) (hc : σ.cleans k σ') : Bst K D σ' l stop maybe x ∧ ((k = 6 ∧ stop = true) ∨ (k = 0 ∧ σ'.now freshT = none)) := by
  have ho : Off LtrN K (clnW σ) := by
    intro y hy
    unfold clnW at hy
    rw [List.mem_append] at hy
    rcases hy with hy | hy
    · split at hy
      · simp at hy; subst hy
        exact ⟨fun s e => e.elim, fun s e => by rcases e with rfl | e; exact ltrN_fresh; exact e.elim⟩
      · cases hy
    · simp at hy; subst hy
      exact ⟨fun s e => e.elim, fun s e => by rcases e with e | e <;> exact e.elim⟩
  refine ⟨h.off hf ho (cleans_writes hc), ?_⟩
  obtain ⟨_, hk⟩ := clean_plain h.boxed hf ltrN_fresh hc
  rcases hk with ⟨h1, h2⟩ | h1
  · refine .inl ⟨h1, ?_⟩
    cases e : stop with
    | true => rfl
    | false => exact absurd (h.left e) h2
  · exact .inr h1

/-- Deliver: of a letter x0; one that may be there is x0 -/
theorem Bst.deliver (h : Bst K D σ l stop maybe x) (hf : Fits K C L σ) (hK : freshT ∈ K) (x0 : Lt3) (hx0 : x0.1.length < lim) (hnK : nm3 x0 ∈ K) (hm : maybe = true → x0 = x) (hc : σ.delivers (nm3 x0) x0.2.2 k σ') :
    ∃ D', ((k = 6 ∧ stop = true ∧ (lk x0 ∈ l.map lk → Bst K D' σ' l stop maybe x) ∧ (lk x0 ∉ l.map lk → Bst K D' σ' l stop true x0)) ∨
      (k = 0 ∧ (σ'.now (nm3 x0)).isSome = true ∧ Bst K D' σ' (withL l x0) stop false x)) := by
  obtain ⟨D', hD1, hD2, hD3, hD4⟩ : ∃ D', Boxed LtrN D' σ ∧ ((σ.now (nm3 x0)).isSome = false → x0.2.2 = D' (nm3 x0)) ∧ (∀ y ∈ l, D' (nm3 y) = y.2.2) ∧ (lk x0 ∉ l.map lk → D' (nm3 x0) = x0.2.2) := by
    by_cases hin : lk x0 ∈ l.map lk ∨ maybe = true
    · refine ⟨D, h.boxed, fun e => ?_, fun y hy => (h.stay y hy).2.1, fun hn => ?_⟩
      · rcases hin with hin | hin
        · obtain ⟨y, hy, e1⟩ := List.mem_map.1 hin
          have := (h.stay y hy).1.now hf
          have e2 : nm3 y = nm3 x0 := by
            unfold nm3
            have e3 : y.1 = x0.1 := congrArg (fun p : Ltr => p.1) e1
            have e4 : y.2.1 = x0.2.1 := congrArg (fun p : Ltr => p.2) e1
            rw [e3, e4]
          rw [e2, e] at this
          cases this
        · rw [hm hin]
          exact (h.may hin).2.1.symm
      · rcases hin with hin | hin
        · exact absurd hin hn
        · rw [hm hin]
          exact (h.may hin).2.1
    · have h1 : lk x0 ∉ l.map lk := fun e => hin (.inl e)
      have h2 : maybe ≠ true := fun e => hin (.inr e)
      have hnw := h.gone (lk x0) hx0 h1 (fun e => absurd e h2)
      refine ⟨fun s => if s = nm3 x0 then x0.2.2 else D s, h.boxed.setD (fun t ht => ?_), fun _ => (if_pos rfl).symm, fun y hy => ?_, fun _ => if_pos rfl⟩
      · by_cases e : t = nm3 x0
        · rw [e]; exact .inr hnw
        · exact .inl (if_neg e)
      · have hne : nm3 y ≠ nm3 x0 := fun e => h1 (by rw [← nm3_inj (h.stay y hy).2.2 hx0 e]; exact List.mem_map_of_mem hy)
        exact (if_neg hne).trans (h.stay y hy).2.1
  obtain ⟨I, lf⟩ := deliver_plain (nm := nm3 x0) hD1 hf hK hnK ltrN_fresh (nameOf_ne_fresh _ _ hx0) hD2 hc
  have hlen : ∀ y : Lt3, y.1.length < lim → nm3 y ≠ freshT := fun y hy => nameOf_ne_fresh _ _ hy
  have hst : ∀ y ∈ l, Stays σ' (nm3 y) ∧ D' (nm3 y) = y.2.2 ∧ y.1.length < lim := fun y hy => by
    obtain ⟨h1, h2, h3⟩ := h.stay y hy
    exact ⟨I.stays _ (hlen y h3) h1, hD3 y hy, h3⟩
  have hgo : ∀ p : Ltr, p.1.length < lim → p ∉ l.map lk → p ≠ lk x0 → Nowhere σ' (nameOf p.1 p.2) := fun p hp h1 h2 => by
    have hne : nameOf p.1 p.2 ≠ nm3 x0 := fun e => by
      obtain ⟨e1, e2⟩ := nameOf_inj hp hx0 e
      exact h2 (Prod.ext e1 e2)
    refine runsW_keep (K := K) (fun σ => Nowhere σ (nameOf p.1 p.2)) (delW3 σ (nm3 x0) x0.2.2) (fun y hy _ _ _ _ _ hf hpn hy' => y.nowhere hpn hf (fun e => ?_) hy') hf (fun y hy s hs => ?_) (h.gone p hp h1 (fun e => by rw [← hm e]; exact h2)) (delivers_writes hc)
    · rcases delW3_makes y hy _ e with e | e
      · exact nameOf_ne_fresh _ _ hp e
      · exact hne e
    · rcases delW3_makes y hy _ hs with rfl | rfl
      · exact hK
      · exact hnK
  have hleft : stop = false → σ'.left = none := fun e => I.left (h.left e)
  rcases lf with ⟨h1, h2⟩ | ⟨h1, h2, h3⟩
  · refine ⟨D', .inl ⟨h1, ?_, fun hin => ?_, fun hn => ?_⟩⟩
    · cases e : stop with
      | true => rfl
      | false => exact absurd (h.left e) h2
    · refine ⟨h.up, I.boxed, hst, fun p hp q1 q2 => ?_, fun e => ?_, hleft⟩
      · exact hgo p hp q1 (fun e => q1 (by rw [e]; exact hin))
      · exact absurd hin (by rw [hm e]; exact (h.may e).1)
    · exact ⟨h.up, I.boxed, hst, fun p hp q1 q2 => hgo p hp q1 (q2 rfl), fun _ => ⟨hn, hD4 hn, hx0⟩, hleft⟩
  · refine ⟨D', .inr ⟨h1, h2, ⟨withL_up h.up, I.boxed, fun y hy => ?_, fun p hp q1 _ => ?_, fun e => absurd e (by simp), hleft⟩⟩⟩
    · rcases withL_mem hy with ⟨rfl, hn⟩ | hy
      · exact ⟨h3, hD4 hn, hx0⟩
      · exact hst y hy
    · exact hgo p hp (fun e => q1 ((withL_keys p).2 (.inr e))) (fun e => q1 ((withL_keys p).2 (.inl e)))

end
end Go.Proofs.YtegbkpjcjlihmabGreatDoor
