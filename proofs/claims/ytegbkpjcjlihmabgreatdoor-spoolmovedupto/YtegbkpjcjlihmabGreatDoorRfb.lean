/-
  The reference of letters: With.
-/
import Derived.Test.YtegbkpjcjlihmabGreatDoorRfa
namespace Go.Proofs.YtegbkpjcjlihmabGreatDoor
open Go.RowKit Go.Maps Go.Sort Go.Lib

theorem infoL3 : (Tryz.prog.info? 67).map (fun i => (i.zero.map (fun z => z.cells.size), i.size, i.bytes)) = some (some 3, 3, 48) := by kernel_rfl
theorem infoL3' : ∃ i z, Tryz.prog.info? 67 = some i ∧ i.zero = some z ∧ z.cells.size = 3 ∧ i.size = 3 ∧ i.bytes = 48 := by
  cases h : Tryz.prog.info? 67 with
  | none => have := infoL3; rw [h] at this; cases this
  | some i =>
    have := infoL3
    rw [h] at this
    simp at this
    obtain ⟨⟨z, h1, h2⟩, h3, h4⟩ := this
    exact ⟨i, z, rfl, h1, h2, h3, h4⟩

/-- a row of letters -/
def Row3 (w : World) (base : Nat) (v : Value) (l : List Lt3) : Prop := w.ownsRow base 67 3 v l.length (l.flatMap enc3)

theorem flat3_len (l : List Lt3) : (l.flatMap enc3).length = l.length * 3 := by
  induction l with
  | nil => rfl
  | cons x l ih => simp [enc3] at *; omega

theorem flat3_at : ∀ (l : List Lt3) (i : Nat) (x : Lt3), l[i]? = some x → (l.flatMap enc3)[i * 3]? = some (.string ⟨x.1.toArray⟩) ∧ (l.flatMap enc3)[i * 3 + 1]? = some (.string ⟨x.2.1.toArray⟩) ∧ (l.flatMap enc3)[i * 3 + 2]? = some (.string ⟨x.2.2.toArray⟩)
  | [], i, x, h => by simp at h
  | y :: l, 0, x, h => by
    simp at h
    subst h
    exact ⟨rfl, rfl, rfl⟩
  | y :: l, i + 1, x, h => by
    have ih := flat3_at l i x (by simpa using h)
    have e : ∀ j, ((y :: l).flatMap enc3)[j + 3]? = (l.flatMap enc3)[j]? := fun j => by
      rw [List.flatMap_cons]
      simp [enc3]
    have e1 : (i + 1) * 3 = i * 3 + 3 := by omega
    have e2 : (i + 1) * 3 + 1 = i * 3 + 1 + 3 := by omega
    have e3 : (i + 1) * 3 + 2 = i * 3 + 2 + 3 := by omega
    rw [e1, e, show i * 3 + 3 + 1 = i * 3 + 1 + 3 by omega, e, show i * 3 + 3 + 2 = i * 3 + 2 + 3 by omega, e]
    exact ih

theorem Row3.rd {w : World} {base cap : Nat} {ao : Option Addr} {l : List Lt3} (h : Row3 w base (.slice ao l.length cap) l) : Rd3 w ao l := fun i x hx => by
  have hne : l.length ≠ 0 := fun e => by
    have := (List.getElem?_eq_some_iff.1 hx).1
    omega
  rcases h.2 with ⟨_, e⟩ | ⟨g, cap', cur, e, _⟩
  · exact absurd e hne
  · injection e with e1 e2 e3
    subst e1
    have hadd : ∀ j, (⟨g, 0, none⟩ : Addr).add j = ⟨g, j, none⟩ := fun j => by unfold Addr.add; split <;> simp_all
    obtain ⟨f0, f1, f2⟩ := flat3_at l i x hx
    have hc := h.cells (g := g) rfl
    have h0 := hc _ _ f0
    have h1 := hc _ _ f1
    have h2 := hc _ _ f2
    rw [hadd] at h0 h1 h2
    exact ⟨g, rfl, h0, h1, h2⟩

/-- letters, as a value -/
def Ls (w : World) (v : Value) (l : List Lt3) : Prop := ∃ ao cap, v = .slice ao l.length cap ∧ Rd3 w ao l

theorem Row3.ls {w : World} {base : Nat} {v : Value} {l : List Lt3} (h : Row3 w base v l) : Ls w v l := by
  obtain ⟨ao, cap, rfl, _, _, _⟩ := own_form h
  exact ⟨ao, cap, rfl, h.rd⟩

theorem cmpL2_neg {a b c d : Text} : cmpL2 (a, b) (c, d) < 0 ↔ compareBytes a c < 0 ∨ (a = c ∧ compareBytes b d < 0) := by
  unfold cmpL2 or2
  show (if compareBytes a c = 0 then compareBytes b d else compareBytes a c) < 0 ↔ _
  by_cases h : compareBytes a c = 0
  · have e := cmpB_eq _ _ h
    subst e
    rw [if_pos h]
    constructor
    · exact fun h => .inr ⟨rfl, h⟩
    · rintro (h' | h')
      · omega
      · exact h'.2
  · rw [if_neg h]
    constructor
    · exact .inl
    · rintro (h' | h')
      · exact h'
      · exact absurd (h'.1 ▸ cmpB_refl a) h

theorem insL_len (x : Lt3) : ∀ l : List Lt3, (insL x l).length = l.length + 1
  | [] => rfl
  | y :: l => by
    unfold insL
    split
    · simp
    · simp [insL_len x l]

theorem cells3_new (w : World) (a b c : Value) (T : TypeId) : ∀ j u, [a, b, c][j]? = some u → (w.alloc (.cells #[a, b, c] T)).cell? ((⟨w.heap.size, 0, none⟩ : Addr).add j) = some u := by
  have hb := heap_new w (.cells #[a, b, c] T)
  intro j u hj
  match j, hj with
  | 0, hj => simp at hj; subst hj; rw [show (⟨w.heap.size, 0, none⟩ : Addr).add 0 = ⟨w.heap.size, 0, none⟩ from rfl, Lib.cell_of_heap hb]; rfl
  | 1, hj => simp at hj; subst hj; rw [show (⟨w.heap.size, 0, none⟩ : Addr).add 1 = ⟨w.heap.size, 1, none⟩ from rfl, Lib.cell_of_heap hb]; rfl
  | 2, hj => simp at hj; subst hj; rw [show (⟨w.heap.size, 0, none⟩ : Addr).add 2 = ⟨w.heap.size, 2, none⟩ from rfl, Lib.cell_of_heap hb]; rfl
  | j + 3, hj => simp at hj

/-- the letter is in -/
def DoneIff (dn : Bool) (x : Lt3) (l : List Lt3) : Prop := dn = true ↔ ∃ y ∈ l, bef x y

/-- how far With is -/
def withAt (x : Lt3) (l : List Lt3) (done : Bool) : List Lt3 := if done = true then insL x l else l

set_option maxHeartbeats 8000000 in
set_option maxRecDepth 100000 in
theorem with_ref (ao : Option Addr) (cap : Nat) (l : List Lt3) (u k dt : ByteArray) (w : World) (hn : l.length ≤ 1099511627) (hr : Rd3 w ao l) (hsz : ∀ y ∈ l, y.1.length ≤ 1099511627776 ∧ y.2.1.length ≤ 1099511627776) (hu : u.size ≤ 1099511627776) (hk : k.size ≤ 1099511627776) :
    Calls Tryz.prog 75 #[.slice ao l.length cap, .agg #[.string u, .string k, .string dt]] w fun e w' => ∃ v, e = .returned v ∧ Ls w' v (withL l (u.data.toList, k.data.toList, dt.data.toList)) ∧ (v = .slice ao l.length cap ∨ ∀ g, v.ownBlock = some g → w.heap.size ≤ g ∧ g < w'.heap.size) ∧ Fresh w w' := by
  obtain ⟨i0, z0, hi, hz0, hz3, hz1, hz2⟩ := infoL3'
  obtain ⟨x, hx⟩ : ∃ x : Lt3, x = (u.data.toList, k.data.toList, dt.data.toList) := ⟨_, rfl⟩
  rw [← hx]
  have HX : Hid (x = (u.data.toList, k.data.toList, dt.data.toList)) := hx
  have HLK : Hid (HasL l u.data.toList k.data.toList ↔ lk x ∈ l.map lk) := by rw [hx]; exact Iff.rfl
  clear hx
  have kx : Fresh w (w.alloc (.cells #[.string u, .string k, .string dt] 67)) := (Keeps.refl _ _).alloc _
  have hfind := find_ref ao cap l u k (w.alloc (.cells #[.string u, .string k, .string dt] 67)) (by omega) (hr.fresh kx)
  have hb := heap_new w (.cells #[.string u, .string k, .string dt] 67)
  have x0 : (w.alloc (.cells #[.string u, .string k, .string dt] 67)).cell? ⟨w.heap.size, 0, none⟩ = some (.string u) := by rw [Lib.cell_of_heap hb]; rfl
  have x1 : (w.alloc (.cells #[.string u, .string k, .string dt] 67)).cell? ⟨w.heap.size, 1, none⟩ = some (.string k) := by rw [Lib.cell_of_heap hb]; rfl
  have x2 : (w.alloc (.cells #[.string u, .string k, .string dt] 67)).cell? ⟨w.heap.size, 2, none⟩ = some (.string dt) := by rw [Lib.cell_of_heap hb]; rfl
  have HR : Hid (Rd3 w ao l) := hr
  clear hr hb
  go_enter Tryz.func75, Tryz.ntmps75
  go_wp2_with fail
  generalize hW : w.alloc (.cells #[.string u, .string k, .string dt] 67) = W at *
  refine hfind.mono ?_
  rintro e w1 ⟨⟨nf, rfl, hnf⟩, k1⟩
  clear hfind hW
  have k2 : Fresh w w1 := kx.trans k1
  by_cases hin : 0 ≤ nf
  · have HE : Hid (withL l x = l) := withL_self (HLK.out.1 (hnf.1 hin))
    have HRd : Hid (Rd3 w1 ao l) := HR.out.fresh k2
    clear hnf HLK
    go_wp2_with fail
    go_ret
    refine ⟨_, rfl, ?_, .inl rfl, k2⟩
    rw [HE.out]
    exact ⟨ao, cap, rfl, HRd.out⟩
  · have HE : Hid (withL l x = insL x l) := if_neg (fun h => hin (hnf.2 (HLK.out.2 h)))
    have y0 : Hid _ := cell_keeps k1 x0 (fun e => e)
    have y1 : Hid _ := cell_keeps k1 x1 (fun e => e)
    have y2 : Hid _ := cell_keeps k1 x2 (fun e => e)
    clear hnf HLK x0 x1 x2 k1
    go_wp2_with fail
    go_loopw [5, 6, 7] (fun t5 t6 t7 wr => ∃ (i : Nat) (dn : Bool), i ≤ l.length ∧ t7 = .int .i64 i ∧ t6 = .bool dn ∧ DoneIff dn x (l.take i) ∧ Row3 wr w1.heap.size t5 (withAt x (l.take i) dn) ∧ Fresh w1 wr) (fun _ _ t7 _ => l.length - (intOf t7).toNat)
    case atStart => exact ⟨0, false, Nat.zero_le _, rfl, rfl, ⟨fun h => (by cases h), fun ⟨y, hy, _⟩ => (by cases hy)⟩, World.ownsRow_nil _ _ _ _, Keeps.refl _ _⟩
    case round =>
      obtain ⟨i, dn, hile, rfl, rfl, hdn, hrow, kk⟩ := hrel
      have HD : Hid (DoneIff dn x (l.take i)) := hdn
      have HRow : Hid (Row3 wr w1.heap.size u5 (withAt x (l.take i) dn)) := hrow
      have hwl : (withAt x (l.take i) dn).length ≤ l.length + 1 := by
        unfold withAt
        split
        · rw [insL_len, List.length_take]; omega
        · rw [List.length_take]; omega
      have hwr := kk.size
      have p0 := cell_keeps kk y0.out (fun e => e)
      have p1 := cell_keeps kk y1.out (fun e => e)
      have p2 := cell_keeps kk y2.out (fun e => e)
      clear hdn hrow
      by_cases hlt : i < l.length
      · obtain ⟨y, hy⟩ : ∃ y, l[i]? = some y := ⟨l[i], List.getElem?_eq_getElem hlt⟩
        obtain ⟨g, rfl, q0, q1, q2⟩ := (HR.out.fresh k2) i y hy
        have hys := hsz y (List.mem_of_getElem? hy)
        have HT : Hid (l.take (i + 1) = l.take i ++ [y]) := by
          show _ = _
          rw [List.take_add_one, hy]; rfl
        obtain ⟨Y1, hY1⟩ : ∃ Y1 : ByteArray, Y1 = ⟨y.1.toArray⟩ := ⟨_, rfl⟩
        obtain ⟨Y2, hY2⟩ : ∃ Y2 : ByteArray, Y2 = ⟨y.2.1.toArray⟩ := ⟨_, rfl⟩
        obtain ⟨Y3, hY3⟩ : ∃ Y3 : ByteArray, Y3 = ⟨y.2.2.toArray⟩ := ⟨_, rfl⟩
        have H1 : Hid (Y1.data.toList = y.1) := by rw [hY1]; rfl
        have H2 : Hid (Y2.data.toList = y.2.1) := by rw [hY2]; rfl
        have H3 : Hid (enc3 y = [.string Y1, .string Y2, .string Y3]) := by rw [hY1, hY2, hY3]; rfl
        have HEX : Hid (enc3 x = [.string u, .string k, .string dt]) := by rw [HX.out]; rfl
        have s1 : Y1.size ≤ 1099511627776 := by rw [hY1]; simpa [ByteArray.size] using hys.1
        have s2 : Y2.size ≤ 1099511627776 := by rw [hY2]; simpa [ByteArray.size] using hys.2
        rw [← hY1] at q0
        rw [← hY2] at q1
        rw [← hY3] at q2
        have Q0 : Hid _ := q0
        have Q1 : Hid _ := q1
        have Q2 : Hid _ := q2
        have q0 := cell_keeps kk q0 (fun e => e)
        have q1 := cell_keeps kk q1 (fun e => e)
        have q2 := cell_keeps kk q2 (fun e => e)
        clear hy hY1 hY2 hY3 hys
        have z0' : (0 : Int) ≤ (i : Int) := by omega
        have z1' : (i : Int) < (l.length : Int) := by omega
        have HB : Hid (bef x y ↔ compareBytes u.data.toList Y1.data.toList < 0 ∨ (u = Y1 ∧ compareBytes k.data.toList Y2.data.toList < 0)) := by
          show bef x y ↔ _
          unfold bef
          rw [HX.out, show lk y = (Y1.data.toList, Y2.data.toList) by rw [H1.out, H2.out]; rfl]
          show cmpL2 (u.data.toList, k.data.toList) (Y1.data.toList, Y2.data.toList) < 0 ↔ _
          rw [cmpL2_neg]
          constructor
          · rintro (h | h)
            · exact .inl h
            · exact .inr ⟨ba_ext h.1, h.2⟩
          · rintro (h | h)
            · exact .inl h
            · exact .inr ⟨by rw [h.1], h.2⟩
        have ah1 := fun w' => ahead_any u Y1 w' hu s1
        have ah2 := fun w' => ahead_any k Y2 w' hk s2
        by_cases ha1 : compareBytes u.data.toList Y1.data.toList < 0
        · have hb : bef x y := HB.out.2 (.inl ha1)
          rw [decide_eq_true ha1] at ah1
          clear HB ah2 ha1
          cases dn with
          | true =>
            go_wp2_with fail
            go_quiet ((go_at_call 108; exact Calls.quiet_of (ah1 _)))
            have fq : Fresh w1 (wr.drewN nq) := kk.drewN _
            have HRq : Hid (Row3 (wr.drewN nq) w1.heap.size u5 (withAt x (l.take i) true)) := ((Keeps.refl (fun _ => False) wr).drewN nq).owns HRow.out (fun _ _ e => e)
            have r0 := cell_keeps fq y0.out (fun e => e)
            have r1 := cell_keeps fq y1.out (fun e => e)
            have r2 := cell_keeps fq y2.out (fun e => e)
            have s0 := cell_keeps fq Q0.out (fun e => e)
            have s1 := cell_keeps fq Q1.out (fun e => e)
            have s2 := cell_keeps fq Q2.out (fun e => e)
            have hwq := fq.size
            generalize wr.drewN nq = wq at *
            obtain ⟨tl, htl⟩ : ∃ tl, tl = l.take i := ⟨_, rfl⟩
            have htll : tl.length ≤ i := by rw [htl, List.length_take]; omega
            rw [← htl] at HD HRq HT hwl
            clear p0 p1 p2 q0 q1 q2 HRow kk htl
            have hrow : wq.ownsRow w1.heap.size 67 3 u5 (withAt x tl true).length ((withAt x tl true).flatMap enc3) := HRq.out
            go_wp2_with (at_builtin; refine wpList_append_placed _ rfl _ _ 65 rfl w1.heap.size 67 i0 z0 3 48 Tryz.underlying65 hi hz0 hz1 hz2 hz3 (by decide) _ _ _ rfl (hrow.alloc _) ⟨wq.heap.size, 0, none⟩ 1 1 [.string Y1, .string Y2, .string Y3] rfl rfl ?c1x1 ?c2x1 ?c3x1 ?c4x1 ?c5x1 ?_)
            any_goals first | exact cells3_new _ _ _ _ _ | (intro u' hu'; simp at hu'; rcases hu' with rfl | rfl | rfl <;> rfl) | (unfold maxLen; omega) | omega | (simp; omega)
            intro v7 w7 ho7 hg7 hpl
            clear hpl
            have KF : Fresh w1 w7 := (fq.alloc _).grown hg7 (fun g' hg' hlt' => by have := (hrow.lt g' hg').1; omega)
            have HF : Hid (Row3 w7 w1.heap.size v7 (withAt x (l.take (i + 1)) true)) := by
              have e : withAt x (l.take (i + 1)) true = withAt x tl true ++ [y] := by
                unfold withAt
                rw [HT.out]
                rw [if_pos rfl, if_pos rfl]; exact insL_done x _ _ (HD.out.1 rfl)
              show w7.ownsRow _ _ _ _ _ _
              rw [e, List.length_append, List.flatMap_append]
              have e2 : [y].flatMap enc3 = [.string Y1, .string Y2, .string Y3] := by rw [List.flatMap_cons, H3.out]; rfl
              rw [e2]
              exact ho7
            have HD2 : Hid (DoneIff true x (l.take (i + 1))) := by
              refine ⟨fun _ => ?_, fun _ => rfl⟩
              obtain ⟨z, hz, hb2⟩ := HD.out.1 rfl
              exact ⟨z, by rw [HT.out]; simp [hz], hb2⟩
              
              
              
            clear ho7 hg7 HD HRq
            go_wp2_with fail
            go_roundw
            case rel => exact ⟨i + 1, true, by omega, by go_num, rfl, HD2.out, HF.out, KF⟩
            case measure => simp [intOf]; omega
          | false =>
            go_wp2_with fail
            go_quiet ((go_at_call 108; exact Calls.quiet_of (ah1 _)))
            have fq : Fresh w1 (wr.drewN nq) := kk.drewN _
            have HRq : Hid (Row3 (wr.drewN nq) w1.heap.size u5 (withAt x (l.take i) false)) := ((Keeps.refl (fun _ => False) wr).drewN nq).owns HRow.out (fun _ _ e => e)
            have r0 := cell_keeps fq y0.out (fun e => e)
            have r1 := cell_keeps fq y1.out (fun e => e)
            have r2 := cell_keeps fq y2.out (fun e => e)
            have s0 := cell_keeps fq Q0.out (fun e => e)
            have s1 := cell_keeps fq Q1.out (fun e => e)
            have s2 := cell_keeps fq Q2.out (fun e => e)
            have hwq := fq.size
            generalize wr.drewN nq = wq at *
            obtain ⟨tl, htl⟩ : ∃ tl, tl = l.take i := ⟨_, rfl⟩
            have htll : tl.length ≤ i := by rw [htl, List.length_take]; omega
            rw [← htl] at HD HRq HT hwl
            clear p0 p1 p2 q0 q1 q2 HRow kk htl
            have hrow : wq.ownsRow w1.heap.size 67 3 u5 tl.length (tl.flatMap enc3) := HRq.out
            go_wp2_with (at_builtin; refine wpList_append_placed _ rfl _ _ 65 rfl w1.heap.size 67 i0 z0 3 48 Tryz.underlying65 hi hz0 hz1 hz2 hz3 (by decide) _ _ _ rfl (hrow.alloc _) ⟨wq.heap.size, 0, none⟩ 1 1 [.string u, .string k, .string dt] rfl rfl ?c1x2 ?c2x2 ?c3x2 ?c4x2 ?c5x2 ?_)
            any_goals first | exact cells3_new _ _ _ _ _ | (intro u' hu'; simp at hu'; rcases hu' with rfl | rfl | rfl <;> rfl) | (unfold maxLen; omega) | omega | (simp; omega)
            intro v6 w6 ho6 hg6 hpl
            clear hpl
            have f6 : Fresh w1 w6 := (fq.alloc _).grown hg6 (fun g' hg' hlt' => by have := (hrow.lt g' hg').1; omega)
            have s0a := cell_keeps f6 Q0.out (fun e => e)
            have s1a := cell_keeps f6 Q1.out (fun e => e)
            have s2a := cell_keeps f6 Q2.out (fun e => e)
            have hw6 := f6.size
            obtain ⟨a6, c6, rfl, _, _, _⟩ := own_form ho6
            clear hg6 hrow r0 r1 r2 s0 s1 s2
            go_wp2_with (at_builtin; refine wpList_append_placed _ rfl _ _ 65 rfl w1.heap.size 67 i0 z0 3 48 Tryz.underlying65 hi hz0 hz1 hz2 hz3 (by decide) _ _ _ rfl (ho6.alloc _) ⟨w6.heap.size, 0, none⟩ 1 1 [.string Y1, .string Y2, .string Y3] rfl rfl ?c1x3 ?c2x3 ?c3x3 ?c4x3 ?c5x3 ?_)
            any_goals first | exact cells3_new _ _ _ _ _ | (intro u' hu'; simp at hu'; rcases hu' with rfl | rfl | rfl <;> rfl) | (unfold maxLen; omega) | omega | (simp; omega)
            intro v7 w7 ho7 hg7 hpl
            clear hpl
            have KF : Fresh w1 w7 := (f6.alloc _).grown hg7 (fun g' hg' hlt' => by have := (ho6.lt g' hg').1; omega)
            have HF : Hid (Row3 w7 w1.heap.size v7 (withAt x (l.take (i + 1)) true)) := by
              have e : withAt x (l.take (i + 1)) true = tl ++ [x, y] := by
                unfold withAt
                rw [if_pos rfl, HT.out, insL_not x tl [y] (fun z hz hb' => by have := HD.out.2 ⟨z, hz, hb'⟩; cases this)]
                show _ ++ insL x [y] = _
                unfold insL
                rw [if_pos (show cmpL2 (lk x) (lk y) < 0 from hb)]
              show w7.ownsRow _ _ _ _ _ _
              rw [e, List.length_append, List.flatMap_append]
              have e2 : [x, y].flatMap enc3 = [.string u, .string k, .string dt, .string Y1, .string Y2, .string Y3] := by rw [List.flatMap_cons, List.flatMap_cons, HEX.out, H3.out]; rfl
              rw [e2]
              first
                | exact ho7
                | (have h7 := ho7
                   simp only [List.append_assoc, List.cons_append, List.nil_append] at h7
                   exact h7)
            have HD2 : Hid (DoneIff true x (l.take (i + 1))) := ⟨fun _ => ⟨y, by rw [HT.out]; simp, hb⟩, fun _ => rfl⟩
            clear ho6 ho7 hg7 HD HRq
            go_wp2_with fail
            go_roundw
            case rel => exact ⟨i + 1, true, by omega, by go_num, rfl, HD2.out, HF.out, KF⟩
            case measure => simp [intOf]; omega
        · rw [decide_eq_false ha1] at ah1
          by_cases hu1 : u = Y1
          · subst hu1
            have hub : (u.toList == u.toList) = true := by rw [beq_bytes]; simp
            by_cases ha2 : compareBytes k.data.toList Y2.data.toList < 0
            · have hb : bef x y := HB.out.2 (.inr ⟨rfl, ha2⟩)
              rw [decide_eq_true ha2] at ah2
              clear HB ha1 ha2
              cases dn with
              | true =>
                go_wp2_with fail
                go_quiet (first | (go_at_call_of 108 (Value.string u); exact Calls.quiet_of (ah1 _)) | (go_at_call_of 108 (Value.string k); exact Calls.quiet_of (ah2 _)))
                have fq : Fresh w1 (wr.drewN nq) := kk.drewN _
                have HRq : Hid (Row3 (wr.drewN nq) w1.heap.size u5 (withAt x (l.take i) true)) := ((Keeps.refl (fun _ => False) wr).drewN nq).owns HRow.out (fun _ _ e => e)
                have r0 := cell_keeps fq y0.out (fun e => e)
                have r1 := cell_keeps fq y1.out (fun e => e)
                have r2 := cell_keeps fq y2.out (fun e => e)
                have s0 := cell_keeps fq Q0.out (fun e => e)
                have s1 := cell_keeps fq Q1.out (fun e => e)
                have s2 := cell_keeps fq Q2.out (fun e => e)
                have hwq := fq.size
                generalize wr.drewN nq = wq at *
                obtain ⟨tl, htl⟩ : ∃ tl, tl = l.take i := ⟨_, rfl⟩
                have htll : tl.length ≤ i := by rw [htl, List.length_take]; omega
                rw [← htl] at HD HRq HT hwl
                clear p0 p1 p2 q0 q1 q2 HRow kk htl
                have hrow : wq.ownsRow w1.heap.size 67 3 u5 (withAt x tl true).length ((withAt x tl true).flatMap enc3) := HRq.out
                go_wp2_with (at_builtin; refine wpList_append_placed _ rfl _ _ 65 rfl w1.heap.size 67 i0 z0 3 48 Tryz.underlying65 hi hz0 hz1 hz2 hz3 (by decide) _ _ _ rfl (hrow.alloc _) ⟨wq.heap.size, 0, none⟩ 1 1 [.string u, .string Y2, .string Y3] rfl rfl ?c1x4 ?c2x4 ?c3x4 ?c4x4 ?c5x4 ?_)
                any_goals first | exact cells3_new _ _ _ _ _ | (intro u' hu'; simp at hu'; rcases hu' with rfl | rfl | rfl <;> rfl) | (unfold maxLen; omega) | omega | (simp; omega)
                intro v7 w7 ho7 hg7 hpl
                clear hpl
                have KF : Fresh w1 w7 := (fq.alloc _).grown hg7 (fun g' hg' hlt' => by have := (hrow.lt g' hg').1; omega)
                have HF : Hid (Row3 w7 w1.heap.size v7 (withAt x (l.take (i + 1)) true)) := by
                  have e : withAt x (l.take (i + 1)) true = withAt x tl true ++ [y] := by
                    unfold withAt
                    rw [HT.out]
                    rw [if_pos rfl, if_pos rfl]; exact insL_done x _ _ (HD.out.1 rfl)
                  show w7.ownsRow _ _ _ _ _ _
                  rw [e, List.length_append, List.flatMap_append]
                  have e2 : [y].flatMap enc3 = [.string u, .string Y2, .string Y3] := by rw [List.flatMap_cons, H3.out]; rfl
                  rw [e2]
                  exact ho7
                have HD2 : Hid (DoneIff true x (l.take (i + 1))) := by
                  refine ⟨fun _ => ?_, fun _ => rfl⟩
                  obtain ⟨z, hz, hb2⟩ := HD.out.1 rfl
                  exact ⟨z, by rw [HT.out]; simp [hz], hb2⟩
                  
                  
                  
                clear ho7 hg7 HD HRq
                go_wp2_with fail
                go_roundw
                case rel => exact ⟨i + 1, true, by omega, by go_num, rfl, HD2.out, HF.out, KF⟩
                case measure => simp [intOf]; omega
              | false =>
                go_wp2_with fail
                go_quiet (first | (go_at_call_of 108 (Value.string u); exact Calls.quiet_of (ah1 _)) | (go_at_call_of 108 (Value.string k); exact Calls.quiet_of (ah2 _)))
                have fq : Fresh w1 (wr.drewN nq) := kk.drewN _
                have HRq : Hid (Row3 (wr.drewN nq) w1.heap.size u5 (withAt x (l.take i) false)) := ((Keeps.refl (fun _ => False) wr).drewN nq).owns HRow.out (fun _ _ e => e)
                have r0 := cell_keeps fq y0.out (fun e => e)
                have r1 := cell_keeps fq y1.out (fun e => e)
                have r2 := cell_keeps fq y2.out (fun e => e)
                have s0 := cell_keeps fq Q0.out (fun e => e)
                have s1 := cell_keeps fq Q1.out (fun e => e)
                have s2 := cell_keeps fq Q2.out (fun e => e)
                have hwq := fq.size
                generalize wr.drewN nq = wq at *
                obtain ⟨tl, htl⟩ : ∃ tl, tl = l.take i := ⟨_, rfl⟩
                have htll : tl.length ≤ i := by rw [htl, List.length_take]; omega
                rw [← htl] at HD HRq HT hwl
                clear p0 p1 p2 q0 q1 q2 HRow kk htl
                have hrow : wq.ownsRow w1.heap.size 67 3 u5 tl.length (tl.flatMap enc3) := HRq.out
                go_wp2_with (at_builtin; refine wpList_append_placed _ rfl _ _ 65 rfl w1.heap.size 67 i0 z0 3 48 Tryz.underlying65 hi hz0 hz1 hz2 hz3 (by decide) _ _ _ rfl (hrow.alloc _) ⟨wq.heap.size, 0, none⟩ 1 1 [.string u, .string k, .string dt] rfl rfl ?c1x5 ?c2x5 ?c3x5 ?c4x5 ?c5x5 ?_)
                any_goals first | exact cells3_new _ _ _ _ _ | (intro u' hu'; simp at hu'; rcases hu' with rfl | rfl | rfl <;> rfl) | (unfold maxLen; omega) | omega | (simp; omega)
                intro v6 w6 ho6 hg6 hpl
                clear hpl
                have f6 : Fresh w1 w6 := (fq.alloc _).grown hg6 (fun g' hg' hlt' => by have := (hrow.lt g' hg').1; omega)
                have s0a := cell_keeps f6 Q0.out (fun e => e)
                have s1a := cell_keeps f6 Q1.out (fun e => e)
                have s2a := cell_keeps f6 Q2.out (fun e => e)
                have hw6 := f6.size
                obtain ⟨a6, c6, rfl, _, _, _⟩ := own_form ho6
                clear hg6 hrow r0 r1 r2 s0 s1 s2
                go_wp2_with (at_builtin; refine wpList_append_placed _ rfl _ _ 65 rfl w1.heap.size 67 i0 z0 3 48 Tryz.underlying65 hi hz0 hz1 hz2 hz3 (by decide) _ _ _ rfl (ho6.alloc _) ⟨w6.heap.size, 0, none⟩ 1 1 [.string u, .string Y2, .string Y3] rfl rfl ?c1x6 ?c2x6 ?c3x6 ?c4x6 ?c5x6 ?_)
                any_goals first | exact cells3_new _ _ _ _ _ | (intro u' hu'; simp at hu'; rcases hu' with rfl | rfl | rfl <;> rfl) | (unfold maxLen; omega) | omega | (simp; omega)
                intro v7 w7 ho7 hg7 hpl
                clear hpl
                have KF : Fresh w1 w7 := (f6.alloc _).grown hg7 (fun g' hg' hlt' => by have := (ho6.lt g' hg').1; omega)
                have HF : Hid (Row3 w7 w1.heap.size v7 (withAt x (l.take (i + 1)) true)) := by
                  have e : withAt x (l.take (i + 1)) true = tl ++ [x, y] := by
                    unfold withAt
                    rw [if_pos rfl, HT.out, insL_not x tl [y] (fun z hz hb' => by have := HD.out.2 ⟨z, hz, hb'⟩; cases this)]
                    show _ ++ insL x [y] = _
                    unfold insL
                    rw [if_pos (show cmpL2 (lk x) (lk y) < 0 from hb)]
                  show w7.ownsRow _ _ _ _ _ _
                  rw [e, List.length_append, List.flatMap_append]
                  have e2 : [x, y].flatMap enc3 = [.string u, .string k, .string dt, .string u, .string Y2, .string Y3] := by rw [List.flatMap_cons, List.flatMap_cons, HEX.out, H3.out]; rfl
                  rw [e2]
                  first
                    | exact ho7
                    | (have h7 := ho7
                       simp only [List.append_assoc, List.cons_append, List.nil_append] at h7
                       exact h7)
                have HD2 : Hid (DoneIff true x (l.take (i + 1))) := ⟨fun _ => ⟨y, by rw [HT.out]; simp, hb⟩, fun _ => rfl⟩
                clear ho6 ho7 hg7 HD HRq
                go_wp2_with fail
                go_roundw
                case rel => exact ⟨i + 1, true, by omega, by go_num, rfl, HD2.out, HF.out, KF⟩
                case measure => simp [intOf]; omega
            · have hb : ¬ bef x y := fun h => by
                rcases HB.out.1 h with h | h
                · exact ha1 h
                · exact ha2 h.2
              rw [decide_eq_false ha2] at ah2
              clear HB ha1 ha2
              cases dn with
              | true =>
                go_wp2_with fail
                go_quiet (first | (go_at_call_of 108 (Value.string u); exact Calls.quiet_of (ah1 _)) | (go_at_call_of 108 (Value.string k); exact Calls.quiet_of (ah2 _)))
                have fq : Fresh w1 (wr.drewN nq) := kk.drewN _
                have HRq : Hid (Row3 (wr.drewN nq) w1.heap.size u5 (withAt x (l.take i) true)) := ((Keeps.refl (fun _ => False) wr).drewN nq).owns HRow.out (fun _ _ e => e)
                have r0 := cell_keeps fq y0.out (fun e => e)
                have r1 := cell_keeps fq y1.out (fun e => e)
                have r2 := cell_keeps fq y2.out (fun e => e)
                have s0 := cell_keeps fq Q0.out (fun e => e)
                have s1 := cell_keeps fq Q1.out (fun e => e)
                have s2 := cell_keeps fq Q2.out (fun e => e)
                have hwq := fq.size
                generalize wr.drewN nq = wq at *
                obtain ⟨tl, htl⟩ : ∃ tl, tl = l.take i := ⟨_, rfl⟩
                have htll : tl.length ≤ i := by rw [htl, List.length_take]; omega
                rw [← htl] at HD HRq HT hwl
                clear p0 p1 p2 q0 q1 q2 HRow kk htl
                have hrow : wq.ownsRow w1.heap.size 67 3 u5 (withAt x tl true).length ((withAt x tl true).flatMap enc3) := HRq.out
                go_wp2_with (at_builtin; refine wpList_append_placed _ rfl _ _ 65 rfl w1.heap.size 67 i0 z0 3 48 Tryz.underlying65 hi hz0 hz1 hz2 hz3 (by decide) _ _ _ rfl (hrow.alloc _) ⟨wq.heap.size, 0, none⟩ 1 1 [.string u, .string Y2, .string Y3] rfl rfl ?c1x7 ?c2x7 ?c3x7 ?c4x7 ?c5x7 ?_)
                any_goals first | exact cells3_new _ _ _ _ _ | (intro u' hu'; simp at hu'; rcases hu' with rfl | rfl | rfl <;> rfl) | (unfold maxLen; omega) | omega | (simp; omega)
                intro v7 w7 ho7 hg7 hpl
                clear hpl
                have KF : Fresh w1 w7 := (fq.alloc _).grown hg7 (fun g' hg' hlt' => by have := (hrow.lt g' hg').1; omega)
                have HF : Hid (Row3 w7 w1.heap.size v7 (withAt x (l.take (i + 1)) true)) := by
                  have e : withAt x (l.take (i + 1)) true = withAt x tl true ++ [y] := by
                    unfold withAt
                    rw [HT.out]
                    rw [if_pos rfl, if_pos rfl]; exact insL_done x _ _ (HD.out.1 rfl)
                  show w7.ownsRow _ _ _ _ _ _
                  rw [e, List.length_append, List.flatMap_append]
                  have e2 : [y].flatMap enc3 = [.string u, .string Y2, .string Y3] := by rw [List.flatMap_cons, H3.out]; rfl
                  rw [e2]
                  exact ho7
                have HD2 : Hid (DoneIff true x (l.take (i + 1))) := by
                  refine ⟨fun _ => ?_, fun _ => rfl⟩
                  obtain ⟨z, hz, hb2⟩ := HD.out.1 rfl
                  exact ⟨z, by rw [HT.out]; simp [hz], hb2⟩
                  
                  
                  
                clear ho7 hg7 HD HRq
                go_wp2_with fail
                go_roundw
                case rel => exact ⟨i + 1, true, by omega, by go_num, rfl, HD2.out, HF.out, KF⟩
                case measure => simp [intOf]; omega
              | false =>
                go_wp2_with fail
                go_quiet (first | (go_at_call_of 108 (Value.string u); exact Calls.quiet_of (ah1 _)) | (go_at_call_of 108 (Value.string k); exact Calls.quiet_of (ah2 _)))
                have fq : Fresh w1 (wr.drewN nq) := kk.drewN _
                have HRq : Hid (Row3 (wr.drewN nq) w1.heap.size u5 (withAt x (l.take i) false)) := ((Keeps.refl (fun _ => False) wr).drewN nq).owns HRow.out (fun _ _ e => e)
                have r0 := cell_keeps fq y0.out (fun e => e)
                have r1 := cell_keeps fq y1.out (fun e => e)
                have r2 := cell_keeps fq y2.out (fun e => e)
                have s0 := cell_keeps fq Q0.out (fun e => e)
                have s1 := cell_keeps fq Q1.out (fun e => e)
                have s2 := cell_keeps fq Q2.out (fun e => e)
                have hwq := fq.size
                generalize wr.drewN nq = wq at *
                obtain ⟨tl, htl⟩ : ∃ tl, tl = l.take i := ⟨_, rfl⟩
                have htll : tl.length ≤ i := by rw [htl, List.length_take]; omega
                rw [← htl] at HD HRq HT hwl
                clear p0 p1 p2 q0 q1 q2 HRow kk htl
                have hrow : wq.ownsRow w1.heap.size 67 3 u5 (withAt x tl false).length ((withAt x tl false).flatMap enc3) := HRq.out
                go_wp2_with (at_builtin; refine wpList_append_placed _ rfl _ _ 65 rfl w1.heap.size 67 i0 z0 3 48 Tryz.underlying65 hi hz0 hz1 hz2 hz3 (by decide) _ _ _ rfl (hrow.alloc _) ⟨wq.heap.size, 0, none⟩ 1 1 [.string u, .string Y2, .string Y3] rfl rfl ?c1x8 ?c2x8 ?c3x8 ?c4x8 ?c5x8 ?_)
                any_goals first | exact cells3_new _ _ _ _ _ | (intro u' hu'; simp at hu'; rcases hu' with rfl | rfl | rfl <;> rfl) | (unfold maxLen; omega) | omega | (simp; omega)
                intro v7 w7 ho7 hg7 hpl
                clear hpl
                have KF : Fresh w1 w7 := (fq.alloc _).grown hg7 (fun g' hg' hlt' => by have := (hrow.lt g' hg').1; omega)
                have HF : Hid (Row3 w7 w1.heap.size v7 (withAt x (l.take (i + 1)) false)) := by
                  have e : withAt x (l.take (i + 1)) false = withAt x tl false ++ [y] := by
                    unfold withAt
                    rw [HT.out]
                    rfl
                  show w7.ownsRow _ _ _ _ _ _
                  rw [e, List.length_append, List.flatMap_append]
                  have e2 : [y].flatMap enc3 = [.string u, .string Y2, .string Y3] := by rw [List.flatMap_cons, H3.out]; rfl
                  rw [e2]
                  exact ho7
                have HD2 : Hid (DoneIff false x (l.take (i + 1))) := by
                  refine ⟨fun h => (by cases h), fun h => ?_⟩
                  obtain ⟨z, hz, hb2⟩ := h
                  rw [HT.out, List.mem_append] at hz
                  rcases hz with hz | hz
                  · exact HD.out.2 ⟨z, hz, hb2⟩
                  · simp at hz; subst hz; exact absurd hb2 hb
                clear ho7 hg7 HD HRq
                go_wp2_with fail
                go_roundw
                case rel => exact ⟨i + 1, false, by omega, by go_num, rfl, HD2.out, HF.out, KF⟩
                case measure => simp [intOf]; omega
          · have hb : ¬ bef x y := fun h => by
              rcases HB.out.1 h with h | h
              · exact ha1 h
              · exact hu1 h.1
            have hub := beq_false (a := u) (b := Y1) (fun e => hu1 (ba_ext e))
            clear HB ha1 ah2 hu1
            cases dn with
            | true =>
              go_wp2_with fail
              go_quiet ((go_at_call 108; exact Calls.quiet_of (ah1 _)))
              have fq : Fresh w1 (wr.drewN nq) := kk.drewN _
              have HRq : Hid (Row3 (wr.drewN nq) w1.heap.size u5 (withAt x (l.take i) true)) := ((Keeps.refl (fun _ => False) wr).drewN nq).owns HRow.out (fun _ _ e => e)
              have r0 := cell_keeps fq y0.out (fun e => e)
              have r1 := cell_keeps fq y1.out (fun e => e)
              have r2 := cell_keeps fq y2.out (fun e => e)
              have s0 := cell_keeps fq Q0.out (fun e => e)
              have s1 := cell_keeps fq Q1.out (fun e => e)
              have s2 := cell_keeps fq Q2.out (fun e => e)
              have hwq := fq.size
              generalize wr.drewN nq = wq at *
              obtain ⟨tl, htl⟩ : ∃ tl, tl = l.take i := ⟨_, rfl⟩
              have htll : tl.length ≤ i := by rw [htl, List.length_take]; omega
              rw [← htl] at HD HRq HT hwl
              clear p0 p1 p2 q0 q1 q2 HRow kk htl
              have hrow : wq.ownsRow w1.heap.size 67 3 u5 (withAt x tl true).length ((withAt x tl true).flatMap enc3) := HRq.out
              go_wp2_with (at_builtin; refine wpList_append_placed _ rfl _ _ 65 rfl w1.heap.size 67 i0 z0 3 48 Tryz.underlying65 hi hz0 hz1 hz2 hz3 (by decide) _ _ _ rfl (hrow.alloc _) ⟨wq.heap.size, 0, none⟩ 1 1 [.string Y1, .string Y2, .string Y3] rfl rfl ?c1x9 ?c2x9 ?c3x9 ?c4x9 ?c5x9 ?_)
              any_goals first | exact cells3_new _ _ _ _ _ | (intro u' hu'; simp at hu'; rcases hu' with rfl | rfl | rfl <;> rfl) | (unfold maxLen; omega) | omega | (simp; omega)
              intro v7 w7 ho7 hg7 hpl
              clear hpl
              have KF : Fresh w1 w7 := (fq.alloc _).grown hg7 (fun g' hg' hlt' => by have := (hrow.lt g' hg').1; omega)
              have HF : Hid (Row3 w7 w1.heap.size v7 (withAt x (l.take (i + 1)) true)) := by
                have e : withAt x (l.take (i + 1)) true = withAt x tl true ++ [y] := by
                  unfold withAt
                  rw [HT.out]
                  rw [if_pos rfl, if_pos rfl]; exact insL_done x _ _ (HD.out.1 rfl)
                show w7.ownsRow _ _ _ _ _ _
                rw [e, List.length_append, List.flatMap_append]
                have e2 : [y].flatMap enc3 = [.string Y1, .string Y2, .string Y3] := by rw [List.flatMap_cons, H3.out]; rfl
                rw [e2]
                exact ho7
              have HD2 : Hid (DoneIff true x (l.take (i + 1))) := by
                refine ⟨fun _ => ?_, fun _ => rfl⟩
                obtain ⟨z, hz, hb2⟩ := HD.out.1 rfl
                exact ⟨z, by rw [HT.out]; simp [hz], hb2⟩
                
                
                
              clear ho7 hg7 HD HRq
              go_wp2_with fail
              go_roundw
              case rel => exact ⟨i + 1, true, by omega, by go_num, rfl, HD2.out, HF.out, KF⟩
              case measure => simp [intOf]; omega
            | false =>
              go_wp2_with fail
              go_quiet ((go_at_call 108; exact Calls.quiet_of (ah1 _)))
              have fq : Fresh w1 (wr.drewN nq) := kk.drewN _
              have HRq : Hid (Row3 (wr.drewN nq) w1.heap.size u5 (withAt x (l.take i) false)) := ((Keeps.refl (fun _ => False) wr).drewN nq).owns HRow.out (fun _ _ e => e)
              have r0 := cell_keeps fq y0.out (fun e => e)
              have r1 := cell_keeps fq y1.out (fun e => e)
              have r2 := cell_keeps fq y2.out (fun e => e)
              have s0 := cell_keeps fq Q0.out (fun e => e)
              have s1 := cell_keeps fq Q1.out (fun e => e)
              have s2 := cell_keeps fq Q2.out (fun e => e)
              have hwq := fq.size
              generalize wr.drewN nq = wq at *
              obtain ⟨tl, htl⟩ : ∃ tl, tl = l.take i := ⟨_, rfl⟩
              have htll : tl.length ≤ i := by rw [htl, List.length_take]; omega
              rw [← htl] at HD HRq HT hwl
              clear p0 p1 p2 q0 q1 q2 HRow kk htl
              have hrow : wq.ownsRow w1.heap.size 67 3 u5 (withAt x tl false).length ((withAt x tl false).flatMap enc3) := HRq.out
              go_wp2_with (at_builtin; refine wpList_append_placed _ rfl _ _ 65 rfl w1.heap.size 67 i0 z0 3 48 Tryz.underlying65 hi hz0 hz1 hz2 hz3 (by decide) _ _ _ rfl (hrow.alloc _) ⟨wq.heap.size, 0, none⟩ 1 1 [.string Y1, .string Y2, .string Y3] rfl rfl ?c1x10 ?c2x10 ?c3x10 ?c4x10 ?c5x10 ?_)
              any_goals first | exact cells3_new _ _ _ _ _ | (intro u' hu'; simp at hu'; rcases hu' with rfl | rfl | rfl <;> rfl) | (unfold maxLen; omega) | omega | (simp; omega)
              intro v7 w7 ho7 hg7 hpl
              clear hpl
              have KF : Fresh w1 w7 := (fq.alloc _).grown hg7 (fun g' hg' hlt' => by have := (hrow.lt g' hg').1; omega)
              have HF : Hid (Row3 w7 w1.heap.size v7 (withAt x (l.take (i + 1)) false)) := by
                have e : withAt x (l.take (i + 1)) false = withAt x tl false ++ [y] := by
                  unfold withAt
                  rw [HT.out]
                  rfl
                show w7.ownsRow _ _ _ _ _ _
                rw [e, List.length_append, List.flatMap_append]
                have e2 : [y].flatMap enc3 = [.string Y1, .string Y2, .string Y3] := by rw [List.flatMap_cons, H3.out]; rfl
                rw [e2]
                exact ho7
              have HD2 : Hid (DoneIff false x (l.take (i + 1))) := by
                refine ⟨fun h => (by cases h), fun h => ?_⟩
                obtain ⟨z, hz, hb2⟩ := h
                rw [HT.out, List.mem_append] at hz
                rcases hz with hz | hz
                · exact HD.out.2 ⟨z, hz, hb2⟩
                · simp at hz; subst hz; exact absurd hb2 hb
              clear ho7 hg7 HD HRq
              go_wp2_with fail
              go_roundw
              case rel => exact ⟨i + 1, false, by omega, by go_num, rfl, HD2.out, HF.out, KF⟩
              case measure => simp [intOf]; omega
      · have ei : i = l.length := by omega
        subst ei
        have z1' : ¬ (l.length : Int) < (l.length : Int) := by omega
        have eL : l.take l.length = l := List.take_length
        rw [eL] at HD HRow hwl
        cases dn with
        | true =>
          have HF : Hid (Row3 wr w1.heap.size u5 (withL l x)) := by
            show Row3 _ _ _ _
            rw [HE.out]
            exact HRow.out
          go_wp2_with fail
          go_ret
          exact ⟨_, rfl, HF.out.ls, .inr (fun g hg => by have := HF.out.lt g hg; have := k2.size; omega), k2.trans kk⟩
        | false =>
          have HI : Hid (insL x l = l ++ [x]) := by
            have := insL_not x l [] (fun y hy hb => by have := HD.out.2 ⟨y, hy, hb⟩; cases this)
            rw [List.append_nil] at this
            exact this
          have hrow : wr.ownsRow w1.heap.size 67 3 u5 l.length (l.flatMap enc3) := HRow.out
          have HEX : Hid (enc3 x = [.string u, .string k, .string dt]) := by rw [HX.out]; rfl
          clear HD
          go_wp2_with (at_builtin; refine wpList_append_placed _ rfl _ _ 65 rfl w1.heap.size 67 i0 z0 3 48 Tryz.underlying65 hi hz0 hz1 hz2 hz3 (by decide) _ _ _ rfl (hrow.alloc _) ⟨wr.heap.size, 0, none⟩ 1 1 [.string u, .string k, .string dt] rfl rfl ?c1x11 ?c2x11 ?c3x11 ?c4x11 ?c5x11 ?_)
          any_goals first | exact cells3_new _ _ _ _ _ | exact ⟨rfl, rfl, rfl⟩ | (intro u' hu'; simp at hu'; rcases hu' with rfl | rfl | rfl <;> rfl) | (unfold maxLen; omega) | omega | (simp; omega)
          intro v6 w6 ho6 hg6 hpl
          clear hpl
          have HF : Hid (Row3 w6 w1.heap.size v6 (withL l x)) := by
            show w6.ownsRow _ _ _ _ _ _
            rw [HE.out, HI.out, List.length_append, List.flatMap_append]
            have e : [x].flatMap enc3 = [.string u, .string k, .string dt] := by rw [List.flatMap_cons, HEX.out]; rfl
            rw [e]
            exact ho6
          have k6 : Fresh w1 w6 := (kk.alloc _).grown hg6 (fun g' hg' hlt' => by have := (hrow.lt g' hg').1; omega)
          clear ho6 hg6 hrow
          go_wp2_with fail
          go_ret
          exact ⟨_, rfl, HF.out.ls, .inr (fun g hg => by have := HF.out.lt g hg; have := k2.size; omega), k2.trans k6⟩

end Go.Proofs.YtegbkpjcjlihmabGreatDoor
