/-
  The spool's do: writes, up to the first one that is refused. | drop: a mail is taken away of which nobody is left.
-/
import Derived.Test.YtegbkpjcjlihmabGreatDoorGt
import Derived.Test.YtegbkpjcjlihmabGreatDoorGk
namespace Go.Proofs.YtegbkpjcjlihmabGreatDoor
open Go.RowKit Go.Maps

/-- what do does: b: it was dead ahead, b': it is dead behind -/
def sdo (Rs : List Rel) (b : Bool) (σ : Dk) (b' : Bool) (σ' : Dk) : Prop := (b = true ∧ b' = true ∧ σ' = σ) ∨ (b = false ∧ ∃ k : Int, runs Rs σ k σ' ∧ ((b' = false ∧ k = 0) ∨ (b' = true ∧ k ≠ 0)))

/-- how far do is -/
def sdoing (Rs : List Rel) (i : Nat) (b : Bool) (σ : Dk) (b' : Bool) (σ' : Dk) : Prop := (b' = true ∧ sdo Rs b σ b' σ') ∨ (b' = false ∧ b = false ∧ oks (Rs.take i) σ σ')

/-- a spool's block -/
def spoolCells (d : Nat) (last : Value) (waits : Value) (b : Bool) : Obj := .cells #[ptr d, last, waits, .bool b] 122 (0, 0)

theorem ext_set {A : Nat → Prop} {a b : World} (p : Addr) (v : Value) : ext A a (b.setCell p v) = ext A a b := by
  unfold ext
  simp [World.setCell]

/-- what stands behind do -/
def SDone (w w0 : World) (A : Nat → Prop) (d s : Nat) (K : List Text) (C L : Nat) (lv mv : Value) (Rs : List Rel) (b : Bool) (σ : Dk) (e : Ending) (w' : World) : Prop :=
  ∃ b' σ', e = .returned (.int .i64 (if b' = true then 6 else 0)) ∧ sdo Rs b σ b' σ' ∧ Live w w' (ext A w0 w') d K C L σ' ∧ w'.heap[s]? = some (spoolCells d lv mv b') ∧ Keeps (fun i => A i ∨ i = s) w0 w'

section
variable {w w0 : World} {A : Nat → Prop} {d s : Nat} {σ : Dk} {K : List Text} {C L : Nat} {B : Nat → Prop}

set_option maxHeartbeats 4000000 in
set_option maxRecDepth 100000 in
theorem sdo_any (h : Live w w0 A d K C L σ) (lv mv : Value) (b : Bool) (hsp : w0.heap[s]? = some (spoolCells d lv mv b)) (hsA : ¬ A s) (hsw : w.heap.size ≤ s) (hB : ∀ k, B k → ¬ A k ∧ k ≠ s ∧ k < w0.heap.size) (base : Nat) (v : Value) (vals : List Value) (Rs : List Rel) (ms : List Nat) (hrow : w0.ownsRow base 128 1 v vals.length vals)
    (hown : ∀ k, v.ownBlock = some k → B k) (hl1 : Rs.length = vals.length) (hl2 : ms.length = vals.length) (hdo : ∀ (i : Nat) v R m, vals[i]? = some v → Rs[i]? = some R → ms[i]? = some m → DoesW w d K B w0 v R m)
    (hC : C + vals.length ≤ 1099511627776) (hL : L + ms.sum ≤ 1099511627776) :
    Calls Tryz.prog 52 #[ptr s, v] w0 (SDone w w0 A d s K (C + vals.length) (L + ms.sum) lv mv Rs b σ) := by
  obtain ⟨ao, cap, rfl, hc1, hc2, hao⟩ := own_form hrow
  unfold maxLen at hc1
  have hsl := heap_lt hsp
  have Hsp : Hid (w0.heap[s]? = some (spoolCells d lv mv b)) := hsp
  have Hrow : Hid (w0.ownsRow base 128 1 (.slice ao vals.length cap) vals.length vals) := hrow
  have H : Hid (Live w w0 A d K C L σ) := h
  have Hdo : Hid (∀ (i : Nat) v R m, vals[i]? = some v → Rs[i]? = some R → ms[i]? = some m → DoesW w d K B w0 v R m) := hdo
  have Hl : Hid (Rs.length = vals.length ∧ ms.length = vals.length) := ⟨hl1, hl2⟩
  have HsA : Hid (¬ A s) := hsA
  clear h hrow hdo hl1 hl2 hsp hsA
  unfold ptr at *
  go_enter Tryz.func52, Tryz.ntmps52
  go_wp2_with fail
  go_loopw [9] (fun t9 wr => ∃ (i : Nat) (σ1 : Dk) (bb : Bool), i ≤ vals.length ∧ t9 = .int .i64 i ∧ sdoing Rs i b σ bb σ1 ∧ Live w wr (ext A w0 wr) d K (C + i) (L + (ms.take i).sum) σ1 ∧ wr.heap[s]? = some (spoolCells d lv mv bb) ∧ Keeps (fun i => A i ∨ i = s) w0 wr) (fun t9 _ => vals.length - (intOf t9).toNat)
  case atStart =>
    refine ⟨0, σ, b, Nat.zero_le _, rfl, ?_, ?_, Hsp.out, Keeps.refl _ _⟩
    · cases b with
      | true => exact .inl ⟨rfl, .inl ⟨rfl, rfl, rfl⟩⟩
      | false => exact .inr ⟨rfl, rfl, rfl⟩
    · rw [ext_same rfl]; exact H.out
  case round =>
    obtain ⟨i, σ1, bb, hi, rfl, ho, hl, hs, kk⟩ := hrel
    have HO : Hid (sdoing Rs i b σ bb σ1) := ho
    have HLv : Hid (Live w wr (ext A w0 wr) d K (C + i) (L + (ms.take i).sum) σ1) := hl
    have Hs : Hid (wr.heap[s]? = some (spoolCells d lv mv bb)) := hs
    have cs : wr.cell? ⟨s, 3, none⟩ = some (.bool bb) := (mcells hs).2.2.2.1
    clear ho hl hs
    have hsum := sum_take_le ms i
    by_cases hlt : i < vals.length
    · obtain ⟨g, rfl⟩ := hao (by omega)
      obtain ⟨v, hv⟩ : ∃ v, vals[i]? = some v := ⟨vals[i], List.getElem?_eq_getElem hlt⟩
      obtain ⟨R, hR⟩ : ∃ R, Rs[i]? = some R := ⟨Rs[i]'(by rw [Hl.out.1]; exact hlt), List.getElem?_eq_getElem _⟩
      obtain ⟨m, hm⟩ : ∃ m, ms[i]? = some m := ⟨ms[i]'(by rw [Hl.out.2]; exact hlt), List.getElem?_eq_getElem _⟩
      have hcell := own_cell (kk.owns Hrow.out (fun k hk e => e.elim (hB k (hown k hk)).1 (hB k (hown k hk)).2.1)) i v hv
      have hd := Hdo.out i v R m hv hR hm
      have hs1 := sum_take_succ ms i m hm
      have hs2 := sum_take_le ms (i + 1)
      have HB : Hid (∀ k, B k → wr.heap[k]? = w0.heap[k]?) := fun k hk => kk.block k (hB k hk).2.2 (fun e => e.elim (hB k hk).1 (hB k hk).2.1)
      have HR : Hid (Rs[i]? = some R) := hR
      have Hs1 : Hid ((ms.take (i + 1)).sum = (ms.take i).sum + m) := hs1
      have hc' : C + i ≤ 1099511627776 := by omega
      have hl' : L + (ms.take i).sum ≤ 1099511627776 := by omega
      clear hv hR hm hs1 hs2
      have z1 : (0 : Int) ≤ (i : Int) := by omega
      have z2 : (i : Int) < (vals.length : Int) := by omega
      cases bb with
      | true =>
        rcases hd with ⟨f, p, q, rfl, -⟩ | ⟨f, p, q, r, rfl, -⟩ | ⟨f, rfl, -⟩
        all_goals (
          unfold ptr at *
          go_wp2_with fail
          go_ret
          refine ⟨true, σ1, rfl, ?_, HLv.out.mono (by omega) (by omega), Hs.out, kk⟩
          rcases HO.out with h1 | h1
          · exact h1.2
          · exact absurd h1.1 (by decide))
      | false =>
        have hoks : b = false ∧ oks (Rs.take i) σ σ1 := by
          rcases HO.out with h1 | h1
          · exact absurd h1.1 (by decide)
          · exact h1.2
        have HOK : Hid (b = false ∧ oks (Rs.take i) σ σ1) := hoks
        clear hoks HO
        rcases hd with ⟨f, p, q, rfl, eg, hca⟩ | ⟨f, p, q, r, rfl, eg, hca⟩ | ⟨f, rfl, eg, hca⟩
        all_goals (
          have hca' := hca wr _ _ _ _ HLv.out hc' hl' HB.out
          clear hca
          unfold ptr at *
          go_wp2_with fail
          refine hca'.mono ?_
          rintro e w1 ⟨k, σ2, rfl, hr, lv1, k1⟩
          have hs5 : w1.heap[s]? = some (spoolCells d lv mv false) := k1.heap Hs.out (ext_not HsA.out hsl)
          have c5 := (mcells hs5).2.2.2.1
          have f5 := (mcells hs5).2.2.2.2.2.2.2
          have HV : Hid (∀ x, Live w (w1.setCell ⟨s, 3, none⟩ x) (ext A w0 (w1.setCell ⟨s, 3, none⟩ x)) d K (C + (i + 1)) (L + (ms.take (i + 1)).sum) σ2) := fun x => by
            rw [ext_set, Hs1.out, ← ext_ext kk.size k1.size]
            refine Live.side (S := fun i => i = s) (lv1.mono (by omega) (by omega)) ((Keeps.refl (fun i => i = s) w1).setCell (p := ⟨s, 3, none⟩) (fun _ => rfl) _) (fun j hj e => ?_) (fun j e => by omega)
            rw [ext_ext kk.size k1.size, e] at hj
            exact ext_not HsA.out hsl hj
          have KK : Hid (∀ x, Keeps (fun i => A i ∨ i = s) w0 (w1.setCell ⟨s, 3, none⟩ x)) := fun x => (kk.then k1 (fun j hj e => .inl (e.elim (fun e => e) (fun e => by omega)))).setCell (p := ⟨s, 3, none⟩) (fun _ => .inr rfl) _
          have HS5 : Hid (∀ x : Bool, (w1.setCell ⟨s, 3, none⟩ (.bool x)).heap[s]? = some (spoolCells d lv mv x)) := fun x => heap_setCell_at hs5 3 _
          clear lv1 hca' hs5 k1
          by_cases hk : k = 0
          · subst hk
            have HO2 : Hid (oks (Rs.take (i + 1)) σ σ2) := oks_snoc Rs i σ σ1 σ2 R HOK.out.2 HR.out hr
            clear hr
            go_wp2_with fail
            go_roundw
            case rel => exact ⟨i + 1, σ2, false, by omega, by go_num, .inr ⟨rfl, HOK.out.1, HO2.out⟩, HV.out _, HS5.out _, KK.out _⟩
            case measure => simp [intOf]; omega
          · have HRn : Hid (runs Rs σ k σ2) := runs_stop Rs i σ σ1 σ2 R k HOK.out.2 HR.out hr hk
            have hk' : (k == 0) = false := beq_eq_false_iff_ne.2 hk
            have hk2 : Hid ((k != 0) = true) := bne_iff_ne.2 hk
            clear hr
            go_wp2_with fail
            go_roundw
            case rel => exact ⟨i + 1, σ2, true, by omega, by go_num, .inl ⟨rfl, .inr ⟨HOK.out.1, k, HRn.out, .inr ⟨rfl, hk⟩⟩⟩, HV.out _, (by have := HS5.out (k != 0); rw [hk2.out] at this ⊢; exact this), KK.out _⟩
            case measure => simp [intOf]; omega)
    · have ei : i = vals.length := by omega
      subst ei
      have z2 : ¬ (vals.length : Int) < (vals.length : Int) := by omega
      have e1 : Rs.take vals.length = Rs := List.take_of_length_le (by rw [Hl.out.1]; exact Nat.le_refl _)
      have e2 : ms.take vals.length = ms := List.take_of_length_le (by rw [Hl.out.2]; exact Nat.le_refl _)
      have HF : Hid (sdo Rs b σ bb σ1) := by
        rcases HO.out with h1 | h1
        · exact h1.2
        · have h2 := h1.2.2
          rw [e1] at h2
          exact .inr ⟨h1.2.1, 0, runs_oks Rs σ σ1 h2, .inl ⟨h1.1, rfl⟩⟩
      have HL2 : Hid (Live w wr (ext A w0 wr) d K (C + vals.length) (L + ms.sum) σ1) := by
        have h2 := HLv.out
        rw [e2] at h2
        exact h2
      clear e1 e2 HO HLv
      cases bb
      all_goals (
        go_wp2_with fail
        go_ret
        exact ⟨_, σ1, rfl, HF.out, HL2.out, Hs.out, kk⟩)

end
end Go.Proofs.YtegbkpjcjlihmabGreatDoor

namespace Go.Proofs.YtegbkpjcjlihmabGreatDoor
open Go.RowKit Go.Maps

def mailNoB : ByteArray := ⟨#[115, 112, 111, 111, 108, 47, 109, 97, 105, 108, 47]⟩

/-- a row that was just built -/
theorem row_built (W : World) (T : TypeId) (vals : List Value) (n : Nat) (hl : vals.length = n) (hn : n ≤ 1048576) : (W.alloc (.cells vals.toArray T)).ownsRow W.heap.size T 1 (.slice (some ⟨W.heap.size, 0, none⟩) n n) n vals := by
  refine ⟨by simp [hl], .inr ⟨W.heap.size, n, vals.toArray, rfl, Nat.le_refl _, heap_new _ _, Nat.le_refl _, by unfold maxLen; omega, by simp [hl], by simp [← hl]⟩⟩

section
variable {w w0 : World} {A : Nat → Prop} {d s : Nat} {σ : Dk} {K : List Text} {C L : Nat}

/-- do, seen from an elder world -/
theorem SDone.elder {w3 w' : World} {lv mv : Value} {Rs : List Rel} {b : Bool} {e : Ending} (h : SDone w w3 A d s K C L lv mv Rs b σ e w') (h3 : Live w w3 A d K C L σ) (k : Fresh w0 w3) (hA : ∀ i, A i → i < w0.heap.size) (hw : w.heap.size ≤ w0.heap.size) : SDone w w0 A d s K C L lv mv Rs b σ e w' := by
  obtain ⟨b', σ', e1, e2, h2, e4, k4⟩ := h
  have s1 := k.size
  have s2 := k4.size
  refine ⟨b', σ', e1, e2, h2.grow (fun i hi => ?_) (fun i hi => ?_), e4, k.ofFresh.trans k4⟩
  · rcases hi with hi | hi
    · exact .inl hi
    · exact .inr ⟨by omega, hi.2⟩
  · rcases hi with hi | hi
    · exact ⟨(h3.1 i hi).1, by have := hA i hi; omega⟩
    · exact ⟨by omega, hi.2⟩

theorem do_drop (h : Live w w0 A d K C L σ) (lv mv : Value) (b : Bool) (hsp : w0.heap[s]? = some (spoolCells d lv mv b)) (hsA : ¬ A s) (hsw : w.heap.size ≤ s) (N : ByteArray) (hN : N.size ≤ maxLen) (hK : K.length ≤ 1099511627776) (hC : C + 2 ≤ 1099511627776) (hL : L ≤ 1099511627776) (w1 : World) (k1 : Fresh w0 w1) :
    Calls Tryz.prog 52 #[ptr s, .slice (some ⟨w1.heap.size + 2, 0, none⟩) 2 2] (((w1.alloc (.cells #[meth 91 d] 48)).alloc (.cells #[.string N] 9)).alloc (.cells #[.func (.func 94) #[] #[ptr w1.heap.size, ptr (w1.heap.size + 1)], meth 36 d] 128))
      (SDone w w0 A d s K (C + 2) L lv mv [fun σ k σ' => σ.removes N.data.toList k σ', fun σ k σ' => σ.syncsDir k σ'] b σ) := by
  have ka : Fresh w1 (w1.alloc (.cells #[meth 91 d] 48)) := (Keeps.refl _ _).alloc _
  have kb : Fresh (w1.alloc (.cells #[meth 91 d] 48)) ((w1.alloc (.cells #[meth 91 d] 48)).alloc (.cells #[.string N] 9)) := (Keeps.refl _ _).alloc _
  have kc : Fresh ((w1.alloc (.cells #[meth 91 d] 48)).alloc (.cells #[.string N] 9)) (((w1.alloc (.cells #[meth 91 d] 48)).alloc (.cells #[.string N] 9)).alloc (.cells #[.func (.func 94) #[] #[ptr w1.heap.size, ptr (w1.heap.size + 1)], meth 36 d] 128)) := (Keeps.refl _ _).alloc _
  have ea : (w1.alloc (.cells #[meth 91 d] 48)).heap.size = w1.heap.size + 1 := by simp
  have eb : ((w1.alloc (.cells #[meth 91 d] 48)).alloc (.cells #[.string N] 9)).heap.size = w1.heap.size + 2 := by simp
  have ec : (((w1.alloc (.cells #[meth 91 d] 48)).alloc (.cells #[.string N] 9)).alloc (.cells #[.func (.func 94) #[] #[ptr w1.heap.size, ptr (w1.heap.size + 1)], meth 36 d] 128)).heap.size = w1.heap.size + 3 := by simp
  have hp := kc.heap (kb.heap (heap_new w1 (.cells #[meth 91 d] 48)) (fun e => e)) (fun e => e)
  have hq := kc.heap (heap_new (w1.alloc (.cells #[meth 91 d] 48)) (.cells #[.string N] 9)) (fun e => e)
  rw [ea] at hq
  have hrow := row_built ((w1.alloc (.cells #[meth 91 d] 48)).alloc (.cells #[.string N] 9)) 128 [.func (.func 94) #[] #[ptr w1.heap.size, ptr (w1.heap.size + 1)], meth 36 d] 2 rfl (by omega)
  rw [eb] at hrow
  have kk : Fresh w0 (((w1.alloc (.cells #[meth 91 d] 48)).alloc (.cells #[.string N] 9)).alloc (.cells #[.func (.func 94) #[] #[ptr w1.heap.size, ptr (w1.heap.size + 1)], meth 36 d] 128)) := ((k1.trans ka).trans kb).trans kc
  have s1 := k1.size
  have hsl := heap_lt hsp
  have hA : ∀ i, A i → i < w0.heap.size := fun i hi => (h.1 i hi).2
  have h3 := h.fresh kk
  have hsp3 := kk.heap hsp (fun e => e)
  generalize ((w1.alloc (.cells #[meth 91 d] 48)).alloc (.cells #[.string N] 9)).alloc (.cells #[.func (.func 94) #[] #[ptr w1.heap.size, ptr (w1.heap.size + 1)], meth 36 d] 128) = w3 at *
  refine (sdo_any h3 lv mv b hsp3 hsA hsw (B := fun k => w1.heap.size ≤ k ∧ k < w3.heap.size) (fun k hk => ⟨fun e => by have := hA k e; omega, by omega, hk.2⟩) (w1.heap.size + 2) _ [.func (.func 94) #[] #[ptr w1.heap.size, ptr (w1.heap.size + 1)], meth 36 d]
    [fun σ k σ' => σ.removes N.data.toList k σ', fun σ k σ' => σ.syncsDir k σ'] [0, 0] hrow (fun k hk => ⟨by have := (hrow.lt k hk).1; omega, (hrow.lt k hk).2⟩) rfl rfl (fun i v R m h1 h2 h3 => ?_) (by simpa using hC) (by simpa using hL)).mono ?_
  · match i, h1, h2, h3 with
    | 0, h1, h2, h3 =>
      simp at h1 h2 h3
      subst h1 h2 h3
      exact doesW_remove hp ⟨Nat.le_refl _, by omega⟩ hq ⟨by omega, by omega⟩ hN hK
    | 1, h1, h2, h3 =>
      simp at h1 h2 h3
      subst h1 h2 h3
      exact doesW_syncDir hK
  · intro e w' hd
    have hd' : SDone w w3 A d s K (C + 2) L lv mv [fun σ k σ' => σ.removes N.data.toList k σ', fun σ k σ' => σ.syncsDir k σ'] b σ e w' := hd
    exact hd'.elder (h3.mono (by omega) (Nat.le_refl _)) kk hA h.2.2.2.size

/-- what stands behind drop -/
def Dropped (w w0 : World) (A : Nat → Prop) (d s mw n : Nat) (K : List Text) (C L : Nat) (lv : Value) (M : Waits) (id : Int) (b : Bool) (σ : Dk) (e : Ending) (w' : World) : Prop :=
  ∃ b' σ', e = .returned (.int .i64 (if b' = true then 6 else 0)) ∧ sdo [fun σ k σ' => σ.removes (numName mailNoB.data.toList id) k σ', fun σ k σ' => σ.syncsDir k σ'] b σ b' σ' ∧ Live w w' (ext A w0 w') d K C L σ' ∧ w'.heap[s]? = some (spoolCells d lv (.map (some mw)) b') ∧
    WaitsAt w' mw n (if b' = true then M else delW M id) ∧ Keeps (fun i => A i ∨ i = s ∨ i = mw) w0 w'

set_option maxHeartbeats 2000000 in
set_option maxRecDepth 20000 in
theorem drop_any (h : Live w w0 A d K C L σ) (hG : Gl w) (lv : Value) (mw n : Nat) (M : Waits) (b : Bool) (hsp : w0.heap[s]? = some (spoolCells d lv (.map (some mw)) b)) (hsA : ¬ A s) (hsw : w.heap.size ≤ s) (hwt : WaitsAt w0 mw n M) (hmA : ¬ A mw) (hmw : w.heap.size ≤ mw) (hms : mw ≠ s)
    (id : Int) (hid : okI id) (hK : K.length ≤ 1099511627776) (hC : C + 2 ≤ 1099511627776) (hL : L ≤ 1099511627776) :
    Calls Tryz.prog 109 #[ptr s, .int .i64 id] w0 (Dropped w w0 A d s mw n K (C + 2) L lv M id b σ) := by
  have hnum := numbered_any mailNoB id w0 (hG.fresh h.2.2.2) (by decide) hid.1 hid.2
  obtain ⟨N, hN⟩ : ∃ N, N = numB mailNoB id := ⟨_, rfl⟩
  have hNs : N.size ≤ maxLen := by
    have := Lib.itoa_length_le id hid.1 hid.2
    rw [hN]
    show (numName mailNoB.data.toList id).length ≤ maxLen
    unfold numName maxLen
    rw [List.length_append]
    have : mailNoB.data.toList.length = 11 := rfl
    omega
  have HN : Hid (N.data.toList = numName mailNoB.data.toList id) := by rw [hN]; rfl
  rw [← hN] at hnum
  have hdo := do_drop h lv (.map (some mw)) b hsp hsA hsw N hNs hK hC hL
  rw [HN.out] at hdo
  obtain ⟨c0, c1, c2, c3, _, _, _, _⟩ := mcells hsp
  have hml := hwt.lt
  have Hwt : Hid (WaitsAt w0 mw n M) := hwt
  have HA : Hid (¬ A mw) := hmA
  clear h hN hNs hsp hwt hmA
  unfold ptr meth mailNoB at *
  go_enter Tryz.func109, Tryz.ntmps109
  go_wp2_with fail
  refine hnum.mono ?_
  rintro e w1 ⟨rfl, k1⟩
  have hdo' := hdo w1 k1
  have hone := one_any 91 d N w1
  clear hnum hdo
  unfold ptr meth at *
  go_wp2_with fail
  refine hone.mono ?_
  rintro e w2 ⟨rfl, rfl⟩
  clear hone
  go_wp2_with fail
  refine hdo'.mono ?_
  rintro e w4 ⟨b', σ', rfl, hs, hl, hsp4, k4⟩
  clear hdo' c0 c1 c2 c3
  have c4 := (mcells hsp4).2.2.1
  have W4 := k4.waitsAt Hwt.out (fun e => e.elim HA.out hms)
  have HW4 : Hid (WaitsAt w4 mw n M) := W4
  have HF : Hid (sdo [fun σ k σ' => σ.removes (numName mailNoB.data.toList id) k σ', fun σ k σ' => σ.syncsDir k σ'] b σ b' σ' ∧ Live w w4 (ext A w0 w4) d K (C + 2) L σ' ∧ w4.heap[s]? = some (spoolCells d lv (.map (some mw)) b')) := ⟨hs, hl, hsp4⟩
  clear hs hl hsp4
  cases b' with
  | true =>
    clear W4
    go_wp2_with fail
    go_ret
    exact ⟨true, σ', rfl, HF.out.1, HF.out.2.1, HF.out.2.2, HW4.out, k4.mono (fun i _ e => e.elim .inl (fun e => .inr (.inl e)))⟩
  | false =>
    obtain ⟨D, ho, hk⟩ := W4
    have HKk : Hid (∀ i, okI i → has D (.int .i64 i) = (M i).isSome ∧ ∀ x, M i = some x → D.atKey (.int .i64 i) .nil = .held x) := hk
    have hkey := keyI_at id hid
    clear hk
    go_wp2_with (at_delete; refine wpList_delete_own _ rfl _ _ 120 3 rfl 134 law3 Tryz.underlying120 _ mw n D rfl ho _ _ rfl hkey ?_; intro w5 ho5 ht5)
    have k5 := turned_keeps ht5
    have es5 := turned_size ht5
    have hl5 : Live w w5 (ext A w0 w5) d K (C + 2) L σ' := by
      have e1 : ext A w0 w5 = ext A w0 w4 := by unfold ext; rw [es5]
      rw [e1]
      exact HF.out.2.1.side k5 (fun i hi e => by rw [e] at hi; exact ext_not HA.out hml hi) (fun i e => by omega)
    have hs5 := k5.heap HF.out.2.2 (fun e => hms e.symm)
    have hW5 : WaitsAt w5 mw n (delW M id) := by
      refine ⟨_, ho5, fun j hj => ?_⟩
      unfold delW
      by_cases e : j = id
      · subst e
        rw [if_pos rfl, has_del_same]
        exact ⟨rfl, fun y hy => by cases hy⟩
      · rw [if_neg e, has_del_other (intKey_ne e), atKey_del_other (intKey_ne e)]
        exact HKk.out j hj
    have K5 : Keeps (fun i => A i ∨ i = s ∨ i = mw) w0 w5 := (k4.mono (fun i _ e => e.elim .inl (fun e => .inr (.inl e)))).then k5 (fun i _ e => .inr (.inr e))
    have HE : Hid (Live w w5 (ext A w0 w5) d K (C + 2) L σ' ∧ w5.heap[s]? = some (spoolCells d lv (.map (some mw)) false) ∧ WaitsAt w5 mw n (delW M id) ∧ Keeps (fun i => A i ∨ i = s ∨ i = mw) w0 w5) := ⟨hl5, hs5, hW5, K5⟩
    clear hl5 hs5 hW5 K5 k5 es5 ht5 ho5 ho
    go_wp2_with fail
    go_ret
    exact ⟨false, σ', rfl, HF.out.1, HE.out.1, HE.out.2.1, HE.out.2.2.1, HE.out.2.2.2⟩

end
end Go.Proofs.YtegbkpjcjlihmabGreatDoor
