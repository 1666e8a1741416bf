/-
  Steps: functions that write to the disk, in a list; 'do' makes them.
-/
import Derived.Test.YtegbkpjcjlihmabGreatDoorLiv
import Derived.Test.YtegbkpjcjlihmabGreatDoorBxb
namespace Go.Proofs.YtegbkpjcjlihmabGreatDoor
open Go.RowKit Go.Maps

abbrev Rel := Dk → Int → Dk → Prop

/-- one behind the other, up to the first one that is refused -/
def runs : List Rel → Dk → Int → Dk → Prop
  | [], σ, e, σ' => e = 0 ∧ σ' = σ
  | R :: Rs, σ, e, σ' => ∃ k σ1, R σ k σ1 ∧ ((k = 0 ∧ runs Rs σ1 e σ') ∨ (k ≠ 0 ∧ e = k ∧ σ' = σ1))

/-- all are answered by OK -/
def oks : List Rel → Dk → Dk → Prop
  | [], σ, σ' => σ' = σ
  | R :: Rs, σ, σ' => ∃ σ1, R σ 0 σ1 ∧ oks Rs σ1 σ'

theorem runs_oks : ∀ (Rs : List Rel) (σ σ' : Dk), oks Rs σ σ' → runs Rs σ 0 σ'
  | [], _, _, h => ⟨rfl, h⟩
  | _ :: Rs, _, _, ⟨σ1, h1, h2⟩ => ⟨0, σ1, h1, .inl ⟨rfl, runs_oks Rs _ _ h2⟩⟩

theorem runs_stop : ∀ (Rs : List Rel) (i : Nat) (σ σ1 σ2 : Dk) (R : Rel) (k : Int), oks (Rs.take i) σ σ1 → Rs[i]? = some R → R σ1 k σ2 → k ≠ 0 → runs Rs σ k σ2
  | [], i, _, _, _, _, _, _, h, _, _ => by simp at h
  | R0 :: Rs, 0, σ, σ1, σ2, R, k, h, hR, hr, hk => by
    simp only [List.take_zero, oks] at h
    simp only [List.getElem?_cons_zero, Option.some.injEq] at hR
    subst h hR
    exact ⟨k, σ2, hr, .inr ⟨hk, rfl, rfl⟩⟩
  | R0 :: Rs, i + 1, σ, σ1, σ2, R, k, ⟨σ0, h1, h2⟩, hR, hr, hk =>
    ⟨0, σ0, h1, .inl ⟨rfl, runs_stop Rs i σ0 σ1 σ2 R k h2 (by simpa using hR) hr hk⟩⟩

theorem oks_snoc : ∀ (Rs : List Rel) (i : Nat) (σ σ1 σ2 : Dk) (R : Rel), oks (Rs.take i) σ σ1 → Rs[i]? = some R → R σ1 0 σ2 → oks (Rs.take (i + 1)) σ σ2
  | [], i, _, _, _, _, _, h, _ => by simp at h
  | R0 :: Rs, 0, σ, σ1, σ2, R, h, hR, hr => by
    simp only [List.take_zero, oks] at h
    simp only [List.getElem?_cons_zero, Option.some.injEq] at hR
    subst h hR
    exact ⟨σ2, hr, by simp [oks]⟩
  | R0 :: Rs, i + 1, σ, σ1, σ2, R, ⟨σ0, h1, h2⟩, hR, hr =>
    ⟨σ0, h1, oks_snoc Rs i σ0 σ1 σ2 R h2 (by simpa using hR) hr⟩

/-- a function f, called with xs, does R to the disk; the blocks of B are as in w0 -/
def Runs (w : World) (d : Nat) (K : List Text) (B : Nat → Prop) (w0 : World) (R : Rel) (m f : Nat) (xs : Array Value) : Prop :=
  (∀ args w, (callFunc f args).run Tryz.prog w = .ok (.enter f args) w) ∧
  ∀ (wr : World) (A : Nat → Prop) (C L : Nat) (σ : Dk), Live w wr A d K C L σ → C ≤ 1099511627776 → L ≤ 1099511627776 → (∀ k, B k → wr.heap[k]? = w0.heap[k]?) →
    Calls Tryz.prog f xs wr fun e w' => ∃ k σ', e = .returned (.int .i64 k) ∧ R σ k σ' ∧ Live w w' (ext A wr w') d K (C + 1) (L + m) σ' ∧ Keeps A wr w'

/-- a function value that does so -/
def Does (w : World) (d : Nat) (K : List Text) (B : Nat → Prop) (w0 : World) (v : Value) (R : Rel) (m : Nat) : Prop :=
  (∃ f p, v = .func (.func f) #[] #[ptr p] ∧ Runs w d K B w0 R m f #[ptr p]) ∨ (∃ f p q, v = .func (.func f) #[] #[ptr p, ptr q] ∧ Runs w d K B w0 R m f #[ptr p, ptr q]) ∨
    (∃ f, v = .func (.func f) #[ptr d] #[] ∧ Runs w d K B w0 R m f #[ptr d])

section
variable {w w0 : World} {A : Nat → Prop} {d : Nat} {σ : Dk} {K : List Text} {C L : Nat} {B : Nat → Prop}

theorem sum_take_succ (l : List Nat) (i m : Nat) (h : l[i]? = some m) : (l.take (i + 1)).sum = (l.take i).sum + m := by
  rw [List.take_add_one, h]
  simp

theorem sum_take_le (l : List Nat) (i : Nat) : (l.take i).sum ≤ l.sum := by
  have := List.take_append_drop i l
  have h2 : (l.take i ++ l.drop i).sum = l.sum := by rw [this]
  rw [List.sum_append] at h2
  omega

set_option maxHeartbeats 4000000 in
set_option maxRecDepth 100000 in
theorem steps_any (h : Live w w0 A d K C L σ) (hB : ∀ k, B k → ¬ A k ∧ k < w0.heap.size) (base : Nat) (v : Value) (vals : List Value) (Rs : List Rel) (ms : List Nat) (hrow : w0.ownsRow base 92 1 v vals.length vals)
    (hown : ∀ k, v.ownBlock = some k → B k) (hl1 : Rs.length = vals.length) (hl2 : ms.length = vals.length) (hdo : ∀ (i : Nat) v R m, vals[i]? = some v → Rs[i]? = some R → ms[i]? = some m → Does w d K B w0 v R m)
    (hC : C + vals.length ≤ 1099511627776) (hL : L + ms.sum ≤ 1099511627776) :
    Calls Tryz.prog 73 #[v] w0 fun e w' => ∃ k σ', e = .returned (.int .i64 k) ∧ runs Rs σ k σ' ∧ Live w w' (ext A w0 w') d K (C + vals.length) (L + ms.sum) σ' ∧ Keeps A w0 w' := by
  obtain ⟨ao, cap, rfl, hc1, hc2, hao⟩ := own_form hrow
  unfold maxLen at hc1
  have Hrow : Hid (w0.ownsRow base 92 1 (.slice ao vals.length cap) vals.length vals) := hrow
  have H : Hid (Live w w0 A d K C L σ) := h
  have Hdo : Hid (∀ (i : Nat) v R m, vals[i]? = some v → Rs[i]? = some R → ms[i]? = some m → Does w d K B w0 v R m) := hdo
  have Hl : Hid (Rs.length = vals.length ∧ ms.length = vals.length) := ⟨hl1, hl2⟩
  clear h hrow hdo hl1 hl2
  go_enter Tryz.func73, Tryz.ntmps73
  go_wp2_with fail
  go_loopw [8] (fun t8 wr => ∃ (i : Nat) (σ1 : Dk), i ≤ vals.length ∧ t8 = .int .i64 i ∧ oks (Rs.take i) σ σ1 ∧ Live w wr (ext A w0 wr) d K (C + i) (L + (ms.take i).sum) σ1 ∧ Keeps A w0 wr) (fun t8 _ => vals.length - (intOf t8).toNat)
  case atStart =>
    refine ⟨0, σ, Nat.zero_le _, rfl, rfl, ?_, Keeps.refl _ _⟩
    rw [ext_same rfl]; exact H.out
  case round =>
    obtain ⟨i, σ1, hi, rfl, ho, hl, kk⟩ := hrel
    have HO : Hid (oks (Rs.take i) σ σ1) := ho
    have HLv : Hid (Live w wr (ext A w0 wr) d K (C + i) (L + (ms.take i).sum) σ1) := hl
    clear ho hl
    by_cases hlt : i < vals.length
    · obtain ⟨g, rfl⟩ := hao (by omega)
      obtain ⟨v, hv⟩ : ∃ v, vals[i]? = some v := ⟨vals[i], List.getElem?_eq_getElem hlt⟩
      obtain ⟨R, hR⟩ : ∃ R, Rs[i]? = some R := ⟨Rs[i]'(by rw [Hl.out.1]; exact hlt), List.getElem?_eq_getElem _⟩
      obtain ⟨m, hm⟩ : ∃ m, ms[i]? = some m := ⟨ms[i]'(by rw [Hl.out.2]; exact hlt), List.getElem?_eq_getElem _⟩
      have hcell := own_cell (kk.owns Hrow.out (fun k hk => (hB k (hown k hk)).1)) i v hv
      have hd := Hdo.out i v R m hv hR hm
      have hs1 := sum_take_succ ms i m hm
      have hs2 := sum_take_le ms (i + 1)
      have HB : Hid (∀ k, B k → wr.heap[k]? = w0.heap[k]?) := fun k hk => kk.block k (hB k hk).2 (hB k hk).1
      have HR : Hid (Rs[i]? = some R) := hR
      have Hs1 : Hid ((ms.take (i + 1)).sum = (ms.take i).sum + m) := hs1
      have hc' : C + i ≤ 1099511627776 := by omega
      have hl' : L + (ms.take i).sum ≤ 1099511627776 := by omega
      clear hv hR hm hs1 hs2
      have z1 : (0 : Int) ≤ (i : Int) := by omega
      have z2 : (i : Int) < (vals.length : Int) := by omega
      rcases hd with ⟨f, p, rfl, eg, hca⟩ | ⟨f, p, q, rfl, eg, hca⟩ | ⟨f, rfl, eg, hca⟩
      all_goals (
        have hca' := hca wr _ _ _ _ HLv.out hc' hl' HB.out
        clear hca
        unfold ptr at *
        go_wp2_with fail
        refine hca'.mono ?_
        rintro e w1 ⟨k, σ2, rfl, hr, lv, k1⟩
        have HV : Hid (Live w w1 (ext A w0 w1) d K (C + (i + 1)) (L + (ms.take (i + 1)).sum) σ2) := by
          show Live _ _ _ _ _ _ _ _
          rw [Hs1.out, ← ext_ext kk.size k1.size]
          exact lv.mono (by omega) (by omega)
        have KK : Keeps A w0 w1 := kk.exts k1
        clear lv hca'
        by_cases hk : k = 0
        · subst hk
          have HO2 : Hid (oks (Rs.take (i + 1)) σ σ2) := oks_snoc Rs i σ σ1 σ2 R HO.out HR.out hr
          clear hr
          go_wp2_with fail
          go_roundw
          case rel => exact ⟨i + 1, σ2, by omega, by go_num, HO2.out, HV.out, KK⟩
          case measure => simp [intOf]; omega
        · have HRn : Hid (runs Rs σ k σ2) := runs_stop Rs i σ σ1 σ2 R k HO.out HR.out hr hk
          have hs3 := sum_take_le ms (i + 1)
          have hk' : (k == 0) = false := beq_eq_false_iff_ne.2 hk
          clear hr
          go_wp2_with fail
          go_ret
          exact ⟨k, σ2, rfl, HRn.out, HV.out.mono (by omega) (by omega), KK⟩)
    · have ei : i = vals.length := by omega
      subst ei
      have z2 : ¬ (vals.length : Int) < (vals.length : Int) := by omega
      go_wp2
      go_ret
      have e1 : Rs.take vals.length = Rs := List.take_of_length_le (by rw [Hl.out.1]; exact Nat.le_refl _)
      have e2 : ms.take vals.length = ms := List.take_of_length_le (by rw [Hl.out.2]; exact Nat.le_refl _)
      have h1 := HO.out
      have h2 := HLv.out
      rw [e1] at h1
      rw [e2] at h2
      exact ⟨0, rfl, σ1, runs_oks Rs σ σ1 h1, h2, kk⟩

end
end Go.Proofs.YtegbkpjcjlihmabGreatDoor
