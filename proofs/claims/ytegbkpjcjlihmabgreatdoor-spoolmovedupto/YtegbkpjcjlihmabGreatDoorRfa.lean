/-
  The reference of letters: ahead, Find.
-/
import Derived.Test.YtegbkpjcjlihmabGreatDoorGj
import Derived.Test.YtegbkpjcjlihmabGreatDoorGp
namespace Go.Proofs.YtegbkpjcjlihmabGreatDoor
open Go.RowKit Go.Maps Go.Sort Go.Lib

theorem cmp_step {a b : ByteArray} {i : Nat} (h1 : i < a.size) (h2 : i < b.size) : compareBytes (a.data.toList.drop i) (b.data.toList.drop i) = if a[i] < b[i] then -1 else if b[i] < a[i] then 1 else compareBytes (a.data.toList.drop (i + 1)) (b.data.toList.drop (i + 1)) := by
  have e1 : a.data.toList.drop i = a[i] :: a.data.toList.drop (i + 1) := by
    rw [List.drop_eq_getElem_cons (by exact h1)]
    rfl
  have e2 : b.data.toList.drop i = b[i] :: b.data.toList.drop (i + 1) := by
    rw [List.drop_eq_getElem_cons (by exact h2)]
    rfl
  rw [e1, e2]
  rfl

set_option maxHeartbeats 2000000 in
set_option maxRecDepth 20000 in
theorem ahead_any (a b : ByteArray) (w : World) (ha : a.size ≤ 1099511627776) (_hb : b.size ≤ 1099511627776) : Calls Tryz.prog 108 #[.string a, .string b] w fun e w' => e = .returned (.bool (decide (compareBytes a.data.toList b.data.toList < 0))) ∧ ∃ q, w' = w.drewN q := by
  go_enter Tryz.func108, Tryz.ntmps108
  go_wp2_with fail
  go_loopw [5] (fun t4 wr => ∃ i : Nat, i ≤ a.size ∧ i ≤ b.size ∧ t4 = .int .i64 i ∧ compareBytes a.data.toList b.data.toList = compareBytes (a.data.toList.drop i) (b.data.toList.drop i) ∧ ∃ q, wr = w.drewN q) (fun t4 _ => a.size - (intOf t4).toNat)
  case atStart => exact ⟨0, Nat.zero_le _, Nat.zero_le _, rfl, rfl, 0, rfl⟩
  case round =>
    obtain ⟨i, h1, h2, rfl, hc, kk⟩ := hrel
    have kN : Hid (∀ nq, ∃ q, wr.drewN nq = w.drewN q) := fun nq => by
      obtain ⟨q, hq⟩ := kk
      exact ⟨q + nq, by rw [hq, World.drewN_drewN]⟩
    have KK : Hid (∃ q, wr = w.drewN q) := kk
    clear kk
    have HC : Hid (compareBytes a.data.toList b.data.toList = compareBytes (a.data.toList.drop i) (b.data.toList.drop i)) := hc
    clear hc
    by_cases h3 : i < a.size
    · by_cases h4 : i < b.size
      · have z0 : (0 : Int) ≤ (i : Int) := by omega
        have z1 : (i : Int) < (a.size : Int) := by omega
        have z2 : (i : Int) < (b.size : Int) := by omega
        have HS := cmp_step h3 h4
        obtain ⟨c, hc⟩ : ∃ c, a[i] = c := ⟨_, rfl⟩
        obtain ⟨e, he⟩ : ∃ e, b[i] = e := ⟨_, rfl⟩
        rw [hc, he] at HS
        by_cases hce : c = e
        · subst hce
          have hcb : ((c.toNat : Int) == (c.toNat : Int)) = true := beq_self_eq_true _
          have HN : Hid (compareBytes a.data.toList b.data.toList = compareBytes (a.data.toList.drop (i + 1)) (b.data.toList.drop (i + 1))) := by
            show _ = _
            rw [HC.out, HS, if_neg (by simp), if_neg (by simp)]
          clear HS
          go_wp2_with fail
          try go_quiet (fail)
          try go_wp2_with fail
          go_roundw
          case rel => exact ⟨i + 1, by omega, by omega, by go_num, HN.out, by first | exact KK.out | exact kN.out _⟩
          case measure => simp [intOf]; omega
        · have hcb : ((c.toNat : Int) == (e.toNat : Int)) = false := beq_eq_false_iff_ne.2 (fun h => hce (UInt8.toNat_inj.1 (by omega)))
          by_cases hlt : c.toNat < e.toNat
          · have HN : Hid (decide (compareBytes a.data.toList b.data.toList < 0) = true) := by
              show _ = _
              rw [HC.out, HS, if_pos (by rw [UInt8.lt_iff_toNat_lt]; exact hlt)]; rfl
            have z3 : (c.toNat : Int) < (e.toNat : Int) := by omega
            clear HS hce
            go_wp2_with fail
            go_quiet (fail)
            have kq : Hid (∀ n2, ∃ q, (wr.drewN nq).drewN n2 = w.drewN q) := fun n2 => by
              obtain ⟨q, hq⟩ := kN.out (nq + n2)
              exact ⟨q, by rw [World.drewN_drewN, hq]⟩
            generalize wr.drewN nq = w2 at *
            go_wp2_with fail
            go_quiet (fail)
            go_wp2_with fail
            go_ret
            exact ⟨by rw [HN.out]; rfl, kq.out _⟩
          · have HN : Hid (decide (compareBytes a.data.toList b.data.toList < 0) = false) := by
              show _ = _
              have hgt : e.toNat < c.toNat := by
                have : c.toNat ≠ e.toNat := fun h => hce (UInt8.toNat_inj.1 h)
                omega
              rw [HC.out, HS, if_neg (by rw [UInt8.lt_iff_toNat_lt]; exact hlt), if_pos (by rw [UInt8.lt_iff_toNat_lt]; exact hgt)]; rfl
            have z3 : ¬ (c.toNat : Int) < (e.toNat : Int) := by omega
            clear HS hce
            go_wp2_with fail
            go_quiet (fail)
            have kq : Hid (∀ n2, ∃ q, (wr.drewN nq).drewN n2 = w.drewN q) := fun n2 => by
              obtain ⟨q, hq⟩ := kN.out (nq + n2)
              exact ⟨q, by rw [World.drewN_drewN, hq]⟩
            generalize wr.drewN nq = w2 at *
            go_wp2_with fail
            go_quiet (fail)
            go_wp2_with fail
            go_ret
            exact ⟨by rw [HN.out]; rfl, kq.out _⟩
      · have e1 : i = b.size := by omega
        subst e1
        have z1 : (b.size : Int) < (a.size : Int) := by omega
        have z2 : ¬ (b.size : Int) < (b.size : Int) := by omega
        have z3 : ¬ (a.size : Int) < (b.size : Int) := by omega
        have HN : Hid (decide (compareBytes a.data.toList b.data.toList < 0) = false) := by
          show _ = _
          have e2 : b.data.toList.drop b.size = [] := List.drop_eq_nil_of_le (Nat.le_refl _)
          rw [HC.out, e2, List.drop_eq_getElem_cons (show b.size < a.data.toList.length from h3)]
          rfl
        go_wp2_with fail
        go_ret
        exact ⟨by rw [HN.out]; rfl, KK.out⟩
    · have e1 : i = a.size := by omega
      subst e1
      have z1 : ¬ (a.size : Int) < (a.size : Int) := by omega
      by_cases h4 : a.size < b.size
      · have z2 : (a.size : Int) < (b.size : Int) := by omega
        have HN : Hid (decide (compareBytes a.data.toList b.data.toList < 0) = true) := by
          show _ = _
          have e2 : a.data.toList.drop a.size = [] := List.drop_eq_nil_of_le (Nat.le_refl _)
          rw [HC.out, e2, List.drop_eq_getElem_cons (show a.size < b.data.toList.length from h4)]
          rfl
        go_wp2_with fail
        go_ret
        exact ⟨by rw [HN.out]; rfl, KK.out⟩
      · have z2 : ¬ (a.size : Int) < (b.size : Int) := by omega
        have HN : Hid (decide (compareBytes a.data.toList b.data.toList < 0) = false) := by
          show _ = _
          have e2 : a.data.toList.drop a.size = [] := List.drop_eq_nil_of_le (Nat.le_refl _)
          have e3 : b.data.toList.drop a.size = [] := List.drop_eq_nil_of_le (by have : b.data.toList.length = b.size := rfl; omega)
          rw [HC.out, e2, e3]
          rfl
        go_wp2_with fail
        go_ret
        exact ⟨by rw [HN.out]; rfl, KK.out⟩

/-- a letter's three cells -/
def enc3 (x : Lt3) : List Value := [.string ⟨x.1.toArray⟩, .string ⟨x.2.1.toArray⟩, .string ⟨x.2.2.toArray⟩]

/-- letters that can be read -/
def Rd3 (w : World) (ao : Option Addr) (l : List Lt3) : Prop := ∀ (i : Nat) (x : Lt3), l[i]? = some x → ∃ g, ao = some ⟨g, 0, none⟩ ∧ w.cell? ⟨g, i * 3, none⟩ = some (.string ⟨x.1.toArray⟩) ∧ w.cell? ⟨g, i * 3 + 1, none⟩ = some (.string ⟨x.2.1.toArray⟩) ∧ w.cell? ⟨g, i * 3 + 2, none⟩ = some (.string ⟨x.2.2.toArray⟩)

theorem Rd3.fresh {w w' : World} {ao : Option Addr} {l : List Lt3} (h : Rd3 w ao l) (k : Fresh w w') : Rd3 w' ao l := fun i x hx => by
  obtain ⟨g, e, h1, h2, h3⟩ := h i x hx
  exact ⟨g, e, cell_keeps k h1 (fun e => e), cell_keeps k h2 (fun e => e), cell_keeps k h3 (fun e => e)⟩

/-- there is such a letter -/
def HasL (l : List Lt3) (u k : Text) : Prop := (u, k) ∈ l.map lk

theorem ba_eq_of {a b : ByteArray} (h : a.data.toList = b.data.toList) : a = b := ba_ext h

theorem beq_false {a b : ByteArray} (h : a.data.toList ≠ b.data.toList) : (a.toList == b.toList) = false := by
  rw [beq_bytes, decide_eq_false_iff_not]; exact h

set_option maxHeartbeats 2000000 in
set_option maxRecDepth 20000 in
theorem find_ref (ao : Option Addr) (cap : Nat) (l : List Lt3) (u k : ByteArray) (w : World) (hn : l.length ≤ 1099511627776) (hr : Rd3 w ao l) :
    Calls Tryz.prog 100 #[.slice ao l.length cap, .string u, .string k] w fun e w' => (∃ n : Int, e = .returned (.int .i64 n) ∧ (0 ≤ n ↔ HasL l u.data.toList k.data.toList)) ∧ Fresh w w' := by
  have HR : Hid (Rd3 w ao l) := hr
  clear hr
  go_enter Tryz.func100, Tryz.ntmps100
  go_wp2_with fail
  go_loopw [7] (fun t6 wr => ∃ i : Nat, i ≤ l.length ∧ t6 = .int .i64 i ∧ (u.data.toList, k.data.toList) ∉ (l.take i).map lk ∧ Fresh w wr) (fun t6 _ => l.length - (intOf t6).toNat)
  case atStart => exact ⟨0, Nat.zero_le _, rfl, by simp, Keeps.refl _ _⟩
  case round =>
    obtain ⟨i, h1, rfl, hno, kk⟩ := hrel
    have HN0 : Hid ((u.data.toList, k.data.toList) ∉ (l.take i).map lk) := hno
    clear hno
    by_cases hlt : i < l.length
    · obtain ⟨x, hx⟩ : ∃ x, l[i]? = some x := ⟨l[i], List.getElem?_eq_getElem hlt⟩
      obtain ⟨g, rfl, q0, q1, q2⟩ := (HR.out.fresh kk) i x hx
      have HT : Hid ((l.take (i + 1)).map lk = (l.take i).map lk ++ [lk x]) := by
        show _ = _
        rw [List.take_add_one, hx, List.map_append]; rfl
      have HM : Hid (lk x ∈ l.map lk) := List.mem_map_of_mem (List.mem_of_getElem? hx)
      obtain ⟨X1, hX1⟩ : ∃ X1 : ByteArray, X1 = ⟨x.1.toArray⟩ := ⟨_, rfl⟩
      obtain ⟨X2, hX2⟩ : ∃ X2 : ByteArray, X2 = ⟨x.2.1.toArray⟩ := ⟨_, rfl⟩
      have H1 : Hid (X1.data.toList = x.1) := by rw [hX1]; rfl
      have H2 : Hid (X2.data.toList = x.2.1) := by rw [hX2]; rfl
      rw [← hX1] at q0
      rw [← hX2] at q1
      clear hx hX1 hX2
      have z0 : (0 : Int) ≤ (i : Int) := by omega
      have z1 : (i : Int) < (l.length : Int) := by omega
      by_cases hu : X1 = u
      · subst hu
        by_cases hk : X2 = k
        · subst hk
          go_wp2_with fail
          go_ret
          refine ⟨⟨_, rfl, fun _ => ?_, fun _ => by omega⟩, kk⟩
          unfold HasL
          rw [H1.out, H2.out]
          exact HM.out
        · have hkb := beq_false (a := X2) (b := k) (fun e => hk (ba_ext e))
          have HN2 : Hid ((X1.data.toList, k.data.toList) ∉ (l.take (i + 1)).map lk) := by
            show ¬ _
            rw [HT.out, List.mem_append]
            rintro (e | e)
            · exact HN0.out e
            · simp only [List.mem_singleton] at e
              have : k.data.toList = x.2.1 := congrArg (fun p : Ltr => p.2) e
              exact hk (ba_ext (H2.out.trans this.symm))
          clear hk
          go_wp2_with fail
          go_roundw
          case rel => exact ⟨i + 1, by omega, by go_num, HN2.out, kk⟩
          case measure => simp [intOf]; omega
      · have hub := beq_false (a := X1) (b := u) (fun e => hu (ba_ext e))
        have HN2 : Hid ((u.data.toList, k.data.toList) ∉ (l.take (i + 1)).map lk) := by
          show ¬ _
          rw [HT.out, List.mem_append]
          rintro (e | e)
          · exact HN0.out e
          · simp only [List.mem_singleton] at e
            have : u.data.toList = x.1 := congrArg (fun p : Ltr => p.1) e
            exact hu (ba_ext (H1.out.trans this.symm))
        clear hu
        go_wp2_with fail
        go_roundw
        case rel => exact ⟨i + 1, by omega, by go_num, HN2.out, kk⟩
        case measure => simp [intOf]; omega
    · have ei : i = l.length := by omega
      subst ei
      have z1 : ¬ (l.length : Int) < (l.length : Int) := by omega
      have HN3 : Hid ((u.data.toList, k.data.toList) ∉ l.map lk) := by
        have := HN0.out
        rw [List.take_length] at this
        exact this
      go_wp2_with fail
      go_ret
      exact ⟨⟨_, rfl, fun h => absurd h (by decide), fun h => absurd h HN3.out⟩, kk⟩

end Go.Proofs.YtegbkpjcjlihmabGreatDoor
