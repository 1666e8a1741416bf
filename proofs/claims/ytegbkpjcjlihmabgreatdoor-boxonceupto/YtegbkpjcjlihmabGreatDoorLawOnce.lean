/-
  The law BoxOnce, walked.
-/
import Derived.Test.YtegbkpjcjlihmabGreatDoorAob
namespace Go.Proofs.YtegbkpjcjlihmabGreatDoor
open Go.RowKit Go.Maps

def otherB : ByteArray := ⟨#[111, 116, 104, 101, 114]⟩

section
variable (user key data : ByteArray)

def uxB : ByteArray := user ++ ⟨#[120]⟩
def onN : Text := nameOf user.data.toList key.data.toList
def onX : Text := nameOf (uxB user).data.toList key.data.toList
def onK : List Text := [freshT, onN user key, onX user key]
def onLt (s : Text) : Prop := s = onN user key ∨ s = onX user key
def onD (s : Text) : Text := if s = onN user key then data.data.toList else otherB.data.toList

end

section
variable {user key data : ByteArray}

theorem uxB_list : (uxB user).data.toList = user.data.toList ++ [120] := by
  unfold uxB
  rw [ba_add]
theorem uxB_size : (uxB user).size = user.size + 1 := by
  unfold uxB
  rw [ByteArray.size_append]; rfl

theorem onN_let (h : user.size ≤ 1048576) : letterOf (onN user key) = some (user.data.toList, key.data.toList) := letterOf_nameOf _ _ (by have : user.data.toList.length = user.size := rfl; omega)
theorem onX_let (h : user.size ≤ 1048575) : letterOf (onX user key) = some ((uxB user).data.toList, key.data.toList) := letterOf_nameOf _ _ (by have : (uxB user).data.toList.length = (uxB user).size := rfl; rw [uxB_size] at this; omega)
theorem onN_ne (h : user.size ≤ 1048576) : onN user key ≠ freshT := nameOf_ne_fresh _ _ (by have : user.data.toList.length = user.size := rfl; omega)
theorem onX_ne (h : user.size ≤ 1048575) : onX user key ≠ freshT := nameOf_ne_fresh _ _ (by have : (uxB user).data.toList.length = (uxB user).size := rfl; rw [uxB_size] at this; omega)
theorem ux_ne : (uxB user).data.toList ≠ user.data.toList := fun e => by
  have := congrArg List.length e
  rw [uxB_list] at this
  simp at this
theorem onX_onN (h : user.size ≤ 1048575) : onX user key ≠ onN user key := fun e => by
  have h1 := onX_let (key := key) h
  rw [e, onN_let (by omega)] at h1
  have := Option.some.inj h1
  simp only [Prod.mk.injEq] at this
  exact ux_ne this.1.symm

theorem onLt_fresh (h : user.size ≤ 1048575) : ¬ onLt user key freshT := fun e => e.elim (fun e => onN_ne (by omega) e.symm) (fun e => onX_ne h e.symm)

theorem onK_len (h : user.size ≤ 1048575) (hk : key.size ≤ 1048576) : ∀ s ∈ onK user key, s.length < 4294967281 := by
  intro s hs
  simp only [onK, List.mem_cons, List.mem_nil_iff, or_false] at hs
  have e1 : user.data.toList.length = user.size := rfl
  have e2 : key.data.toList.length = key.size := rfl
  have e3 : (uxB user).data.toList.length = (uxB user).size := rfl
  rw [uxB_size] at e3
  rcases hs with rfl | rfl | rfl
  · decide
  · have := nameOf_len user.data.toList key.data.toList (by omega)
    unfold onN; omega
  · have := nameOf_len (uxB user).data.toList key.data.toList (by omega)
    unfold onX; omega

theorem onK_user (h : user.size ≤ 1048575) {ks : List Text} (hk : ∀ s ∈ ks, s ∈ onK user key) : ∀ s ∈ ks, ∀ k', letterOf s = some (user.data.toList, k') → s = onN user key := fun s hs k' hl => by
  have := hk s hs
  simp only [onK, List.mem_cons, List.mem_nil_iff, or_false] at this
  rcases this with rfl | rfl | rfl
  · rw [letterOf_fresh] at hl; cases hl
  · rfl
  · rw [onX_let h] at hl
    have := Option.some.inj hl
    simp only [Prod.mk.injEq] at this
    exact absurd this.1 ux_ne

theorem onK_ux (h : user.size ≤ 1048575) {ks : List Text} (hk : ∀ s ∈ ks, s ∈ onK user key) : ∀ s ∈ ks, ∀ k', letterOf s = some ((uxB user).data.toList, k') → s = onX user key := fun s hs k' hl => by
  have := hk s hs
  simp only [onK, List.mem_cons, List.mem_nil_iff, or_false] at this
  rcases this with rfl | rfl | rfl
  · rw [letterOf_fresh] at hl; cases hl
  · rw [onN_let (by omega)] at hl
    have := Option.some.inj hl
    simp only [Prod.mk.injEq] at this
    exact absurd this.1.symm ux_ne
  · rfl

/-- the disk between two rounds -/
structure Onc (user key data : ByteArray) (w wr : World) (A : Nat → Prop) (d C L : Nat) (σ : Dk) : Prop where
  live : Live w wr A d (onK user key) C L σ
  boxed : Boxed (onLt user key) (onD user key data) σ
  left : σ.left = none
  x : Stays σ (onX user key)

theorem Ints.at {w wr : World} {A : Nat → Prop} {d C L : Nat} {K : List Text} {σ : Dk} {v : Value} {ts : List Int} (h : Ints w (fun _ => False) v ts) (l : Live w wr A d K C L σ) : Ints wr A v ts := by
  obtain ⟨ao, cap, rfl, h1, h2, h3⟩ := h
  refine ⟨ao, cap, rfl, h1, h2, fun hn => ?_⟩
  obtain ⟨b, off, rfl, _, hc⟩ := h3 hn
  obtain ⟨t0, ht0⟩ : ∃ t, ts[0]? = some t := ⟨ts[0]'(by omega), List.getElem?_eq_getElem _⟩
  have hb := cell_lt (hc 0 t0 ht0)
  exact ⟨b, off, rfl, fun e => by have := (l.1 b e).1; omega, fun k t hk => l.2.2.2.cell (hc k t hk) (fun e => e)⟩

theorem onD_n : onD user key data (onN user key) = data.data.toList := if_pos rfl
theorem onD_x (h : user.size ≤ 1048575) : onD user key data (onX user key) = otherB.data.toList := if_neg (onX_onN h)

theorem row_nil {w : World} {base : Nat} {v : Value} (h : RowT w base v []) : ∃ ao cap, v = .slice ao 0 cap := by
  unfold RowT at h
  obtain ⟨ao, cap, rfl, _, _, _⟩ := own_form h
  exact ⟨ao, cap, rfl⟩

theorem eta (b : ByteArray) : (⟨b.data.toList.toArray⟩ : ByteArray) = b := ba_ext rfl

set_option maxHeartbeats 8000000 in
set_option maxRecDepth 100000 in
theorem once_any (w : World) (hG : Gl w) (sv tv : Value) (ss ts : List Int) (keep : Int) (hb : user.size + key.size + data.size + ss.length + 1 ≤ 1048576) (hs : Ints w (fun _ => False) sv ss) (ht : Ints w (fun _ => False) tv ts) (hss : ∀ n ∈ ss, n < 9223372036854775808) :
    Calls Tryz.prog 6 #[.string user, .string key, .string data, sv, .int .i64 keep, tv] w fun e w' => e = .returned (.bool true) ∧ Fresh w w' := by
  have hu : user.size ≤ 1048575 := by omega
  have hk : key.size ≤ 1048576 := by omega
  have hKl : (onK user key).length ≤ 1099511627776 := by simp [onK]
  have hux : (uxB user).size ≤ 1048576 := by rw [uxB_size]; omega
  have n0 := new_live (onK user key) w w (Keeps.refl _ w)
  have eux : ∀ W : World, (Op.stringOp .add user ⟨#[120]⟩).run Tryz.prog W = .ok (.string (uxB user)) W := fun W => run_string_add_sum W _ _ (by have : (⟨#[120]⟩ : ByteArray).size = 1 := rfl; omega)
  go_enter Tryz.func6, Tryz.ntmps6
  go_wp2_with fail
  refine n0.mono ?_
  rintro e w1 ⟨d, rfl, l1, _⟩
  have c1 := deliver_any l1 hG hKl (uxB user) key otherB (by omega) (by omega) (by decide) (by simp [onK]) (by simp [onK, onX]) (by decide) (by decide)
  have f0 := l1.2.2.1
  have P1 : Hid (∀ k σ', Dk.empty.delivers (nameOf (uxB user).data.toList key.data.toList) otherB.data.toList k σ' → k = 0 ∧ Boxed (onLt user key) (onD user key data) σ' ∧ σ'.left = none ∧ Stays σ' (onX user key)) := fun k σ' h => by
    obtain ⟨I, lf⟩ := deliver_plain (nm := onX user key) (Boxed.empty (onLt user key) (onD user key data)) f0 (by simp [onK]) (by simp [onK]) (onLt_fresh hu) (onX_ne hu) (fun _ => (onD_x hu).symm) h
    rcases lf with ⟨_, h1⟩ | ⟨h1, _, h3⟩
    · exact absurd rfl h1
    · exact ⟨h1, I.boxed, I.left rfl, h3⟩
  clear n0 f0 l1
  unfold ptr otherB at *
  go_wp2_with fail
  refine c1.mono ?_
  rintro e w2 ⟨k1, σ1, rfl, d1, l2, _⟩
  obtain ⟨rfl, b1, lf1, s1⟩ := P1.out k1 σ1 d1
  have O1 : Onc user key data w w2 _ d _ _ σ1 := ⟨l2, b1, lf1, s1⟩
  clear c1 P1 d1 l2 b1 lf1 s1
  obtain ⟨so, scap, rfl, hsc1, hsc2, hso⟩ := hs
  have hprod : ∀ i, i ≤ ss.length + 1 → i * data.size ≤ 549755813888 := fun i hi => by
    rcases Nat.lt_or_ge data.size 524288 with h | h
    · have := Nat.mul_le_mul (show i ≤ 1048576 by omega) (show data.size ≤ 524288 by omega)
      omega
    · have := Nat.mul_le_mul (show i ≤ 524288 by omega) (show data.size ≤ 1048576 by omega)
      omega
  have HO1 : Hid (∃ A σ, Onc user key data w w2 A d (6 + 6 * 0) (5 + 0 * data.size) σ) := ⟨_, _, ⟨O1.live.mono (by omega) (by have : (⟨#[111, 116, 104, 101, 114]⟩ : ByteArray).size = 5 := rfl; omega), O1.boxed, O1.left, O1.x⟩⟩
  clear O1
  go_wp2_with fail
  go_loopw [15] (fun t15 wr => ∃ (i : Nat), i ≤ ss.length ∧ t15 = .int .i64 i ∧ ∃ A σ, Onc user key data w wr A d (6 + 6 * i) (5 + i * data.size) σ) (fun t15 _ => ss.length - (intOf t15).toNat)
  case atStart => exact ⟨0, Nat.zero_le _, rfl, HO1.out⟩
  case round =>
    clear HO1
    obtain ⟨i, hi, rfl, A, σ, O⟩ := hrel
    have HO : Hid (Onc user key data w wr A d (6 + 6 * i) (5 + i * data.size) σ) := O
    by_cases hlt : i < ss.length
    · obtain ⟨b, off, rfl, _, hcs⟩ := hso (by omega)
      obtain ⟨n, hn⟩ : ∃ n, ss[i]? = some n := ⟨ss[i], List.getElem?_eq_getElem hlt⟩
      have hcell := O.live.2.2.2.cell (hcs i n hn) (fun e => e)
      have cst := O.live.stop n (hss n (List.mem_of_getElem? hn))
      have z1 : (0 : Int) ≤ (i : Int) := by omega
      have z2 : (i : Int) < (ss.length : Int) := by omega
      clear hn O hcs
      unfold ptr at *
      go_wp2_with fail
      refine cst.mono ?_
      rintro e w3 ⟨rfl, l3, _⟩
      have hp := hprod (i + 1) (by omega)
      have e5 : (i + 1) * data.size = i * data.size + data.size := Nat.succ_mul _ _
      have c4 := deliver_any l3 hG hKl user key data (by omega) (by omega) (by omega) (by simp [onK]) (by simp [onK, onN]) (by omega) (by omega)
      have f3 := l3.2.2.1
      have P4 : Hid (∀ k σ', ({ σ with left := some n.toNat } : Dk).delivers (nameOf user.data.toList key.data.toList) data.data.toList k σ' → Boxed (onLt user key) (onD user key data) σ' ∧ Stays σ' (onX user key) ∧ (k = 6 ∨ (k = 0 ∧ Stays σ' (onN user key)))) := fun k σ' h => by
        obtain ⟨I, lf⟩ := deliver_plain (nm := onN user key) (HO.out.boxed.left _) f3 (by simp [onK]) (by simp [onK]) (onLt_fresh hu) (onN_ne (by omega)) (fun _ => onD_n.symm) h
        refine ⟨I.boxed, I.stays _ (onX_ne hu) HO.out.x, ?_⟩
        rcases lf with ⟨h0, _⟩ | ⟨h0, _, h3⟩
        · exact .inl h0
        · exact .inr ⟨h0, h3⟩
      clear cst hcell l3 f3
      unfold ptr at *
      go_wp2_with fail
      refine c4.mono ?_
      rintro e w4 ⟨k4, σ4, rfl, d4, l4, _⟩
      obtain ⟨b4, x4, kk4⟩ := P4.out k4 σ4 d4
      have c5 := l4.crash hKl (by omega) (by omega) keep tv ts (ht.at l4)
      have f4 := l4.2.2.1
      have P5 : Hid (∀ ks, Boxed (onLt user key) (onD user key data) (σ4.crashed (min keep.toNat σ4.chs.length) ks ts) ∧ (σ4.crashed (min keep.toNat σ4.chs.length) ks ts).left = none ∧ Stays (σ4.crashed (min keep.toNat σ4.chs.length) ks ts) (onX user key) ∧ (k4 = 0 → Stays (σ4.crashed (min keep.toNat σ4.chs.length) ks ts) (onN user key))) := fun ks =>
        ⟨b4.crashed f4 _ _ _, rfl, x4.crashed _ _ _, fun e => (kk4.resolve_left (fun h => by omega)).2.crashed _ _ _⟩
      have hk4 : k4 = 6 ∨ k4 = 0 := kk4.imp id (fun h => h.1)
      clear c4 P4 d4 l4 b4 x4 kk4 f4
      unfold ptr at *
      rcases hk4 with rfl | rfl
      · go_wp2_with (go_at_call 29; refine (num_any _ _).mono ?_; rintro e w' ⟨rfl, rfl⟩)
        refine c5.mono ?_
        rintro e w5 ⟨ks5, rfl, _, l5, _⟩
        obtain ⟨b5, lf5, x5, n5⟩ := P5.out ks5
        generalize σ4.crashed (min keep.toNat σ4.chs.length) ks5 ts = σ5 at *
        have f5 := l5.2.2.1
        have c6 := told_any l5 hG hKl (onK_len hu hk) user
        have k5 : ∀ s, (σ5.now s).isSome = true → s ∈ onK user key := f5.nowK
        have T6 : Hid (∀ ks, Sorted σ5.now ks → (σ5.now (onN user key)).isSome = true → toldOf σ5 user.data.toList (sortL (ks.filterMap letterOf)) = [(key.data.toList, data.data.toList)]) := fun ks hs hn => by
          rw [told_one (onN_let (by omega)) rfl hs (onK_user hu (fun s h => k5 s ((hs.mem s).1 h))), if_pos hn, read_boxed b5 f5 (.inl rfl) hn, onD_n]
        have T6n : Hid (∀ ks, Sorted σ5.now ks → ¬ (σ5.now (onN user key)).isSome = true → toldOf σ5 user.data.toList (sortL (ks.filterMap letterOf)) = []) := fun ks hs hn => by
          rw [told_one (onN_let (by omega)) rfl hs (onK_user hu (fun s h => k5 s ((hs.mem s).1 h))), if_neg hn]
        have HB5 : Hid (Boxed (onLt user key) (onD user key data) σ5 ∧ σ5.left = none ∧ Stays σ5 (onX user key)) := ⟨b5, lf5, x5⟩
        clear c5 P5 b5 lf5 x5 n5 f5 k5 l5
        unfold ptr at *
        go_wp2_with fail
        refine c6.mono ?_
        rintro e w6 ⟨v, ks6, rfl, hs6, hr6, l6, _⟩
        have ON : Hid (Onc user key data w w6 _ d (6 + 6 * (i + 1)) (5 + (i + 1) * data.size) σ5) := ⟨l6.mono (by omega) (by omega), HB5.out.1, HB5.out.2.1, HB5.out.2.2⟩
        clear l6 HB5
        by_cases NM : (σ5.now (onN user key)).isSome = true
        · have hr7 : RowT w6 w5.heap.size v [(key.data.toList, data.data.toList)] := by
            rw [← T6.out ks6 hs6 NM]
            exact hr6
          obtain ⟨g, cap, rfl, q0, q1, _⟩ := row_one hr7
          have q0' : w6.cell? ⟨g, 0, none⟩ = some (.string key) := by rw [q0]
          have q1' : w6.cell? ⟨g, 1, none⟩ = some (.string data) := by rw [q1]
          clear q0 q1 hr6 hr7 hs6 T6 T6n c6
          go_wp2_with (go_at_call 29; refine (num_any _ _).mono ?_; rintro e w' ⟨rfl, rfl⟩)
          go_roundw
          case rel => exact ⟨i + 1, by omega, by go_num, _, _, ON.out⟩
          case measure => simp [intOf]; omega
        · have hr7 : RowT w6 w5.heap.size v [] := by
            rw [← T6n.out ks6 hs6 NM]
            exact hr6
          obtain ⟨ao, cap, rfl⟩ := row_nil hr7
          clear hr6 hr7 hs6 T6 T6n c6
          go_wp2_with (go_at_call 29; refine (num_any _ _).mono ?_; rintro e w' ⟨rfl, rfl⟩)
          go_roundw
          case rel => exact ⟨i + 1, by omega, by go_num, _, _, ON.out⟩
          case measure => simp [intOf]; omega
      · go_wp2_with (go_at_call 29; refine (num_any _ _).mono ?_; rintro e w' ⟨rfl, rfl⟩)
        refine c5.mono ?_
        rintro e w5 ⟨ks5, rfl, _, l5, _⟩
        obtain ⟨b5, lf5, x5, n5⟩ := P5.out ks5
        generalize σ4.crashed (min keep.toNat σ4.chs.length) ks5 ts = σ5 at *
        have f5 := l5.2.2.1
        have c6 := told_any l5 hG hKl (onK_len hu hk) user
        have k5 : ∀ s, (σ5.now s).isSome = true → s ∈ onK user key := f5.nowK
        have T6 : Hid (∀ ks, Sorted σ5.now ks → (σ5.now (onN user key)).isSome = true → toldOf σ5 user.data.toList (sortL (ks.filterMap letterOf)) = [(key.data.toList, data.data.toList)]) := fun ks hs hn => by
          rw [told_one (onN_let (by omega)) rfl hs (onK_user hu (fun s h => k5 s ((hs.mem s).1 h))), if_pos hn, read_boxed b5 f5 (.inl rfl) hn, onD_n]
        have T6n : Hid (∀ ks, Sorted σ5.now ks → ¬ (σ5.now (onN user key)).isSome = true → toldOf σ5 user.data.toList (sortL (ks.filterMap letterOf)) = []) := fun ks hs hn => by
          rw [told_one (onN_let (by omega)) rfl hs (onK_user hu (fun s h => k5 s ((hs.mem s).1 h))), if_neg hn]
        have NM : (σ5.now (onN user key)).isSome = true := (n5 (by first | rfl | trivial)).now f5
        have HB5 : Hid (Boxed (onLt user key) (onD user key data) σ5 ∧ σ5.left = none ∧ Stays σ5 (onX user key)) := ⟨b5, lf5, x5⟩
        clear c5 P5 b5 lf5 x5 n5 f5 k5 l5
        unfold ptr at *
        go_wp2_with fail
        refine c6.mono ?_
        rintro e w6 ⟨v, ks6, rfl, hs6, hr6, l6, _⟩
        have ON : Hid (Onc user key data w w6 _ d (6 + 6 * (i + 1)) (5 + (i + 1) * data.size) σ5) := ⟨l6.mono (by omega) (by omega), HB5.out.1, HB5.out.2.1, HB5.out.2.2⟩
        clear l6 HB5
        have hr7 : RowT w6 w5.heap.size v [(key.data.toList, data.data.toList)] := by
          rw [← T6.out ks6 hs6 NM]
          exact hr6
        obtain ⟨g, cap, rfl, q0, q1, _⟩ := row_one hr7
        have q0' : w6.cell? ⟨g, 0, none⟩ = some (.string key) := by rw [q0]
        have q1' : w6.cell? ⟨g, 1, none⟩ = some (.string data) := by rw [q1]
        clear q0 q1 hr6 hr7 hs6 T6 T6n c6
        go_wp2_with (go_at_call 29; refine (num_any _ _).mono ?_; rintro e w' ⟨rfl, rfl⟩)
        go_roundw
        case rel => exact ⟨i + 1, by omega, by go_num, _, _, ON.out⟩
        case measure => simp [intOf]; omega
    · have ei : i = ss.length := by omega
      subst ei
      have z2 : ¬ (ss.length : Int) < (ss.length : Int) := by omega
      have hp := hprod (ss.length + 1) (by omega)
      have e5 : (ss.length + 1) * data.size = ss.length * data.size + data.size := Nat.succ_mul _ _
      have c4 := deliver_any O.live hG hKl user key data (by omega) (by omega) (by omega) (by simp [onK]) (by simp [onK, onN]) (by omega) (by omega)
      have f3 := O.live.2.2.1
      have P4 : Hid (∀ k σ', σ.delivers (nameOf user.data.toList key.data.toList) data.data.toList k σ' → k = 0 ∧ Boxed (onLt user key) (onD user key data) σ' ∧ σ'.left = none ∧ Stays σ' (onX user key) ∧ Stays σ' (onN user key)) := fun k σ' h => by
        obtain ⟨I, lf⟩ := deliver_plain (nm := onN user key) HO.out.boxed f3 (by simp [onK]) (by simp [onK]) (onLt_fresh hu) (onN_ne (by omega)) (fun _ => onD_n.symm) h
        rcases lf with ⟨_, h0⟩ | ⟨h0, _, h3⟩
        · exact absurd HO.out.left h0
        · exact ⟨h0, I.boxed, I.left HO.out.left, I.stays _ (onX_ne hu) HO.out.x, h3⟩
      clear O f3
      unfold ptr at *
      go_wp2_with fail
      refine c4.mono ?_
      rintro e w4 ⟨k4, σ4, rfl, d4, l4, _⟩
      obtain ⟨rfl, b4, lf4, x4, n4⟩ := P4.out k4 σ4 d4
      have c5 := clean_any l4 hKl (by omega) (by omega)
      have f4 := l4.2.2.1
      have P5 : Hid (∀ k σ', σ4.cleans k σ' → k = 0 ∧ Boxed (onLt user key) (onD user key data) σ' ∧ Stays σ' (onX user key) ∧ Stays σ' (onN user key)) := fun k σ' h => by
        obtain ⟨I, lf⟩ := clean_plain b4 f4 (onLt_fresh hu) h
        rcases lf with ⟨_, h0⟩ | ⟨h0, _⟩
        · exact absurd lf4 h0
        · exact ⟨h0, I.boxed, I.stays _ (onX_ne hu) x4, I.stays _ (onN_ne (by omega)) n4⟩
      clear c4 P4 d4 l4 b4 lf4 x4 n4 f4
      unfold ptr at *
      go_wp2_with fail
      refine c5.mono ?_
      rintro e w5 ⟨k5, σ5, rfl, d5, l5, _⟩
      obtain ⟨rfl, b5, x5, n5⟩ := P5.out k5 σ5 d5
      have c6 := l5.crash hKl (by omega) (by omega) keep tv ts (ht.at l5)
      have f5 := l5.2.2.1
      have P6 : Hid (∀ ks, Boxed (onLt user key) (onD user key data) (σ5.crashed (min keep.toNat σ5.chs.length) ks ts) ∧ Stays (σ5.crashed (min keep.toNat σ5.chs.length) ks ts) (onX user key) ∧ Stays (σ5.crashed (min keep.toNat σ5.chs.length) ks ts) (onN user key)) := fun ks =>
        ⟨b5.crashed f5 _ _ _, x5.crashed _ _ _, n5.crashed _ _ _⟩
      clear c5 P5 d5 l5 b5 x5 n5 f5
      unfold ptr at *
      go_wp2_with fail
      refine c6.mono ?_
      rintro e w6 ⟨ks6, rfl, _, l6, _⟩
      obtain ⟨b6, x6, n6⟩ := P6.out ks6
      generalize σ5.crashed (min keep.toNat σ5.chs.length) ks6 ts = σ6 at *
      have f6 := l6.2.2.1
      have c7 := told_any l6 hG hKl (onK_len hu hk) user
      have k6 : ∀ s, (σ6.now s).isSome = true → s ∈ onK user key := f6.nowK
      have NM := n6.now f6
      have XM := x6.now f6
      have T7 : Hid (∀ ks, Sorted σ6.now ks → toldOf σ6 user.data.toList (sortL (ks.filterMap letterOf)) = [(key.data.toList, data.data.toList)]) := fun ks hs => by
        rw [told_one (onN_let (by omega)) rfl hs (onK_user hu (fun s h => k6 s ((hs.mem s).1 h))), if_pos NM, read_boxed b6 f6 (.inl rfl) NM, onD_n]
      have T8 : Hid (∀ ks, Sorted σ6.now ks → toldOf σ6 (uxB user).data.toList (sortL (ks.filterMap letterOf)) = [(key.data.toList, otherB.data.toList)]) := fun ks hs => by
        rw [told_one (onX_let hu) rfl hs (onK_ux hu (fun s h => k6 s ((hs.mem s).1 h))), if_pos XM, read_boxed b6 f6 (.inr rfl) XM, onD_x hu]
      have T9 : Hid (∀ ks, Sorted σ6.now ks → 1 ≤ ks.length) := fun ks hs => List.length_pos_of_mem ((hs.mem _).2 NM)
      clear c6 P6 b6 x6 n6 f6 k6 NM XM
      unfold ptr at *
      go_wp2_with fail
      refine c7.mono ?_
      rintro e w7 ⟨v, ks7, rfl, hs7, hr7, l7, _⟩
      rw [T7.out ks7 hs7] at hr7
      obtain ⟨g, cap, rfl, _, _, hg0⟩ := row_one hr7
      have c8 := told_any l7 hG hKl (onK_len hu hk) (uxB user)
      have HA7 : Hid (∀ j, w6.heap.size ≤ j → j < w7.heap.size → ¬ (ext (ext (ext A wr w4) w4 w5) w5 w6) j) := fun j h1 h2 e => by
        have := (l6.1 j e).2
        omega
      have Hr7 : Hid (RowT w7 w6.heap.size (.slice (some ⟨g, 0, none⟩) 1 cap) [(key.data.toList, data.data.toList)]) := hr7
      clear c7 T7 hs7 l6 l7 hr7
      unfold ptr at *
      go_wp2_with fail
      refine c8.mono ?_
      rintro e w8 ⟨v8, ks8, rfl, hs8, hr8, l8, k8⟩
      rw [T8.out ks8 hs8] at hr8
      obtain ⟨g8, cap8, rfl, _, _, _⟩ := row_one hr8
      have hr7' : RowT w8 w6.heap.size (.slice (some ⟨g, 0, none⟩) 1 cap) [(key.data.toList, data.data.toList)] := k8.owns Hr7.out (fun j hj => HA7.out j (Hr7.out.lt j hj).1 (Hr7.out.lt j hj).2)
      have Hr8 : Hid (RowT w8 w7.heap.size (.slice (some ⟨g8, 0, none⟩) 1 cap8) [(key.data.toList, otherB.data.toList)]) := hr8
      have Hr7' : Hid (RowT w8 w6.heap.size (.slice (some ⟨g, 0, none⟩) 1 cap) [(key.data.toList, data.data.toList)]) := hr7'
      have c9 := l8.names hKl
      clear c8 T8 hs8 hr8 hr7' k8 Hr7 HA7
      unfold ptr at *
      go_wp2_with fail
      refine c9.mono ?_
      rintro e w9 ⟨v9, ks9, rfl, hs9, _, _, hr9, l9, k9⟩
      have hl9 := T9.out ks9 hs9
      obtain ⟨ao9, cap9, rfl, _, _, _⟩ := own_form hr9
      obtain ⟨g', cap', e1, q0, q1, _⟩ := row_one (k9.owns Hr7'.out (fun _ _ e => e))
      injection e1 with e1 _ _
      injection e1 with e1
      injection e1 with e1
      subst e1
      obtain ⟨g8', cap8', e1, q2, q3, _⟩ := row_one (k9.owns Hr8.out (fun _ _ e => e))
      injection e1 with e1 _ _
      injection e1 with e1
      injection e1 with e1
      subst e1
      have q1' : w9.cell? ⟨g, 1, none⟩ = some (.string data) := by rw [q1]
      have q3' : w9.cell? ⟨g8, 1, none⟩ = some (.string ⟨#[111, 116, 104, 101, 114]⟩) := by rw [q3]; rfl
      have q0' : w9.cell? ⟨g, 0, none⟩ = some (.string key) := by rw [q0]
      have q2' : w9.cell? ⟨g8, 0, none⟩ = some (.string key) := by rw [q2]
      have ca := boxAlive_any w w9 l9.2.2.2 hG
      have z9 : (1 : Int) ≤ (ks9.length : Int) := by omega
      clear c9 q0 q1 q2 q3 hr9 l9 k9 Hr8 Hr7' T9 hs9
      go_wp2_with (first | (go_at_call 29; refine (num_any _ _).mono ?_; rintro e w' ⟨rfl, rfl⟩) | (go_at_call 26; refine ca.mono ?_; rintro e w10 ⟨rfl, F⟩))
      go_ret
      exact ⟨rfl, F⟩

end
end Go.Proofs.YtegbkpjcjlihmabGreatDoor
