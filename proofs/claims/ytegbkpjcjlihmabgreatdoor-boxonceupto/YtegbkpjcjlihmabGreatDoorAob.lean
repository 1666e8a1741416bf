/-
  The law's own alive: a plain box.
-/
import Derived.Test.YtegbkpjcjlihmabGreatDoorBxq
import Derived.BigQuiet
import Derived.Deep.QuietTactic
namespace Go.Proofs.YtegbkpjcjlihmabGreatDoor
open Go.RowKit Go.Maps

theorem num_any (k : Int) (w : World) : Calls Tryz.prog 29 #[.int .i64 k] w fun e w' => e = .returned (.int .i64 k) ∧ w' = w := by
  go_enter Tryz.func29, Tryz.ntmps29
  go_wp2
  go_ret
  exact ⟨rfl, rfl⟩

def annB : ByteArray := ⟨#[97, 110, 110]⟩
def oneB : ByteArray := ⟨#[49]⟩
def helloB : ByteArray := ⟨#[104, 101, 108, 108, 111]⟩
def againB : ByteArray := ⟨#[97, 103, 97, 105, 110]⟩
def annN : Text := nameOf annB.data.toList oneB.data.toList
def annK : List Text := [freshT, annN]
def annLt (s : Text) : Prop := s = annN
def annD (_ : Text) : Text := helloB.data.toList

theorem annN_let : letterOf annN = some (annB.data.toList, oneB.data.toList) := letterOf_nameOf _ _ (by decide)
theorem annN_ne : annN ≠ freshT := nameOf_ne_fresh _ _ (by decide)
theorem annLt_fresh : ¬ annLt freshT := fun e => annN_ne e.symm
theorem annN_len : annN.length ≤ 100 := by
  have := nameOf_len annB.data.toList oneB.data.toList (by decide)
  have e1 : annB.data.toList.length = 3 := rfl
  have e2 : oneB.data.toList.length = 1 := rfl
  unfold annN
  omega
theorem annK_len : ∀ s ∈ annK, s.length < 4294967281 := by
  intro s hs
  simp only [annK, List.mem_cons, List.mem_nil_iff, or_false] at hs
  rcases hs with rfl | rfl
  · decide
  · have := annN_len; omega
theorem annK_only {ks : List Text} (h : ∀ s ∈ ks, s ∈ annK) : ∀ s ∈ ks, ∀ x, letterOf s = some x → s = annN := fun s hs x hl => by
  have := h s hs
  simp only [annK, List.mem_cons, List.mem_nil_iff, or_false] at this
  rcases this with rfl | rfl
  · rw [letterOf_fresh] at hl; cases hl
  · rfl

/-- one letter, told -/
theorem row_one {w : World} {base : Nat} {v : Value} {x : Ltr} (h : RowT w base v [x]) : ∃ g cap, v = .slice (some ⟨g, 0, none⟩) 1 cap ∧ w.cell? ⟨g, 0, none⟩ = some (.string ⟨x.1.toArray⟩) ∧ w.cell? ⟨g, 1, none⟩ = some (.string ⟨x.2.toArray⟩) ∧ base ≤ g := by
  unfold RowT at h
  obtain ⟨ao, cap, rfl, _, _, hao⟩ := own_form h
  obtain ⟨g, rfl⟩ := hao (by simp)
  exact ⟨g, cap, rfl, own_cell h 0 _ rfl, own_cell h 1 _ rfl, (h.lt g rfl).1⟩

theorem row9_one {w : World} {base : Nat} {v : Value} {x : Text} (h : Row9 w base v [x]) : ∃ g cap, v = .slice (some ⟨g, 0, none⟩) 1 cap ∧ w.cell? ⟨g, 0, none⟩ = some (.string ⟨x.toArray⟩) ∧ base ≤ g := by
  unfold Row9 at h
  obtain ⟨ao, cap, rfl, _, _, hao⟩ := own_form h
  obtain ⟨g, rfl⟩ := hao (by simp)
  exact ⟨g, cap, rfl, own_cell h 0 _ rfl, (h.lt g rfl).1⟩

set_option maxHeartbeats 4000000 in
set_option maxRecDepth 100000 in
theorem boxAlive_any (w wr : World) (hF : Fresh w wr) (hG : Gl w) : Calls Tryz.prog 26 #[] wr fun e w' => e = .returned (.bool true) ∧ Fresh w w' := by
  have hKl : annK.length ≤ 1099511627776 := by decide
  have n0 := new_live annK w wr hF
  go_enter Tryz.func26, Tryz.ntmps26
  go_wp2_with fail
  refine n0.mono ?_
  rintro e w1 ⟨d, rfl, l1, _⟩
  have c1 := deliver_any l1 hG hKl annB oneB helloB (by decide) (by decide) (by decide) (by simp [annK]) (by simp [annK, annN]) (by decide) (by decide)
  have b0 : Boxed annLt annD Dk.empty := Boxed.empty _ _
  have f0 := l1.2.2.1
  have P1 : Hid (∀ k σ', Dk.empty.delivers (nameOf annB.data.toList oneB.data.toList) helloB.data.toList k σ' → k = 0 ∧ Boxed annLt annD σ' ∧ σ'.left = none ∧ (σ'.now annN).isSome = true) := fun k σ' h => by
    obtain ⟨I, lf⟩ := deliver_plain b0 f0 (by simp [annK]) (by simp [annK]) annLt_fresh annN_ne (fun _ => rfl) h
    rcases lf with ⟨_, h1⟩ | ⟨h1, h2, _⟩
    · exact absurd rfl h1
    · exact ⟨h1, I.boxed, I.left rfl, h2⟩
  clear n0 b0 f0 l1
  unfold ptr annB oneB helloB at *
  go_wp2_with fail
  refine c1.mono ?_
  rintro e w2 ⟨k1, σ1, rfl, d1, l2, _⟩
  obtain ⟨rfl, b1, lf1, n1⟩ := P1.out k1 σ1 d1
  have c2 := deliver_any l2 hG hKl annB oneB againB (by decide) (by decide) (by decide) (by simp [annK]) (by simp [annK, annN]) (by decide) (by decide)
  have f1 := l2.2.2.1
  have P2 : Hid (∀ k σ', σ1.delivers (nameOf annB.data.toList oneB.data.toList) againB.data.toList k σ' → k = 0 ∧ Boxed annLt annD σ' ∧ Stays σ' annN) := fun k σ' h => by
    obtain ⟨I, lf⟩ := deliver_plain b1 f1 (by simp [annK]) (by simp [annK]) annLt_fresh annN_ne (fun e => by rw [n1] at e; cases e) h
    rcases lf with ⟨_, h1⟩ | ⟨h1, _, h3⟩
    · exact absurd lf1 h1
    · exact ⟨h1, I.boxed, h3⟩
  clear c1 d1 l2 f1 P1 b1 lf1 n1
  unfold ptr annB oneB againB at *
  go_wp2_with fail
  refine c2.mono ?_
  rintro e w3 ⟨k2, σ2, rfl, d2, l3, _⟩
  obtain ⟨rfl, b2, s2⟩ := P2.out k2 σ2 d2
  have c3 := l3.crash hKl (by decide) (by decide) 0 (.slice none 0 0) [] ⟨none, 0, rfl, by omega, Nat.le_refl _, fun e => absurd rfl e⟩
  have f2 := l3.2.2.1
  have B2 : Hid (Boxed annLt annD σ2) := b2
  have S2 : Hid (Stays σ2 annN) := s2
  have F2 : Hid (Fits annK _ _ σ2) := f2
  clear c2 d2 l3 P2 b2 s2 f2
  unfold ptr at *
  go_wp2_with fail
  refine c3.mono ?_
  rintro e w4 ⟨ks, rfl, hks, l4, _⟩
  generalize hσ : σ2.crashed (min (Int.toNat 0) σ2.chs.length) ks [] = σ3 at *
  have b3 : Boxed annLt annD σ3 := by rw [← hσ]; exact B2.out.crashed F2.out _ _ _
  have s3 : Stays σ3 annN := by rw [← hσ]; exact S2.out.crashed _ _ _
  have f3 := l4.2.2.1
  have n3 : (σ3.now annN).isSome = true := s3.now f3
  have r3 : (σ3.read annN).getD [] = helloB.data.toList := read_boxed b3 f3 rfl n3
  have k3 : ∀ s, (σ3.now s).isSome = true → s ∈ annK := f3.nowK
  clear c3 hks B2 S2 F2 hσ b3 s3 f3
  have c4 := told_any l4 hG hKl annK_len annB
  have P4 : Hid (∀ ks, Sorted σ3.now ks → toldOf σ3 annB.data.toList (sortL (ks.filterMap letterOf)) = [(oneB.data.toList, helloB.data.toList)]) := fun ks hs => by
    rw [told_one annN_let rfl hs (fun s h k' hl => annK_only (fun s h => k3 s ((hs.mem s).1 h)) s h _ hl), if_pos n3, r3]
  have P5 : Hid (∀ ks, Sorted σ3.now ks → Lib.compact ((sortL (ks.filterMap letterOf)).map (·.1)) = [annB.data.toList]) := fun ks hs =>
    users_one annN_let hs ((hs.mem _).2 n3) (annK_only (fun s h => k3 s ((hs.mem s).1 h)))
  clear n3 r3 k3 l4
  unfold ptr annB at *
  go_wp2_with fail
  refine c4.mono ?_
  rintro e w5 ⟨v, ks4, rfl, hs4, hr4, l5, _⟩
  have hr4 : RowT w5 w4.heap.size v [(oneB.data.toList, helloB.data.toList)] := by
    rw [← P4.out ks4 hs4]
    exact hr4
  have c5 := users_any l5 hG hKl annK_len
  have Hr4 : Hid (RowT w5 _ v [(oneB.data.toList, helloB.data.toList)]) := hr4
  obtain ⟨g, cap, rfl, _, _, _⟩ := row_one hr4
  clear c4 hs4 P4 l5 hr4
  unfold ptr at *
  go_wp2_with fail
  refine c5.mono ?_
  rintro e w6 ⟨v', ks5, rfl, hs5, hr5, l6, k6⟩
  rw [P5.out ks5 hs5] at hr5
  have hr4 := k6.owns Hr4.out (fun _ _ e => e)
  obtain ⟨g', cap', e1, q0, q1, _⟩ := row_one (x := (oneB.data.toList, helloB.data.toList)) hr4
  injection e1 with e1 _ _
  injection e1 with e1
  injection e1 with e1
  subst e1
  obtain ⟨g5, cap5, rfl, q2, _⟩ := row9_one hr5
  have F := l6.2.2.2
  clear c5 hs5 P5 l6 hr5 hr4 Hr4 k6
  have o1 : (⟨(oneB.data.toList, helloB.data.toList).1.toArray⟩ : ByteArray) = ⟨#[49]⟩ := rfl
  have o2 : (⟨(oneB.data.toList, helloB.data.toList).2.toArray⟩ : ByteArray) = ⟨#[104, 101, 108, 108, 111]⟩ := rfl
  have o3 : (⟨annB.data.toList.toArray⟩ : ByteArray) = ⟨#[97, 110, 110]⟩ := rfl
  rw [o1] at q0
  rw [o2] at q1
  try rw [o3] at q2
  clear o1 o2 o3
  go_wp2_with (go_at_call 29; refine (num_any _ _).mono ?_; rintro e w' ⟨rfl, rfl⟩)
  go_ret
  exact ⟨rfl, F⟩

end Go.Proofs.YtegbkpjcjlihmabGreatDoor
