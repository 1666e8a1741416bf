/-
  The calls, of a disk that was made behind w.
-/
import Derived.Test.YtegbkpjcjlihmaaAlive
namespace Go.Proofs.Ytegbkpjcjlihmaa
open Go.RowKit Go.Maps

section
variable {w wr : World} {A : Nat → Prop} {d : Nat} {σ : Dk} {K : List Text} {C L : Nat}

theorem new_live (K : List Text) (w wr : World) (hF : Fresh w wr) : Calls Try.prog 20 #[] wr fun e w' => ∃ d, e = .returned (ptr d) ∧ Live w w' (ext (fun _ => False) wr w') d K 0 0 Dk.empty := by
  refine (new_any K.length wr).mono ?_
  rintro e w' ⟨d, rfl, hd, k⟩
  have := hF.size
  refine ⟨d, rfl, fun i hi => ?_, hd, Fits.empty _ _ _, hF.trans k⟩
  rcases hi with hi | hi
  · exact hi.elim
  · exact ⟨by omega, hi.2⟩

theorem Live.create (h : Live w wr A d K C L σ) (hKl : K.length ≤ 1099511627776) (hC : C ≤ 1099511627776) (s : ByteArray) (hs : s.size ≤ maxLen) (hsK : s.data.toList ∈ K) :
    Calls Try.prog 35 #[ptr d, .string s] wr fun e w' => ∃ k σ', e = .returned (.int .i64 k) ∧ σ.creates s.data.toList k σ' ∧ Live w w' (ext A wr w') d K (C + 1) L σ' ∧ Keeps A wr w' := by
  obtain ⟨_, _, _, _, _, hi⟩ := h.2.1
  have hf := h.2.2.1
  refine (create_any hi hf.left hf.nowK hKl (Nat.le_trans hf.chgs hC) s hs hsK).mono ?_
  rintro e w' ⟨k, σ', rfl, h1, h2, h3⟩
  exact ⟨k, σ', rfl, h1, h.next h2 h3 (hf.creates hsK h1), h3⟩

theorem Live.append (h : Live w wr A d K C L σ) (hL : L ≤ 1099511627776) (s t : ByteArray) (hs : s.size ≤ maxLen) (ht : t.size ≤ 1099511627776) :
    Calls Try.prog 36 #[ptr d, .string s, .string t] wr fun e w' => ∃ k σ', e = .returned (.int .i64 k) ∧ σ.appends s.data.toList t.data.toList k σ' ∧ Live w w' (ext A wr w') d K C (L + t.size) σ' ∧ Keeps A wr w' := by
  obtain ⟨_, _, _, _, _, hi⟩ := h.2.1
  have hf := h.2.2.1
  refine (append_any hi hf.left hf.nowIn s t hs (fun x hx => by have := (hf.sizes x hx).2; omega)).mono ?_
  rintro e w' ⟨k, σ', rfl, h1, h2, h3⟩
  have := hf.appends h1
  rw [Array.length_toList] at this
  exact ⟨k, σ', rfl, h1, h.next h2 h3 this, h3⟩

theorem Live.sync (h : Live w wr A d K C L σ) (s : ByteArray) (hs : s.size ≤ maxLen) :
    Calls Try.prog 37 #[ptr d, .string s] wr fun e w' => ∃ k σ', e = .returned (.int .i64 k) ∧ σ.syncs s.data.toList k σ' ∧ Live w w' (ext A wr w') d K C L σ' ∧ Keeps A wr w' := by
  obtain ⟨_, _, _, _, _, hi⟩ := h.2.1
  have hf := h.2.2.1
  refine (sync_any hi hf.left hf.nowIn s hs).mono ?_
  rintro e w' ⟨k, σ', rfl, h1, h2, h3⟩
  exact ⟨k, σ', rfl, h1, h.next h2 h3 (hf.syncs h1), h3⟩

theorem Live.syncDir (h : Live w wr A d K C L σ) (hKl : K.length ≤ 1099511627776) :
    Calls Try.prog 40 #[ptr d] wr fun e w' => ∃ k σ', e = .returned (.int .i64 k) ∧ σ.syncsDir k σ' ∧ Live w w' (ext A wr w') d K C L σ' ∧ Keeps A wr w' := by
  obtain ⟨_, _, _, _, _, hi⟩ := h.2.1
  have hf := h.2.2.1
  refine (syncDir_any hi hf.left hf.setK hKl).mono ?_
  rintro e w' ⟨k, σ', rfl, h1, h2, h3⟩
  exact ⟨k, σ', rfl, h1, h.next h2 h3 (hf.syncsDir h1), h3⟩

theorem Live.stop (h : Live w wr A d K C L σ) (n : Int) (hn : n < 9223372036854775808) :
    Calls Try.prog 41 #[ptr d, .int .i64 n] wr fun e w' => e = .returned (.tuple #[]) ∧ Live w w' (ext A wr w') d K C L { σ with left := some n.toNat } ∧ Keeps A wr w' := by
  obtain ⟨mn, ms, cv, vals, bv, hi⟩ := h.2.1
  refine (stop_any hi n).mono ?_
  rintro e w' ⟨rfl, h1, h2, _⟩
  have k : Keeps A wr w' := h2.mono (fun i _ e => by subst e; exact hi.ownD)
  exact ⟨rfl, h.next ⟨mn, ms, cv, vals, bv, h1.grow (fun _ h => .inl h)⟩ k (h.2.2.1.setLeft _ (fun j hj => by rw [← Option.some.inj hj]; omega)), k⟩

theorem Live.names (h : Live w wr A d K C L σ) (hKl : K.length ≤ 1099511627776) :
    Calls Try.prog 52 #[ptr d] wr fun e w' => ∃ v ks, e = .returned v ∧ Sorted σ.now ks ∧ ks.length ≤ K.length ∧ (∀ s ∈ ks, s.length ≤ maxLen) ∧ Row9 w' wr.heap.size v ks ∧ Live w w' A d K C L σ ∧ Fresh wr w' := by
  obtain ⟨_, _, _, _, _, hi⟩ := h.2.1
  refine (names_any hi hKl).mono ?_
  rintro e w' ⟨v, ks, rfl, h1, h2, h3, h4, h5⟩
  exact ⟨v, ks, rfl, h1, h2, h3, h4, h.fresh h5, h5⟩

theorem Live.read (h : Live w wr A d K C L σ) (s : ByteArray) (hs : s.size ≤ maxLen) :
    Calls Try.prog 54 #[ptr d, .string s] wr fun e w' => e = .returned (.tuple #[.string ⟨((σ.read s.data.toList).getD []).toArray⟩, .bool (σ.read s.data.toList).isSome]) ∧ Live w w' A d K C L σ ∧ Keeps A wr w' := by
  obtain ⟨mn, ms, cv, vals, bv, hi⟩ := h.2.1
  refine (read_any hi h.2.2.1.nowIn s hs).mono ?_
  rintro e w' ⟨rfl, h1, h2, h3⟩
  have hn := h.next ⟨mn, ms, cv, vals, bv, h1.grow (A' := ext A wr w') (fun _ h => .inl h)⟩ h2 h.2.2.1
  rw [ext_same h3] at hn
  exact ⟨rfl, hn, h2⟩

theorem Live.crash (h : Live w wr A d K C L σ) (hKl : K.length ≤ 1099511627776) (hC : C ≤ 1099511627776) (hL : L ≤ 1099511627776) (n : Int) (tv : Value) (ts : List Int) (ht : Ints wr A tv ts) :
    Calls Try.prog 42 #[ptr d, .int .i64 n, tv] wr fun e w' => ∃ ks, e = .returned (.tuple #[]) ∧ Sorted (σ.settled (min n.toNat σ.chs.length)).safe ks ∧ Live w w' (ext A wr w') d K C L (σ.crashed (min n.toNat σ.chs.length) ks ts) ∧ Keeps A wr w' := by
  obtain ⟨_, _, _, _, _, hi⟩ := h.2.1
  have hf := h.2.2.1
  refine (crash_any hi hf.setK hKl (Nat.le_trans hf.chgs hC) hf.setIn L hf.sizes hL n tv ts ht).mono ?_
  rintro e w' ⟨rfl, ks, h1, h2, h3⟩
  exact ⟨ks, rfl, h1, h.next h2 h3 (hf.crashed _ ks ts), h3⟩

theorem Live.call (h : Live w wr A d K C L σ) (hKl : K.length ≤ 1099511627776) (hC : C ≤ 1099511627776) (hL : L ≤ 1099511627776) (o : Op) (tv : Value) (ho : OpOk K o) (hs : o.s.size ≤ 1099511627776) (hl : o.tails.length ≤ 1099511627776) (ht : Ints wr A tv o.tails) :
    Calls Try.prog 22 #[ptr d, opVal o tv] wr fun e w' => ∃ r σ', e = .returned (.int .i64 r) ∧ Step σ o r σ' ∧ Live w w' (ext A wr w') d K (C + 1) (L + o.s.size) σ' ∧ Keeps A wr w' := by
  have hf := h.2.2.1
  refine (doOp_any h.2.1 (fun k hk => (h.1 k hk).2) hf hKl hC hL o tv ho hs hl ht).mono ?_
  rintro e w' ⟨r, σ', rfl, h1, h2, h3⟩
  exact ⟨r, σ', rfl, h1, h.next h2 h3 (hf.step ho h1), h3⟩

end

theorem str_a : (⟨#[97]⟩ : ByteArray).data.toList = ta := rfl

set_option maxHeartbeats 4000000 in
set_option maxRecDepth 100000 in
theorem alive_any (w : World) : Calls Try.prog 25 #[] w fun e w' => e = .returned (.bool true) ∧ Fresh w w' := by
  have n0 := new_live [ta, tb] w w (Keeps.refl _ w)
  go_enter Try.func25, Try.ntmps25
  go_wp2_with fail
  refine n0.mono ?_
  rintro e w1 ⟨d, rfl, l1⟩
  have c1 := l1.create (by simp) (by omega) ⟨#[97]⟩ (by unfold maxLen; decide) (by simp [ta])
  clear n0 l1
  unfold ptr at *
  go_wp2_with fail
  refine c1.mono ?_
  rintro e w2 ⟨k1, σ1, rfl, s1, l2, _⟩
  obtain ⟨x, a1⟩ := al_create s1
  have hx : putN (fun _ => none) ta x ta = some x := by simp [putN]
  have c2 := l2.append (by omega) ⟨#[97]⟩ ⟨#[120, 121]⟩ (by unfold maxLen; decide) (by decide)
  clear c1 s1 l2
  unfold ptr at *
  go_wp2_with fail
  refine c2.mono ?_
  rintro e w3 ⟨k2, σ2, rfl, s2, l3, _⟩
  have a2 := al_append a1 hx s2
  have c3 := l3.sync ⟨#[97]⟩ (by unfold maxLen; decide)
  clear c2 s2 l3 a1
  unfold ptr at *
  go_wp2_with fail
  refine c3.mono ?_
  rintro e w4 ⟨k3, σ3, rfl, s3, l4, _⟩
  have a3 := al_sync a2 hx s3
  have c4 := l4.append (by simp [ByteArray.size]) ⟨#[97]⟩ ⟨#[122]⟩ (by unfold maxLen; decide) (by decide)
  clear c3 s3 l4 a2
  unfold ptr at *
  go_wp2_with fail
  refine c4.mono ?_
  rintro e w5 ⟨k4, σ4, rfl, s4, l5, _⟩
  have a4 := al_append a3 hx s4
  have c5 := l5.syncDir (by simp)
  clear c4 s4 l5 a3
  unfold ptr at *
  go_wp2_with fail
  refine c5.mono ?_
  rintro e w6 ⟨k5, σ5, rfl, s5, l6, _⟩
  have a5 := al_syncDir a4 rfl s5
  have c6 := l6.create (by simp) (by omega) ⟨#[98]⟩ (by unfold maxLen; decide) (by simp [tb])
  clear c5 s5 l6 a4
  unfold ptr at *
  go_wp2_with fail
  refine c6.mono ?_
  rintro e w7 ⟨k6, σ6, rfl, s6, l7, _⟩
  obtain ⟨y, a6⟩ := al_create2 a5 (by simp [putN, ta, tb]) s6
  have c7 := l7.crash (by simp) (by omega) (by simp [ByteArray.size]) 0 (.slice none 0 0) [] ⟨none, 0, rfl, by omega, Nat.le_refl _, fun e => absurd rfl e⟩
  clear c6 s6 l7 a5
  unfold ptr at *
  go_wp2_with fail
  refine c7.mono ?_
  rintro e w8 ⟨ks, rfl, hks, l8, _⟩
  have e0 : min (Int.toNat 0) σ6.chs.length = 0 := by simp
  rw [e0] at hks l8
  obtain ⟨hks', a7⟩ := al_crash a6 hks
  generalize σ6.crashed 0 ks [] = σ7 at l8 a7
  have c8 := l8.read ⟨#[97]⟩ (by unfold maxLen; decide)
  have r8 : σ7.read (⟨#[97]⟩ : ByteArray).data.toList = some [120, 121] := by
    show (σ7.now ta).map σ7.cont = _
    rw [a7.now, hx]
    show some (σ7.cont x) = _
    rw [a7.cont]
    rfl
  rw [r8] at c8
  clear c7 hks l8 a6 r8 e0
  unfold ptr at *
  go_wp2_with fail
  refine c8.mono ?_
  rintro e w9 ⟨rfl, l9, _⟩
  have c9 := l9.read ⟨#[98]⟩ (by unfold maxLen; decide)
  have r9 : σ7.read (⟨#[98]⟩ : ByteArray).data.toList = none := by
    show (σ7.now tb).map σ7.cont = _
    rw [a7.now]
    simp [putN, ta, tb]
  rw [r9] at c9
  clear c8 l9 r9
  unfold ptr at *
  go_wp2_with fail
  refine c9.mono ?_
  rintro e w10 ⟨rfl, l10, _⟩
  have c10 := l10.names (by simp)
  clear c9 l10
  unfold ptr at *
  go_wp2_with fail
  refine c10.mono ?_
  rintro e w11 ⟨v, ls, rfl, hs, _, _, hr, l11, _⟩
  rw [a7.now] at hs
  have hls := sorted_one hs
  obtain ⟨ao, cap, rfl, _, _, _⟩ := own_form hr
  have hll : ls.length = 1 := by rw [hls]; rfl
  rw [hll]
  have F := l11.2.2.2
  clear hr l11 hs hls hll c10 a7
  go_wp2
  go_ret
  exact ⟨rfl, F⟩

end Go.Proofs.Ytegbkpjcjlihmaa
