/-
  The law's own Do: the other calls that write, Stop, and no call.
-/
import Derived.Test.YtegbkpjcjlihmabDoa
namespace Go.Proofs.Ytegbkpjcjlihmab
open Go.RowKit Go.Maps

section
variable {w : World} {A : Nat → Prop} {d : Nat} {σ : Dk} {K : List Text} {C L : Nat}

set_option maxHeartbeats 2000000 in
set_option maxRecDepth 100000 in
theorem do1 (h : DiskAt w A d K.length σ) (hf : Fits K C L σ) (_hKl : K.length ≤ 1099511627776) (_hC : C ≤ 1099511627776) (hL : L + 1099511627776 ≤ 140737488355328) (o : Op) (tv : Value) (ho : OpOk K o) (hs : o.s.size ≤ 1099511627776) (hk : o.kind = 1) :
    Calls Try.prog 6 #[ptr d, opVal o tv] w fun e w' => ∃ r σ', e = .returned (.int .i64 r) ∧ Step σ o r σ' ∧ DiskAt w' (ext A w w') d K.length σ' ∧ Keeps A w w' := by
  obtain ⟨mn, ms, cv, vals, bv, h⟩ := h
  obtain ⟨w0, hw0⟩ : ∃ w0, w0 = w.alloc (.cells #[.int .i64 o.kind, .string o.name, .string o.s, .int .i64 o.n, tv] 28) := ⟨_, rfl⟩
  have k0 : Fresh w w0 := by rw [hw0]; exact (Keeps.refl _ w).alloc _
  have h0 := h.kept (A' := A) k0 (fun _ _ e => e) (fun _ h => h)
  have hc := append_any h0 hf.left hf.nowIn o.name o.s ho.name (fun x hx => by have := (hf.sizes x hx).2; omega)
  rw [hw0] at hc k0
  clear hw0 h0 h
  unfold ptr opVal at *
  rw [hk] at hc k0 ⊢
  go_enter Try.func6, Try.ntmps6
  go_wp2_with fail
  refine hc.mono ?_
  rintro e w1 ⟨k, σ', rfl, hs, hd, kA⟩
  have HB : Hid _ := boxed k0 ⟨hd, kA⟩
  clear hc hd kA
  go_wp2_with fail
  refine (num_any k w1).mono ?_
  rintro e w2 ⟨rfl, rfl⟩
  go_wp2
  go_ret
  exact ⟨k, σ', rfl, .inr (.inl ⟨hk, hs⟩), HB.out.1, HB.out.2⟩

set_option maxHeartbeats 2000000 in
set_option maxRecDepth 100000 in
theorem do2 (h : DiskAt w A d K.length σ) (hf : Fits K C L σ) (_hKl : K.length ≤ 1099511627776) (_hC : C ≤ 1099511627776) (_hL : L + 1099511627776 ≤ 140737488355328) (o : Op) (tv : Value) (ho : OpOk K o) (_hs : o.s.size ≤ 1099511627776) (hk : o.kind = 2) :
    Calls Try.prog 6 #[ptr d, opVal o tv] w fun e w' => ∃ r σ', e = .returned (.int .i64 r) ∧ Step σ o r σ' ∧ DiskAt w' (ext A w w') d K.length σ' ∧ Keeps A w w' := by
  obtain ⟨mn, ms, cv, vals, bv, h⟩ := h
  obtain ⟨w0, hw0⟩ : ∃ w0, w0 = w.alloc (.cells #[.int .i64 o.kind, .string o.name, .string o.s, .int .i64 o.n, tv] 28) := ⟨_, rfl⟩
  have k0 : Fresh w w0 := by rw [hw0]; exact (Keeps.refl _ w).alloc _
  have h0 := h.kept (A' := A) k0 (fun _ _ e => e) (fun _ h => h)
  have hc := sync_any h0 hf.left hf.nowIn o.name ho.name
  rw [hw0] at hc k0
  clear hw0 h0 h
  unfold ptr opVal at *
  rw [hk] at hc k0 ⊢
  go_enter Try.func6, Try.ntmps6
  go_wp2_with fail
  refine hc.mono ?_
  rintro e w1 ⟨k, σ', rfl, hs, hd, kA⟩
  have HB : Hid _ := boxed k0 ⟨hd, kA⟩
  clear hc hd kA
  go_wp2_with fail
  refine (num_any k w1).mono ?_
  rintro e w2 ⟨rfl, rfl⟩
  go_wp2
  go_ret
  exact ⟨k, σ', rfl, .inr (.inr (.inl ⟨hk, hs⟩)), HB.out.1, HB.out.2⟩

set_option maxHeartbeats 2000000 in
set_option maxRecDepth 100000 in
theorem do3 (h : DiskAt w A d K.length σ) (hf : Fits K C L σ) (hKl : K.length ≤ 1099511627776) (hC : C ≤ 1099511627776) (_hL : L + 1099511627776 ≤ 140737488355328) (o : Op) (tv : Value) (ho : OpOk K o) (_hs : o.s.size ≤ 1099511627776) (hk : o.kind = 3) :
    Calls Try.prog 6 #[ptr d, opVal o tv] w fun e w' => ∃ r σ', e = .returned (.int .i64 r) ∧ Step σ o r σ' ∧ DiskAt w' (ext A w w') d K.length σ' ∧ Keeps A w w' := by
  obtain ⟨mn, ms, cv, vals, bv, h⟩ := h
  obtain ⟨w0, hw0⟩ : ∃ w0, w0 = w.alloc (.cells #[.int .i64 o.kind, .string o.name, .string o.s, .int .i64 o.n, tv] 28) := ⟨_, rfl⟩
  have k0 : Fresh w w0 := by rw [hw0]; exact (Keeps.refl _ w).alloc _
  have h0 := h.kept (A' := A) k0 (fun _ _ e => e) (fun _ h => h)
  have hc := rename_any h0 hf.left hf.nowK hKl (Nat.le_trans hf.chgs hC) o.name o.s ho.name ho.s ho.sK
  rw [hw0] at hc k0
  clear hw0 h0 h
  unfold ptr opVal at *
  rw [hk] at hc k0 ⊢
  go_enter Try.func6, Try.ntmps6
  go_wp2_with fail
  refine hc.mono ?_
  rintro e w1 ⟨k, σ', rfl, hs, hd, kA⟩
  have HB : Hid _ := boxed k0 ⟨hd, kA⟩
  clear hc hd kA
  go_wp2_with fail
  refine (num_any k w1).mono ?_
  rintro e w2 ⟨rfl, rfl⟩
  go_wp2
  go_ret
  exact ⟨k, σ', rfl, .inr (.inr (.inr (.inl ⟨hk, hs⟩))), HB.out.1, HB.out.2⟩

set_option maxHeartbeats 2000000 in
set_option maxRecDepth 100000 in
theorem do4 (h : DiskAt w A d K.length σ) (hf : Fits K C L σ) (hKl : K.length ≤ 1099511627776) (hC : C ≤ 1099511627776) (_hL : L + 1099511627776 ≤ 140737488355328) (o : Op) (tv : Value) (ho : OpOk K o) (_hs : o.s.size ≤ 1099511627776) (hk : o.kind = 4) :
    Calls Try.prog 6 #[ptr d, opVal o tv] w fun e w' => ∃ r σ', e = .returned (.int .i64 r) ∧ Step σ o r σ' ∧ DiskAt w' (ext A w w') d K.length σ' ∧ Keeps A w w' := by
  obtain ⟨mn, ms, cv, vals, bv, h⟩ := h
  obtain ⟨w0, hw0⟩ : ∃ w0, w0 = w.alloc (.cells #[.int .i64 o.kind, .string o.name, .string o.s, .int .i64 o.n, tv] 28) := ⟨_, rfl⟩
  have k0 : Fresh w w0 := by rw [hw0]; exact (Keeps.refl _ w).alloc _
  have h0 := h.kept (A' := A) k0 (fun _ _ e => e) (fun _ h => h)
  have hc := remove_any h0 hf.left hf.nowK hKl (Nat.le_trans hf.chgs hC) o.name ho.name
  rw [hw0] at hc k0
  clear hw0 h0 h
  unfold ptr opVal at *
  rw [hk] at hc k0 ⊢
  go_enter Try.func6, Try.ntmps6
  go_wp2_with fail
  refine hc.mono ?_
  rintro e w1 ⟨k, σ', rfl, hs, hd, kA⟩
  have HB : Hid _ := boxed k0 ⟨hd, kA⟩
  clear hc hd kA
  go_wp2_with fail
  refine (num_any k w1).mono ?_
  rintro e w2 ⟨rfl, rfl⟩
  go_wp2
  go_ret
  exact ⟨k, σ', rfl, .inr (.inr (.inr (.inr (.inl ⟨hk, hs⟩)))), HB.out.1, HB.out.2⟩

set_option maxHeartbeats 2000000 in
set_option maxRecDepth 100000 in
theorem do5 (h : DiskAt w A d K.length σ) (hf : Fits K C L σ) (hKl : K.length ≤ 1099511627776) (_hC : C ≤ 1099511627776) (_hL : L + 1099511627776 ≤ 140737488355328) (o : Op) (tv : Value) (_ho : OpOk K o) (_hs : o.s.size ≤ 1099511627776) (hk : o.kind = 5) :
    Calls Try.prog 6 #[ptr d, opVal o tv] w fun e w' => ∃ r σ', e = .returned (.int .i64 r) ∧ Step σ o r σ' ∧ DiskAt w' (ext A w w') d K.length σ' ∧ Keeps A w w' := by
  obtain ⟨mn, ms, cv, vals, bv, h⟩ := h
  obtain ⟨w0, hw0⟩ : ∃ w0, w0 = w.alloc (.cells #[.int .i64 o.kind, .string o.name, .string o.s, .int .i64 o.n, tv] 28) := ⟨_, rfl⟩
  have k0 : Fresh w w0 := by rw [hw0]; exact (Keeps.refl _ w).alloc _
  have h0 := h.kept (A' := A) k0 (fun _ _ e => e) (fun _ h => h)
  have hc := syncDir_any h0 hf.left hf.setK hKl
  rw [hw0] at hc k0
  clear hw0 h0 h
  unfold ptr opVal at *
  rw [hk] at hc k0 ⊢
  go_enter Try.func6, Try.ntmps6
  go_wp2_with fail
  refine hc.mono ?_
  rintro e w1 ⟨k, σ', rfl, hs, hd, kA⟩
  have HB : Hid _ := boxed k0 ⟨hd, kA⟩
  clear hc hd kA
  go_wp2_with fail
  refine (num_any k w1).mono ?_
  rintro e w2 ⟨rfl, rfl⟩
  go_wp2
  go_ret
  exact ⟨k, σ', rfl, .inr (.inr (.inr (.inr (.inr (.inl ⟨hk, hs⟩))))), HB.out.1, HB.out.2⟩

set_option maxHeartbeats 2000000 in
set_option maxRecDepth 100000 in
theorem do6 (h : DiskAt w A d K.length σ) (o : Op) (tv : Value) (hk : o.kind = 6) :
    Calls Try.prog 6 #[ptr d, opVal o tv] w fun e w' => ∃ r σ', e = .returned (.int .i64 r) ∧ Step σ o r σ' ∧ DiskAt w' (ext A w w') d K.length σ' ∧ Keeps A w w' := by
  obtain ⟨mn, ms, cv, vals, bv, h⟩ := h
  obtain ⟨w0, hw0⟩ : ∃ w0, w0 = w.alloc (.cells #[.int .i64 o.kind, .string o.name, .string o.s, .int .i64 o.n, tv] 28) := ⟨_, rfl⟩
  have k0 : Fresh w w0 := by rw [hw0]; exact (Keeps.refl _ w).alloc _
  have h0 := h.kept (A' := A) k0 (fun _ _ e => e) (fun _ h => h)
  have hc := stop_any h0 o.n
  have HD : Hid (A d) := h.ownD
  rw [hw0] at hc k0
  clear hw0 h0 h
  unfold ptr opVal at *
  rw [hk] at hc k0 ⊢
  go_enter Try.func6, Try.ntmps6
  go_wp2_with fail
  refine hc.mono ?_
  rintro e w1 ⟨rfl, hd, kA, _⟩
  have HB : Hid _ := boxed k0 ⟨⟨mn, ms, cv, vals, bv, hd.grow (fun _ h => .inl h)⟩, kA.mono (S' := A) (fun i _ e => by subst e; exact HD.out)⟩
  clear hc hd kA
  go_wp2_with fail
  refine (num_any 0 w1).mono ?_
  rintro e w2 ⟨rfl, rfl⟩
  go_wp2
  go_ret
  exact ⟨0, _, rfl, .inr (.inr (.inr (.inr (.inr (.inr (.inl ⟨hk, rfl, rfl⟩)))))), HB.out.1, HB.out.2⟩

set_option maxHeartbeats 2000000 in
set_option maxRecDepth 100000 in
theorem do8 (h : DiskAt w A d K.length σ) (o : Op) (tv : Value) (hk : o.kind < 0 ∨ 7 < o.kind) :
    Calls Try.prog 6 #[ptr d, opVal o tv] w fun e w' => ∃ r σ', e = .returned (.int .i64 r) ∧ Step σ o r σ' ∧ DiskAt w' (ext A w w') d K.length σ' ∧ Keeps A w w' := by
  obtain ⟨w0, hw0⟩ : ∃ w0, w0 = w.alloc (.cells #[.int .i64 o.kind, .string o.name, .string o.s, .int .i64 o.n, tv] 28) := ⟨_, rfl⟩
  have k0 : Fresh w w0 := by rw [hw0]; exact (Keeps.refl _ w).alloc _
  have HB : Hid (DiskAt w0 (ext A w w0) d K.length σ ∧ Keeps A w w0) := boxed k0 ⟨h.kept k0 (fun _ _ e => e) (fun _ h => .inl h), Keeps.refl _ _⟩
  rw [hw0] at HB
  have q0 : (o.kind == 0) = false := by simp; omega
  have q1 : (o.kind == 1) = false := by simp; omega
  have q2 : (o.kind == 2) = false := by simp; omega
  have q3 : (o.kind == 3) = false := by simp; omega
  have q4 : (o.kind == 4) = false := by simp; omega
  have q5 : (o.kind == 5) = false := by simp; omega
  have q6 : (o.kind == 6) = false := by simp; omega
  have q7 : (o.kind == 7) = false := by simp; omega
  have HK : Hid (o.kind < 0 ∨ 7 < o.kind) := hk
  clear hw0 h k0 hk
  unfold ptr opVal at *
  go_enter Try.func6, Try.ntmps6
  go_wp2_with fail
  refine (num_any 0 _).mono ?_
  rintro e w2 ⟨rfl, rfl⟩
  go_wp2
  go_ret
  exact ⟨0, _, rfl, .inr (.inr (.inr (.inr (.inr (.inr (.inr (.inr ⟨HK.out, rfl, rfl⟩))))))), HB.out.1, HB.out.2⟩
end
end Go.Proofs.Ytegbkpjcjlihmab
