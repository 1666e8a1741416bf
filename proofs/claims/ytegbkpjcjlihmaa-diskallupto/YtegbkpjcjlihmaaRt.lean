/-
  The law's own 'told': one call of the reference.
-/
import Derived.Test.YtegbkpjcjlihmaaRl
import Derived.Test.YtegbkpjcjlihmaaDod
namespace Go.Proofs.Ytegbkpjcjlihmaa
open Go.RowKit Go.Maps

/-- what is asked of the reference -/
structure Rg (ρ : Rf) (m : Nat) (l : List Ent) (L : Nat) : Prop where
  left : -1 ≤ ρ.left ∧ ρ.left < 9223372036854775808
  len : ρ.log.length = m + 1
  last : ρ.log[m]? = some l
  logs : ρ.log.length ≤ 1099511627
  names : ∀ (i : Nat) l', ρ.log[i]? = some l' → l'.length ≤ 1099511627 ∧ ∀ s n, (s, n) ∈ l' → n < ρ.files.length
  files : ρ.files.length ≤ 1099511627
  sizes : ∀ f ∈ ρ.files, f.2 ≤ f.1.length ∧ f.1.length ≤ L

/-- behind the box -/
theorem rboxed {w w0 w' : World} {A : Nat → Prop} {r : Nat} {ρ : Rf} (k0 : Fresh w w0) (h : RefAt w' (ext A w0 w') r ρ ∧ Keeps A w0 w') : RefAt w' (ext A w w') r ρ ∧ Keeps A w w' := by
  have := k0.size
  exact ⟨h.1.grow (fun i hi => hi.imp id (fun h => ⟨by omega, h.2⟩)), (Keeps.ofFresh k0).then h.2 (fun _ _ e => e)⟩

section
variable {w : World} {A : Nat → Prop} {r : Nat} {ρ : Rf} {m : Nat} {l : List Ent} {L : Nat}

set_option maxHeartbeats 2000000 in
set_option maxRecDepth 100000 in
theorem told0 (h : RefAt w A r ρ) (hg : Rg ρ m l L) (o : Op) (tv : Value) (hk : o.kind = 0) :
    Calls Try.prog 23 #[ptr r, opVal o tv] w fun e w' => ∃ k ρ', e = .returned (.int .i64 k) ∧ RStep ρ l o k ρ' ∧ RefAt w' (ext A w w') r ρ' ∧ Keeps A w w' := by
  obtain ⟨fv, lv, vals, h⟩ := h
  obtain ⟨w0, hw0⟩ : ∃ w0, w0 = w.alloc (.cells #[.int .i64 o.kind, .string o.name, .string o.s, .int .i64 o.n, tv] 52) := ⟨_, rfl⟩
  have k0 : Fresh w w0 := by rw [hw0]; exact (Keeps.refl _ w).alloc _
  have h0 := h.kept (A' := A) k0 (fun _ _ e => e) (fun _ h => h)
  have hc := rcreate_any h0 hg.left hg.len hg.last (hg.names m l hg.last).1 hg.logs hg.files o.name
  rw [hw0] at hc k0
  clear hw0 h0 h
  unfold ptr opVal at *
  rw [hk] at hc k0 ⊢
  go_enter Try.func23, Try.ntmps23
  go_wp2_with fail
  refine hc.mono ?_
  rintro e w1 ⟨k, ρ', rfl, hs, hd, kA⟩
  have HB : Hid _ := rboxed k0 ⟨hd, kA⟩
  clear hc hd kA
  go_wp2
  go_ret
  exact ⟨k, ρ', rfl, .inl ⟨hk, hs⟩, HB.out.1, HB.out.2⟩

set_option maxHeartbeats 2000000 in
set_option maxRecDepth 100000 in
theorem told1 (h : RefAt w A r ρ) (hg : Rg ρ m l L) (o : Op) (hL : L + o.s.size ≤ 1099511627776) (tv : Value) (hk : o.kind = 1) :
    Calls Try.prog 23 #[ptr r, opVal o tv] w fun e w' => ∃ k ρ', e = .returned (.int .i64 k) ∧ RStep ρ l o k ρ' ∧ RefAt w' (ext A w w') r ρ' ∧ Keeps A w w' := by
  obtain ⟨fv, lv, vals, h⟩ := h
  obtain ⟨w0, hw0⟩ : ∃ w0, w0 = w.alloc (.cells #[.int .i64 o.kind, .string o.name, .string o.s, .int .i64 o.n, tv] 52) := ⟨_, rfl⟩
  have k0 : Fresh w w0 := by rw [hw0]; exact (Keeps.refl _ w).alloc _
  have h0 := h.kept (A' := A) k0 (fun _ _ e => e) (fun _ h => h)
  have hc := rappend_any h0 hg.left hg.len hg.last (hg.names m l hg.last).1 (hg.names m l hg.last).2 o.name o.s (fun f hf => by have := (hg.sizes f hf).2; omega)
  rw [hw0] at hc k0
  clear hw0 h0 h
  unfold ptr opVal at *
  rw [hk] at hc k0 ⊢
  go_enter Try.func23, Try.ntmps23
  go_wp2_with fail
  refine hc.mono ?_
  rintro e w1 ⟨k, ρ', rfl, hs, hd, kA⟩
  have HB : Hid _ := rboxed k0 ⟨hd, kA⟩
  clear hc hd kA
  go_wp2
  go_ret
  exact ⟨k, ρ', rfl, .inr (.inl ⟨hk, hs⟩), HB.out.1, HB.out.2⟩

set_option maxHeartbeats 2000000 in
set_option maxRecDepth 100000 in
theorem told2 (h : RefAt w A r ρ) (hg : Rg ρ m l L) (o : Op) (tv : Value) (hk : o.kind = 2) :
    Calls Try.prog 23 #[ptr r, opVal o tv] w fun e w' => ∃ k ρ', e = .returned (.int .i64 k) ∧ RStep ρ l o k ρ' ∧ RefAt w' (ext A w w') r ρ' ∧ Keeps A w w' := by
  obtain ⟨fv, lv, vals, h⟩ := h
  obtain ⟨w0, hw0⟩ : ∃ w0, w0 = w.alloc (.cells #[.int .i64 o.kind, .string o.name, .string o.s, .int .i64 o.n, tv] 52) := ⟨_, rfl⟩
  have k0 : Fresh w w0 := by rw [hw0]; exact (Keeps.refl _ w).alloc _
  have h0 := h.kept (A' := A) k0 (fun _ _ e => e) (fun _ h => h)
  have hc := rsync_any h0 hg.left hg.len hg.last (hg.names m l hg.last).1 (hg.names m l hg.last).2 o.name
  rw [hw0] at hc k0
  clear hw0 h0 h
  unfold ptr opVal at *
  rw [hk] at hc k0 ⊢
  go_enter Try.func23, Try.ntmps23
  go_wp2_with fail
  refine hc.mono ?_
  rintro e w1 ⟨k, ρ', rfl, hs, hd, kA⟩
  have HB : Hid _ := rboxed k0 ⟨hd, kA⟩
  clear hc hd kA
  go_wp2
  go_ret
  exact ⟨k, ρ', rfl, .inr (.inr (.inl ⟨hk, hs⟩)), HB.out.1, HB.out.2⟩

set_option maxHeartbeats 2000000 in
set_option maxRecDepth 100000 in
theorem told3 (h : RefAt w A r ρ) (hg : Rg ρ m l L) (o : Op) (tv : Value) (hk : o.kind = 3) :
    Calls Try.prog 23 #[ptr r, opVal o tv] w fun e w' => ∃ k ρ', e = .returned (.int .i64 k) ∧ RStep ρ l o k ρ' ∧ RefAt w' (ext A w w') r ρ' ∧ Keeps A w w' := by
  obtain ⟨fv, lv, vals, h⟩ := h
  obtain ⟨w0, hw0⟩ : ∃ w0, w0 = w.alloc (.cells #[.int .i64 o.kind, .string o.name, .string o.s, .int .i64 o.n, tv] 52) := ⟨_, rfl⟩
  have k0 : Fresh w w0 := by rw [hw0]; exact (Keeps.refl _ w).alloc _
  have h0 := h.kept (A' := A) k0 (fun _ _ e => e) (fun _ h => h)
  have hc := rrename_any h0 hg.left hg.len hg.last (hg.names m l hg.last).1 hg.logs o.name o.s
  rw [hw0] at hc k0
  clear hw0 h0 h
  unfold ptr opVal at *
  rw [hk] at hc k0 ⊢
  go_enter Try.func23, Try.ntmps23
  go_wp2_with fail
  refine hc.mono ?_
  rintro e w1 ⟨k, ρ', rfl, hs, hd, kA⟩
  have HB : Hid _ := rboxed k0 ⟨hd, kA⟩
  clear hc hd kA
  go_wp2
  go_ret
  exact ⟨k, ρ', rfl, .inr (.inr (.inr (.inl ⟨hk, hs⟩))), HB.out.1, HB.out.2⟩

set_option maxHeartbeats 2000000 in
set_option maxRecDepth 100000 in
theorem told4 (h : RefAt w A r ρ) (hg : Rg ρ m l L) (o : Op) (tv : Value) (hk : o.kind = 4) :
    Calls Try.prog 23 #[ptr r, opVal o tv] w fun e w' => ∃ k ρ', e = .returned (.int .i64 k) ∧ RStep ρ l o k ρ' ∧ RefAt w' (ext A w w') r ρ' ∧ Keeps A w w' := by
  obtain ⟨fv, lv, vals, h⟩ := h
  obtain ⟨w0, hw0⟩ : ∃ w0, w0 = w.alloc (.cells #[.int .i64 o.kind, .string o.name, .string o.s, .int .i64 o.n, tv] 52) := ⟨_, rfl⟩
  have k0 : Fresh w w0 := by rw [hw0]; exact (Keeps.refl _ w).alloc _
  have h0 := h.kept (A' := A) k0 (fun _ _ e => e) (fun _ h => h)
  have hc := rremove_any h0 hg.left hg.len hg.last (hg.names m l hg.last).1 hg.logs o.name
  rw [hw0] at hc k0
  clear hw0 h0 h
  unfold ptr opVal at *
  rw [hk] at hc k0 ⊢
  go_enter Try.func23, Try.ntmps23
  go_wp2_with fail
  refine hc.mono ?_
  rintro e w1 ⟨k, ρ', rfl, hs, hd, kA⟩
  have HB : Hid _ := rboxed k0 ⟨hd, kA⟩
  clear hc hd kA
  go_wp2
  go_ret
  exact ⟨k, ρ', rfl, .inr (.inr (.inr (.inr (.inl ⟨hk, hs⟩)))), HB.out.1, HB.out.2⟩

set_option maxHeartbeats 2000000 in
set_option maxRecDepth 100000 in
theorem told5 (h : RefAt w A r ρ) (hg : Rg ρ m l L) (o : Op) (tv : Value) (hk : o.kind = 5) :
    Calls Try.prog 23 #[ptr r, opVal o tv] w fun e w' => ∃ k ρ', e = .returned (.int .i64 k) ∧ RStep ρ l o k ρ' ∧ RefAt w' (ext A w w') r ρ' ∧ Keeps A w w' := by
  obtain ⟨fv, lv, vals, h⟩ := h
  obtain ⟨w0, hw0⟩ : ∃ w0, w0 = w.alloc (.cells #[.int .i64 o.kind, .string o.name, .string o.s, .int .i64 o.n, tv] 52) := ⟨_, rfl⟩
  have k0 : Fresh w w0 := by rw [hw0]; exact (Keeps.refl _ w).alloc _
  have h0 := h.kept (A' := A) k0 (fun _ _ e => e) (fun _ h => h)
  have hc := rsyncDir_any h0 hg.left hg.len hg.last
  rw [hw0] at hc k0
  clear hw0 h0 h
  unfold ptr opVal at *
  rw [hk] at hc k0 ⊢
  go_enter Try.func23, Try.ntmps23
  go_wp2_with fail
  refine hc.mono ?_
  rintro e w1 ⟨k, ρ', rfl, hs, hd, kA⟩
  have HB : Hid _ := rboxed k0 ⟨hd, kA⟩
  clear hc hd kA
  go_wp2
  go_ret
  exact ⟨k, ρ', rfl, .inr (.inr (.inr (.inr (.inr (.inl ⟨hk, hs⟩))))), HB.out.1, HB.out.2⟩

set_option maxHeartbeats 2000000 in
set_option maxRecDepth 100000 in
theorem told6 (h : RefAt w A r ρ) (o : Op) (tv : Value) (hk : o.kind = 6) :
    Calls Try.prog 23 #[ptr r, opVal o tv] w fun e w' => ∃ k ρ', e = .returned (.int .i64 k) ∧ RStep ρ l o k ρ' ∧ RefAt w' (ext A w w') r ρ' ∧ Keeps A w w' := by
  obtain ⟨fv, lv, vals, h⟩ := h
  obtain ⟨w0, hw0⟩ : ∃ w0, w0 = w.alloc (.cells #[.int .i64 o.kind, .string o.name, .string o.s, .int .i64 o.n, tv] 52) := ⟨_, rfl⟩
  have k0 : Fresh w w0 := by rw [hw0]; exact (Keeps.refl _ w).alloc _
  have h0 := h.kept (A' := A) k0 (fun _ _ e => e) (fun _ h => h)
  have hc := rstop_any h0 o.n
  have HD : Hid (A r) := h.ownR
  rw [hw0] at hc k0
  clear hw0 h0 h
  unfold ptr opVal at *
  rw [hk] at hc k0 ⊢
  go_enter Try.func23, Try.ntmps23
  go_wp2_with fail
  refine hc.mono ?_
  rintro e w1 ⟨rfl, hd, kA⟩
  have HB : Hid _ := rboxed k0 ⟨RefAt.grow (B := ext A _ w1) ⟨fv, lv, vals, hd⟩ (fun _ h => .inl h), kA.mono (S' := A) (fun i _ e => by subst e; exact HD.out)⟩
  clear hc hd kA
  go_wp2
  go_ret
  exact ⟨0, _, rfl, .inr (.inr (.inr (.inr (.inr (.inr (.inl ⟨hk, rfl, rfl⟩)))))), HB.out.1, HB.out.2⟩

set_option maxHeartbeats 2000000 in
set_option maxRecDepth 100000 in
theorem told7 (h : RefAt w A r ρ) (hg : Rg ρ m l L) (hL : L ≤ 1099511627776) (o : Op) (tv : Value) (hn : -9223372036854775808 ≤ o.n ∧ o.n < 9223372036854775808) (ht : Ints w A tv o.tails) (htl : o.tails.length ≤ 1099511627776) (hk : o.kind = 7) :
    Calls Try.prog 23 #[ptr r, opVal o tv] w fun e w' => ∃ k ρ', e = .returned (.int .i64 k) ∧ RStep ρ l o k ρ' ∧ RefAt w' (ext A w w') r ρ' ∧ Keeps A w w' := by
  obtain ⟨fv, lv, vals, h⟩ := h
  obtain ⟨w0, hw0⟩ : ∃ w0, w0 = w.alloc (.cells #[.int .i64 o.kind, .string o.name, .string o.s, .int .i64 o.n, tv] 52) := ⟨_, rfl⟩
  have k0 : Fresh w w0 := by rw [hw0]; exact (Keeps.refl _ w).alloc _
  have h0 := h.kept (A' := A) k0 (fun _ _ e => e) (fun _ h => h)
  have ht0 : Ints w0 A tv o.tails := by rw [hw0]; exact ht.of_alloc _
  have hlen := hg.len
  obtain ⟨lk, hlk⟩ : ∃ lk, ρ.log[min o.n.toNat m]? = some lk := ⟨ρ.log[min o.n.toNat m]'(by omega), List.getElem?_eq_getElem _⟩
  have hc := rcrash_any h0 hg.len hg.logs o.n hn hlk (hg.names _ _ hlk).1 (hg.names _ _ hlk).2 (fun f hf => ⟨(hg.sizes f hf).1, Nat.le_trans (hg.sizes f hf).2 hL⟩) hg.files tv o.tails ht0 htl
  have HS : Hid (ρ.log[min o.n.toNat (ρ.log.length - 1)]? = some lk) := by
    show ρ.log[min o.n.toNat (ρ.log.length - 1)]? = some lk
    rw [hlen]; exact hlk
  obtain ⟨tao, tcap, rfl, _⟩ := ht
  rw [hw0] at hc k0
  clear hw0 h0 h hlk ht0
  unfold ptr opVal at *
  rw [hk] at hc k0 ⊢
  go_enter Try.func23, Try.ntmps23
  go_wp2_with fail
  refine hc.mono ?_
  rintro e w1 ⟨rfl, hd, kA⟩
  have HB : Hid _ := rboxed k0 ⟨hd, kA⟩
  clear hc hd kA
  go_wp2
  go_ret
  exact ⟨0, _, rfl, .inr (.inr (.inr (.inr (.inr (.inr (.inr (.inl ⟨hk, rfl, lk, HS.out, rfl⟩))))))), HB.out.1, HB.out.2⟩

set_option maxHeartbeats 2000000 in
set_option maxRecDepth 100000 in
theorem told8 (h : RefAt w A r ρ) (o : Op) (tv : Value) (hk : o.kind < 0 ∨ 7 < o.kind) :
    Calls Try.prog 23 #[ptr r, opVal o tv] w fun e w' => ∃ k ρ', e = .returned (.int .i64 k) ∧ RStep ρ l o k ρ' ∧ RefAt w' (ext A w w') r ρ' ∧ Keeps A w w' := by
  obtain ⟨fv, lv, vals, h⟩ := h
  obtain ⟨w0, hw0⟩ : ∃ w0, w0 = w.alloc (.cells #[.int .i64 o.kind, .string o.name, .string o.s, .int .i64 o.n, tv] 52) := ⟨_, rfl⟩
  have k0 : Fresh w w0 := by rw [hw0]; exact (Keeps.refl _ w).alloc _
  have HB : Hid (RefAt w0 (ext A w w0) r ρ ∧ Keeps A w w0) := rboxed k0 ⟨⟨fv, lv, vals, h.kept k0 (fun _ _ e => e) (fun _ h => .inl h)⟩, Keeps.refl _ _⟩
  rw [hw0] at HB
  have q0 : (o.kind == 0) = false := by simp; omega
  have q1 : (o.kind == 1) = false := by simp; omega
  have q2 : (o.kind == 2) = false := by simp; omega
  have q3 : (o.kind == 3) = false := by simp; omega
  have q4 : (o.kind == 4) = false := by simp; omega
  have q5 : (o.kind == 5) = false := by simp; omega
  have q6 : (o.kind == 6) = false := by simp; omega
  have q7 : (o.kind == 7) = false := by simp; omega
  have HK : Hid (o.kind < 0 ∨ 7 < o.kind) := hk
  clear hw0 h k0 hk
  unfold ptr opVal at *
  go_enter Try.func23, Try.ntmps23
  go_wp2
  go_ret
  exact ⟨0, ρ, rfl, .inr (.inr (.inr (.inr (.inr (.inr (.inr (.inr ⟨HK.out, rfl, rfl⟩))))))), HB.out.1, HB.out.2⟩

theorem told_any (h : RefAt w A r ρ) (hg : Rg ρ m l L) (o : Op) (tv : Value) (hL : L + o.s.size ≤ 1099511627776) (hn : -9223372036854775808 ≤ o.n ∧ o.n < 9223372036854775808) (ht : Ints w A tv o.tails) (htl : o.tails.length ≤ 1099511627776) :
    Calls Try.prog 23 #[ptr r, opVal o tv] w fun e w' => ∃ k ρ', e = .returned (.int .i64 k) ∧ RStep ρ l o k ρ' ∧ RefAt w' (ext A w w') r ρ' ∧ Keeps A w w' := by
  by_cases h0 : o.kind = 0
  · exact told0 h hg o tv h0
  by_cases h1 : o.kind = 1
  · exact told1 h hg o hL tv h1
  by_cases h2 : o.kind = 2
  · exact told2 h hg o tv h2
  by_cases h3 : o.kind = 3
  · exact told3 h hg o tv h3
  by_cases h4 : o.kind = 4
  · exact told4 h hg o tv h4
  by_cases h5 : o.kind = 5
  · exact told5 h hg o tv h5
  by_cases h6 : o.kind = 6
  · exact told6 h o tv h6
  by_cases h7 : o.kind = 7
  · exact told7 h hg (by omega) o tv hn ht htl h7
  · exact told8 h o tv (by omega)
end
end Go.Proofs.Ytegbkpjcjlihmaa
