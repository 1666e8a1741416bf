/-
  Rename, Create.
-/
import Derived.Test.YtegbkpjcjlihmaaOpe
namespace Go.Proofs.Ytegbkpjcjlihmaa
open Go.RowKit Go.Maps

section
variable {w : World} {A : Nat → Prop} {d : Nat} {σ : Dk} {mn ms : Nat} {cv : Value} {vals : List Value} {bv : Nat → Value} {K : List Text}

/-- what 'Rename' does -/
def Dk.renames (σ : Dk) (s t : Text) (e : Int) (σ' : Dk) : Prop :=
  (σ.dead = true ∧ e = 6 ∧ σ' = σ.tick) ∨ (σ.dead = false ∧ σ.now s = none ∧ e = 4 ∧ σ' = σ.tick) ∨ (σ.dead = false ∧ ∃ x, σ.now s = some x ∧ e = 0 ∧ σ' = σ.tick.did (.rename s t x))

set_option maxHeartbeats 1000000 in
theorem rename_any (h : Inner w A d K.length σ mn ms cv vals bv) (hl : ∀ l, σ.left = some l → l < 9223372036854775808) (hK : ∀ s, (σ.now s).isSome = true → s ∈ K) (hKl : K.length ≤ 1099511627776) (hC : σ.chs.length ≤ 1099511627776) (s t : ByteArray) (hs : s.size ≤ maxLen) (ht : t.size ≤ maxLen) (htK : t.data.toList ∈ K) :
    Calls Try.prog 38 #[ptr d, .string s, .string t] w fun e w' => ∃ k σ', e = .returned (.int .i64 k) ∧ σ.renames s.data.toList t.data.toList k σ' ∧ DiskAt w' (ext A w w') d K.length σ' ∧ Keeps A w w' := by
  have kq : Fresh w ((w.alloc (.cells #[.string s] 9)).alloc (.cells #[.string t] 9)) := ((Keeps.refl _ w).alloc _).alloc _
  have hq : ((w.alloc (.cells #[.string s] 9)).alloc (.cells #[.string t] 9)).heap[w.heap.size]? = some (.cells #[.string s] 9 (0, 0)) := by
    rw [Lib.alloc_old _ _ _ (by simp)]; exact heap_alloc_new w _
  have hq' : ((w.alloc (.cells #[.string s] 9)).alloc (.cells #[.string t] 9)).heap[w.heap.size + 1]? = some (.cells #[.string t] 9 (0, 0)) := by
    have := heap_alloc_new (w.alloc (.cells #[.string s] 9)) (.cells #[.string t] 9)
    simpa using this
  have h0 := h.kept (A' := ext A w ((w.alloc (.cells #[.string s] 9)).alloc (.cells #[.string t] 9))) kq (fun _ _ e => e) (fun _ h => .inl h)
  have hr := toWrite_any h0 hl s hs
  have cs : ((w.alloc (.cells #[.string s] 9)).alloc (.cells #[.string t] 9)).cell? ⟨w.heap.size, 0, none⟩ = some (.string s) := by rw [Lib.cell_of_heap hq]; rfl
  have H : Hid (Inner w A d K.length σ mn ms cv vals bv) := h
  have HQ : Hid (((w.alloc (.cells #[.string s] 9)).alloc (.cells #[.string t] 9)).heap[w.heap.size]? = some (.cells #[.string s] 9 (0, 0))) := hq
  have HQ' : Hid (((w.alloc (.cells #[.string s] 9)).alloc (.cells #[.string t] 9)).heap[w.heap.size + 1]? = some (.cells #[.string t] 9 (0, 0))) := hq'
  clear h h0 hq hq'
  unfold ptr at *
  go_enter Try.func38, Try.ntmps38
  go_wp2_with (go_at_call 65; refine hr.mono ?_)
  rintro e w1 ⟨v, k, rfl, hf, h1, k1, hs1⟩
  have hs1' : w1.heap.size = w.heap.size + 2 := by rw [hs1]; simp
  have Hs1 : Hid (w1.heap.size = w.heap.size + 2) := hs1'
  have kA : Keeps A w w1 := (Keeps.ofFresh kq).then k1 (fun i _ e => by subst e; exact H.out.ownD)
  have HA : Hid (ext A w ((w.alloc (.cells #[.string s] 9)).alloc (.cells #[.string t] 9)) = ext A w w1) := by unfold ext; rw [hs1]; rfl
  have h1' : Inner w1 (ext A w w1) d K.length σ.tick mn ms cv vals bv := HA.out ▸ h1
  have H1 : Hid (Inner w1 (ext A w w1) d K.length σ.tick mn ms cv vals bv) := h1'
  clear hs1 hs1' hr h1 cs h1'
  have kp : Fresh w1 (w1.alloc (.cells #[v] 98)) := (Keeps.refl _ w1).alloc _
  have DV : Hid (DiskAt (w1.alloc (.cells #[v] 98)) (ext A w (w1.alloc (.cells #[v] 98))) d K.length σ.tick) :=
    ⟨mn, ms, cv, vals, bv, H1.out.kept kp (fun _ _ e => e) (fun k hk => hk.imp id (fun h => ⟨h.1, by simp; omega⟩))⟩
  have kV : Hid (Keeps A w (w1.alloc (.cells #[v] 98))) := kA.alloc _
  rcases hf with ⟨hd, rfl, rfl⟩ | ⟨hd, hx, rfl, rfl⟩ | ⟨hd, x, hx, rfl, rfl⟩
  · have HF : Hid (σ.dead = true) := hd
    clear hd
    go_wp2
    go_ret
    exact ⟨6, σ.tick, rfl, .inl ⟨HF.out, rfl, rfl⟩, DV.out, kV.out⟩
  · have HF : Hid (σ.dead = false ∧ σ.now s.data.toList = none) := ⟨hd, hx⟩
    clear hd hx
    go_wp2
    go_ret
    exact ⟨4, σ.tick, rfl, .inr (.inl ⟨HF.out.1, HF.out.2, rfl, rfl⟩), DV.out, kV.out⟩
  · have HF : Hid (σ.dead = false ∧ σ.now s.data.toList = some x) := ⟨hd, hx⟩
    have hq1 : w1.heap[w.heap.size]? = some (.cells #[.string s] 9 (0, 0)) := k1.heap HQ.out (fun e => by have := heap_lt H.out.head; omega)
    have hq2 : w1.heap[w.heap.size + 1]? = some (.cells #[.string t] 9 (0, 0)) := k1.heap HQ'.out (fun e => by have := heap_lt H.out.head; omega)
    have sz : (w1.alloc (.cells #[ptr x] 98)).heap.size = w1.heap.size + 1 := by simp
    have hp : (w1.alloc (.cells #[ptr x] 98)).heap[w1.heap.size]? = some (.cells #[ptr x] 98 (0, 0)) := heap_alloc_new w1 _
    have h2 : Inner (w1.alloc (.cells #[ptr x] 98)) (ext A w (w1.alloc (.cells #[ptr x] 98))) d K.length σ.tick mn ms cv vals bv :=
      H1.out.kept kp (fun _ _ e => e) (fun k hk => hk.imp id (fun h => ⟨h.1, by rw [sz]; omega⟩))
    have hchg : ChgAt (w1.alloc (.cells #[ptr x] 98)) (ext A w (w1.alloc (.cells #[ptr x] 98))) (.func (.func 67) #[] #[ptr w.heap.size, ptr w1.heap.size, ptr (w.heap.size + 1)]) (.rename s.data.toList t.data.toList x) :=
      ⟨w.heap.size, w1.heap.size, w.heap.size + 1, rfl, ⟨.inr ⟨Nat.le_refl _, by have := Hs1.out; omega⟩, s, kp.heap hq1 (fun e => e), rfl, hs⟩, ⟨.inr ⟨by have := Hs1.out; omega, by omega⟩, hp⟩, ⟨.inr ⟨by omega, by have := Hs1.out; omega⟩, t, kp.heap hq2 (fun e => e), rfl, ht⟩⟩
    have hdo := do_any h2 hchg (put_in (del_in hK _) htK _) hKl hC
    clear hd hx hchg h2 hq1 hq2 sz hp
    unfold ptr at *
    go_wp2_with (go_at_call 63; refine hdo.mono ?_)
    rintro e w2 ⟨rfl, ⟨cv', vals', h2⟩, k2⟩
    have k2s := k2.size
    go_wp2
    go_ret
    have e2 : (w1.alloc (.cells #[.pointer (some ⟨x, 0, none⟩)] 98)).heap.size = w1.heap.size + 1 := by simp
    refine ⟨0, σ.tick.did (.rename s.data.toList t.data.toList x), rfl, .inr (.inr ⟨HF.out.1, x, HF.out.2, rfl, rfl⟩), ⟨mn, ms, cv', vals', bv, h2.grow (ext_then (by have := Hs1.out; omega) k2s)⟩, kV.out.then k2 (fun i hi e => ?_)⟩
    rcases e with e | e
    · exact e
    · omega

/-- a file more -/
def Dk.add (σ : Dk) (x : Nat) : Dk := { σ with files := x :: σ.files, cont := upd σ.cont x [], sure := upd σ.sure x 0 }

/-- what 'Create' does -/
def Dk.creates (σ : Dk) (s : Text) (e : Int) (σ' : Dk) : Prop :=
  (σ.dead = true ∧ e = 6 ∧ σ' = σ.tick) ∨ (σ.dead = false ∧ (σ.now s).isSome = true ∧ e = 5 ∧ σ' = σ.tick) ∨ (σ.dead = false ∧ σ.now s = none ∧ ∃ x, x ∉ σ.files ∧ e = 0 ∧ σ' = (σ.tick.add x).did (.create s x))

set_option maxHeartbeats 1000000 in
theorem create_any (h : Inner w A d K.length σ mn ms cv vals bv) (hl : ∀ l, σ.left = some l → l < 9223372036854775808) (hK : ∀ s, (σ.now s).isSome = true → s ∈ K) (hKl : K.length ≤ 1099511627776) (hC : σ.chs.length ≤ 1099511627776) (s : ByteArray) (hs : s.size ≤ maxLen) (hsK : s.data.toList ∈ K) :
    Calls Try.prog 35 #[ptr d, .string s] w fun e w' => ∃ k σ', e = .returned (.int .i64 k) ∧ σ.creates s.data.toList k σ' ∧ DiskAt w' (ext A w w') d K.length σ' ∧ Keeps A w w' := by
  have kq : Fresh w (w.alloc (.cells #[.string s] 9)) := (Keeps.refl _ w).alloc _
  have hq : (w.alloc (.cells #[.string s] 9)).heap[w.heap.size]? = some (.cells #[.string s] 9 (0, 0)) := heap_alloc_new w _
  have h0 := h.kept (A' := ext A w (w.alloc (.cells #[.string s] 9))) kq (fun _ _ e => e) (fun _ h => .inl h)
  have hr := runs_any h0 hl
  have H : Hid (Inner w A d K.length σ mn ms cv vals bv) := h
  have HQ : Hid ((w.alloc (.cells #[.string s] 9)).heap[w.heap.size]? = some (.cells #[.string s] 9 (0, 0))) := hq
  clear h h0 hq
  unfold ptr at *
  cases hd : σ.dead
  · rw [hd] at hr
    have HD : Hid (σ.dead = false) := hd
    clear hd
    go_enter Try.func35, Try.ntmps35
    go_wp2_with (go_at_call 62; refine hr.mono ?_)
    rintro e w1 ⟨rfl, h1, k1, hs1⟩
    have hs1' : w1.heap.size = w.heap.size + 1 := by rw [hs1]; simp
    have Hs1 : Hid (w1.heap.size = w.heap.size + 1) := hs1'
    have kA : Keeps A w w1 := (Keeps.ofFresh kq).then k1 (fun i _ e => by subst e; exact H.out.ownD)
    have HA : Hid (ext A w (w.alloc (.cells #[.string s] 9)) = ext A w w1) := by unfold ext; rw [hs1]; rfl
    have h1' : Inner w1 (ext A w w1) d K.length σ.tick mn ms cv vals bv := HA.out ▸ h1
    have H1 : Hid (Inner w1 (ext A w w1) d K.length σ.tick mn ms cv vals bv) := h1'
    have hq1 : w1.heap[w.heap.size]? = some (.cells #[.string s] 9 (0, 0)) := k1.heap HQ.out (fun e => by have := heap_lt H.out.head; omega)
    have HQ1 : Hid (w1.heap[w.heap.size]? = some (.cells #[.string s] 9 (0, 0))) := hq1
    have c0 : w1.drew.cell? ⟨d, 0, none⟩ = some (.map (some mn)) := h1'.cell0
    have cs : w1.drew.cell? ⟨w.heap.size, 0, none⟩ = some (.string s) := by rw [Lib.cell_of_heap (w := w1.drew) hq1]; rfl
    have hn : σ.tick.now = σ.now := rfl
    obtain ⟨l1, l2⟩ := h1'.now.look s hs w1.drew rfl
    rw [hn] at l1 l2
    clear hs1 hs1' hr h1 h1' hq1 hn
    cases hx : σ.now s.data.toList with
    | none =>
      have hlk := l1 hx
      have HX : Hid (σ.now s.data.toList = none) := hx
      clear l1 l2 hx
      obtain ⟨W, hW⟩ : ∃ W, W = ((w1.alloc (.cells #[.pointer none, .slice none 0 0, .int .i64 0] 101)).alloc (.cells #[ptr w1.heap.size] 98)).drew := ⟨_, rfl⟩
      have kW : Fresh w1 W := by rw [hW]; exact (((Keeps.refl _ w1).alloc _).alloc _).drew
      have sW : W.heap.size = w1.heap.size + 2 := by rw [hW]; simp [World.drew]
      have hx0 : W.heap[w1.heap.size]? = some (.cells #[.pointer none, .slice none 0 0, .int .i64 0] 101 (0, 0)) := by
        rw [hW]
        show ((w1.alloc (.cells #[.pointer none, .slice none 0 0, .int .i64 0] 101)).alloc (.cells #[ptr w1.heap.size] 98)).heap[w1.heap.size]? = _
        rw [Lib.alloc_old _ _ _ (by simp)]; exact heap_alloc_new w1 _
      have hx1 : W.heap[w1.heap.size + 1]? = some (.cells #[ptr w1.heap.size] 98 (0, 0)) := by
        rw [hW]
        have := heap_alloc_new (w1.alloc (.cells #[.pointer none, .slice none 0 0, .int .i64 0] 101)) (.cells #[ptr w1.heap.size] 98)
        simpa [World.drew] using this
      have hnew : w1.heap.size ∉ σ.tick.files := fun hm => by
        obtain ⟨⟨p, _, hh⟩, _⟩ := H1.out.files _ hm
        exact absurd (heap_lt hh) (Nat.lt_irrefl _)
      have h2 : Inner W (ext A w W) d K.length σ.tick mn ms cv vals bv := H1.out.kept kW (fun _ _ e => e) (fun k hk => hk.imp id (fun h => ⟨h.1, by omega⟩))
      have hs1 := Hs1.out
      have h3 := h2.newFile (tag_cells hx0) (.inr ⟨by omega, by omega⟩) ⟨⟨_, .inl rfl, hx0⟩, Buf.nil _⟩ hnew
      have hchg : ChgAt W (ext A w W) (.func (.func 64) #[] #[ptr (w1.heap.size + 1), ptr w.heap.size]) (.create s.data.toList w1.heap.size) :=
        ⟨w1.heap.size + 1, w.heap.size, rfl, ⟨.inr ⟨by omega, by omega⟩, hx1⟩, ⟨.inr ⟨Nat.le_refl _, by omega⟩, s, kW.heap HQ1.out (fun e => e), rfl, hs⟩⟩
      have hdo := do_any h3 hchg (put_in hK hsK _) hKl hC
      have Hnew : Hid (w1.heap.size ∉ σ.tick.files) := hnew
      have HsW : Hid (W.heap.size = w1.heap.size + 2) := sW
      rw [hW] at hdo
      have kW' : Hid (Keeps A w W) := kA.then kW (fun _ _ e => e.elim)
      have HW : Hid (W = ((w1.alloc (.cells #[.pointer none, .slice none 0 0, .int .i64 0] 101)).alloc (.cells #[ptr w1.heap.size] 98)).drew) := hW
      clear hchg h3 h2 hnew hx1 hx0 sW kW hW hs1
      unfold ptr at *
      go_wp2
      go_region
      all_goals go_wp2_with fail
      refine hdo.mono ?_
      rintro e w2 ⟨rfl, ⟨cv', vals', h4⟩, k4⟩
      rw [← HW.out] at h4 k4
      have k4s := k4.size
      go_wp2
      go_ret
      have hs1 := Hs1.out
      have hsW := HsW.out
      refine ⟨0, (σ.tick.add w1.heap.size).did (.create s.data.toList w1.heap.size), rfl, .inr (.inr ⟨HD.out, HX.out, _, Hnew.out, rfl, rfl⟩), ⟨mn, ms, cv', vals', _, h4.grow (ext_then (by omega) k4s)⟩, kW'.out.then k4 (fun i hi e => ?_)⟩
      rcases e with e | e
      · exact e
      · omega
    | some x =>
      have hlk := l2 x hx
      have HX : Hid (σ.now s.data.toList = some x) := hx
      clear l1 l2 hx
      unfold ptr at *
      go_wp2
      go_region
      all_goals go_wp2
      all_goals go_ret
      all_goals exact ⟨5, σ.tick, rfl, .inr (.inl ⟨HD.out, by rw [HX.out]; rfl, rfl, rfl⟩), ⟨mn, ms, cv, vals, bv, H1.out.kept (S := fun _ => False) (Keeps.drew (Keeps.refl _ w1)) (fun _ _ e => e) (fun _ h => h)⟩, kA.drew⟩
  · rw [hd] at hr
    have HD : Hid (σ.dead = true) := hd
    clear hd
    go_enter Try.func35, Try.ntmps35
    go_wp2_with (go_at_call 62; refine hr.mono ?_)
    rintro e w1 ⟨rfl, h1, k1, hs1⟩
    have kA : Keeps A w w1 := (Keeps.ofFresh kq).then k1 (fun i _ e => by subst e; exact H.out.ownD)
    have HA : Hid (ext A w (w.alloc (.cells #[.string s] 9)) = ext A w w1) := by unfold ext; rw [hs1]; rfl
    clear hs1 hr
    go_wp2
    go_ret
    exact ⟨6, σ.tick, rfl, .inl ⟨HD.out, rfl, rfl⟩, ⟨mn, ms, cv, vals, bv, HA.out ▸ h1⟩, kA⟩
end
end Go.Proofs.Ytegbkpjcjlihmaa
