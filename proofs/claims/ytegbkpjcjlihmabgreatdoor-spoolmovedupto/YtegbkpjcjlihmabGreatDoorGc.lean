/-
  toWrite: the file that a call is for. Read, Names. | Append, Sync, Remove, Rename, Create. | Remove, Rename, Create. | Rename, Create.
-/
import Derived.Test.YtegbkpjcjlihmabGreatDoorGb
import Derived.Test.YtegbkpjcjlihmabGreatDoorKeys
namespace Go.Proofs.YtegbkpjcjlihmabGreatDoor
open Go.RowKit Go.Maps

section
variable {w : World} {A : Nat → Prop} {d n : Nat} {σ : Dk} {mn ms : Nat} {cv : Value} {vals : List Value} {bv : Nat → Value}

/-- what 'toWrite' answers -/
def Dk.finds (σ : Dk) (s : Text) (v : Value) (e : Int) : Prop :=
  (σ.dead = true ∧ v = .pointer none ∧ e = 6) ∨ (σ.dead = false ∧ σ.now s = none ∧ v = .pointer none ∧ e = 4) ∨ (σ.dead = false ∧ ∃ x, σ.now s = some x ∧ v = ptr x ∧ e = 0)

set_option maxHeartbeats 1000000 in
theorem toWrite_any (h : Inner w A d n σ mn ms cv vals bv) (hl : ∀ l, σ.left = some l → l < 9223372036854775808) (s : ByteArray) (hs : s.size ≤ maxLen) :
    Calls Tryz.prog 50 #[ptr d, .string s] w fun e w' => ∃ v k, e = .returned (.tuple #[v, .int .i64 k]) ∧ σ.finds s.data.toList v k ∧ Inner w' A d n σ.tick mn ms cv vals bv ∧ Keeps (fun k => k = d) w w' ∧ w'.heap.size = w.heap.size := by
  have hr := runs_any h hl
  cases hd : σ.dead
  · rw [hd] at hr
    have HD : Hid (σ.dead = false) := hd
    clear hd
    go_enter Tryz.func50, Tryz.ntmps50
    unfold ptr at *
    go_wp2_with (go_at_call 47; refine hr.mono ?_)
    rintro e w1 ⟨rfl, h1, k1, hs1⟩
    have Hs1 : Hid (w1.heap.size = w.heap.size) := hs1
    have c0 := h1.cell0
    have H1 : Hid (Inner w1 A d n σ.tick mn ms cv vals bv) := h1
    have hn : σ.tick.now = σ.now := rfl
    obtain ⟨l1, l2⟩ := h1.now.look s hs w1 rfl
    rw [hn] at l1 l2
    clear hs1 h1 hr hn
    cases hx : σ.now s.data.toList with
    | none =>
      have hlk := l1 hx
      have HX : Hid (σ.now s.data.toList = none) := hx
      clear l1 l2 hx
      go_wp2
      go_ret2
      exact ⟨_, _, rfl, .inr (.inl ⟨HD.out, HX.out, rfl, rfl⟩), H1.out, k1, Hs1.out⟩
    | some x =>
      have hlk := l2 x hx
      have HX : Hid (σ.now s.data.toList = some x) := hx
      clear l1 l2 hx
      unfold ptr at *
      go_wp2
      go_ret2
      exact ⟨_, _, rfl, .inr (.inr ⟨HD.out, x, HX.out, rfl, rfl⟩), H1.out, k1, Hs1.out⟩
  · rw [hd] at hr
    have HD : Hid (σ.dead = true) := hd
    clear hd
    go_enter Tryz.func50, Tryz.ntmps50
    unfold ptr at *
    go_wp2_with (go_at_call 47; refine hr.mono ?_)
    rintro e w1 ⟨rfl, h1, k1, hs1⟩
    have Hs1 : Hid (w1.heap.size = w.heap.size) := hs1
    clear hs1
    go_wp2
    go_ret2
    exact ⟨_, _, rfl, .inl ⟨HD.out, rfl, rfl⟩, h1, k1, Hs1.out⟩

set_option maxHeartbeats 1000000 in
theorem names_any (h : Inner w A d n σ mn ms cv vals bv) (hn : n ≤ 1099511627776) :
    Calls Tryz.prog 14 #[ptr d] w fun e w' => ∃ v ks, e = .returned v ∧ Sorted σ.now ks ∧ ks.length ≤ n ∧ (∀ s ∈ ks, s.length ≤ maxLen) ∧ Row9 w' w.heap.size v ks ∧ Fresh w w' := by
  have c0 := h.cell0
  have hso := sorted_any mn n σ.now w h.now hn
  clear h
  unfold ptr
  go_enter Tryz.func14, Tryz.ntmps14
  go_wp2_with (go_at_call 38; refine hso.mono ?_)
  rintro e w1 ⟨v, ks, rfl, h1, h2, h3, h4, h5⟩
  go_wp2
  go_ret
  exact ⟨v, ks, rfl, h1, h2, h3, h4, h5⟩

/-- the text of a file, if there is one -/
def Dk.read (σ : Dk) (s : Text) : Option Text := (σ.now s).map σ.cont

set_option maxHeartbeats 1000000 in
theorem read_any (h : Inner w A d n σ mn ms cv vals bv) (hin : ∀ s x, σ.now s = some x → x ∈ σ.files) (s : ByteArray) (hs : s.size ≤ maxLen) :
    Calls Tryz.prog 15 #[ptr d, .string s] w fun e w' => e = .returned (.tuple #[.string ⟨((σ.read s.data.toList).getD []).toArray⟩, .bool (σ.read s.data.toList).isSome]) ∧ Inner w' A d n σ mn ms cv vals bv ∧ Keeps A w w' ∧ w'.heap.size = w.heap.size := by
  have c0 := h.cell0
  obtain ⟨l1, l2⟩ := h.now.look s hs w rfl
  have H : Hid (Inner w A d n σ mn ms cv vals bv) := h
  cases hx : σ.now s.data.toList with
  | none =>
    have hlk := l1 hx
    have HX : Hid (σ.now s.data.toList = none) := hx
    clear l1 l2 hx h
    unfold ptr
    go_enter Tryz.func15, Tryz.ntmps15
    go_wp2
    go_ret2
    refine ⟨by simp [Dk.read, HX.out], H.out, Keeps.refl _ _, rfl⟩
  | some x =>
    have hlk := l2 x hx
    have hxf := hin _ x hx
    have hf := h.files x hxf
    obtain ⟨⟨p, hp, hh⟩, hb⟩ := hf
    have hc := string_any x 110 _ (bv x) (σ.cont x) w hh rfl hb
    have HX : Hid (σ.now s.data.toList = some x) := hx
    clear l1 l2 hx h
    unfold ptr at *
    go_enter Tryz.func15, Tryz.ntmps15
    go_wp2_with (go_at_call 46; refine hc.mono ?_)
    rintro e w1 ⟨rfl, k1, hb1, hs1⟩
    have Hs1 : Hid (w1.heap.size = w.heap.size) := hs1
    clear hs1
    go_wp2
    go_ret2
    have hh1 : w1.heap[x]? = some (.cells #[p, bv x, .int .i64 (σ.sure x)] 110 (0, 0)) := k1.heap hh (fun e => ne_of_tag (tag_cells hh) (hb.tag e) (by decide) rfl)
    have h1 := H.out.setFile (v' := bv x) (c := σ.cont x) (m := σ.sure x) hxf ⟨⟨p, hp, hh1⟩, hb1⟩ (fun k hk => .inl hk) (k1.mono (fun _ _ e => .inr e))
    have e1 : upd σ.cont x (σ.cont x) = σ.cont := by funext y; unfold upd; split; rename_i e; rw [e]; rfl
    have e2 : upd σ.sure x (σ.sure x) = σ.sure := by funext y; unfold upd; split; rename_i e; rw [e]; rfl
    have e3 : upd bv x (bv x) = bv := by funext y; unfold upd; split; rename_i e; rw [e]; rfl
    have e4 : ext A w w1 = A := by funext k; unfold ext; rw [Hs1.out]; simp; intro h1 h2; omega
    rw [e1, e2, e3, e4] at h1
    refine ⟨by simp [Dk.read, HX.out], h1, k1.mono (fun i _ e => H.out.ownB x hxf i e), Hs1.out⟩
end
end Go.Proofs.YtegbkpjcjlihmabGreatDoor

namespace Go.Proofs.YtegbkpjcjlihmabGreatDoor
open Go.RowKit Go.Maps

theorem ext_same {A : Nat → Prop} {w w' : World} (h : w'.heap.size = w.heap.size) : ext A w w' = A := by
  funext k; unfold ext; rw [h]; simp; intro h1 h2; omega

theorem ext_then {A : Nat → Prop} {a b c : World} (h : a.heap.size ≤ b.heap.size) (h' : b.heap.size ≤ c.heap.size) : ∀ k, ext (ext A a b) b c k → ext A a c k := by
  intro k hk
  rcases hk with (hk | hk) | hk
  · exact .inl hk
  · exact .inr ⟨by omega, by omega⟩
  · exact .inr ⟨by omega, by omega⟩

theorem Inner.grow {w : World} {A A' : Nat → Prop} {d n : Nat} {σ : Dk} {mn ms : Nat} {cv : Value} {vals : List Value} {bv : Nat → Value} (h : Inner w A d n σ mn ms cv vals bv) (hA : ∀ i, A i → A' i) : Inner w A' d n σ mn ms cv vals bv :=
  h.kept (S := fun _ => False) (Keeps.refl _ w) (fun _ _ e => e) hA

/-- a file of the disk, written -/
def Dk.wrote (σ : Dk) (x : Nat) (c : Text) (m : Nat) : Dk := { σ with cont := upd σ.cont x c, sure := upd σ.sure x m }

section
variable {w : World} {A : Nat → Prop} {d n : Nat} {σ : Dk} {mn ms : Nat} {cv : Value} {vals : List Value} {bv : Nat → Value}

/-- what 'Append' does -/
def Dk.appends (σ : Dk) (s t : Text) (e : Int) (σ' : Dk) : Prop :=
  (σ.dead = true ∧ e = 6 ∧ σ' = σ.tick) ∨ (σ.dead = false ∧ σ.now s = none ∧ e = 4 ∧ σ' = σ.tick) ∨ (σ.dead = false ∧ ∃ x, σ.now s = some x ∧ e = 0 ∧ σ' = σ.tick.wrote x (σ.cont x ++ t) (σ.sure x))

set_option maxHeartbeats 1000000 in
theorem append_any (h : Inner w A d n σ mn ms cv vals bv) (hl : ∀ l, σ.left = some l → l < 9223372036854775808) (hin : ∀ s x, σ.now s = some x → x ∈ σ.files) (s t : ByteArray) (hs : s.size ≤ maxLen) (ht : ∀ x ∈ σ.files, (σ.cont x).length + t.size ≤ 140737488355328) :
    Calls Tryz.prog 17 #[ptr d, .string s, .string t] w fun e w' => ∃ k σ', e = .returned (.int .i64 k) ∧ σ.appends s.data.toList t.data.toList k σ' ∧ DiskAt w' (ext A w w') d n σ' ∧ Keeps A w w' := by
  have hr := toWrite_any h hl s hs
  have H : Hid (Inner w A d n σ mn ms cv vals bv) := h
  clear h
  unfold ptr at *
  go_enter Tryz.func17, Tryz.ntmps17
  go_wp2_with (go_at_call 50; refine hr.mono ?_)
  rintro e w1 ⟨v, k, rfl, hf, h1, k1, hs1⟩
  have Hs1 : Hid (w1.heap.size = w.heap.size) := hs1
  have kA : Keeps A w w1 := k1.mono (fun i _ e => by subst e; exact H.out.ownD)
  have D1 : Hid (DiskAt w1 (ext A w w1) d n σ.tick) := ⟨mn, ms, cv, vals, bv, h1.grow (fun _ h => .inl h)⟩
  clear hs1 hr
  rcases hf with ⟨hd, rfl, rfl⟩ | ⟨hd, hx, rfl, rfl⟩ | ⟨hd, x, hx, rfl, rfl⟩
  · have HF : Hid (σ.dead = true) := hd
    clear hd h1
    go_wp2
    go_ret
    exact ⟨6, σ.tick, rfl, .inl ⟨HF.out, rfl, rfl⟩, D1.out, kA⟩
  · have HF : Hid (σ.dead = false ∧ σ.now s.data.toList = none) := ⟨hd, hx⟩
    clear hd hx h1
    go_wp2
    go_ret
    exact ⟨4, σ.tick, rfl, .inr (.inl ⟨HF.out.1, HF.out.2, rfl, rfl⟩), D1.out, kA⟩
  · have hxf := hin _ x hx
    have HF : Hid (σ.dead = false ∧ σ.now s.data.toList = some x) := ⟨hd, hx⟩
    obtain ⟨⟨p, hp, hh⟩, hb⟩ := h1.files x hxf
    have hc := writeString_any x p (bv x) _ (σ.cont x) t w1 hh hp hb (ht x hxf)
    have H1 : Hid (Inner w1 A d n σ.tick mn ms cv vals bv) := h1
    clear hd hx h1
    unfold ptr at *
    go_wp2_with (go_at_call 51; refine hc.mono ?_)
    rintro e w2 ⟨rfl, v', hh2, hb2, hnew, k2⟩
    have k2s := k2.size
    go_wp2
    go_ret
    refine ⟨0, σ.tick.wrote x (σ.cont x ++ t.data.toList) (σ.sure x), rfl, .inr (.inr ⟨HF.out.1, x, HF.out.2, rfl, rfl⟩), ?_, ?_⟩
    · have hfile := H1.out.setFile (v' := v') (c := σ.cont x ++ t.data.toList) (m := σ.sure x) hxf ⟨⟨self x, .inr rfl, hh2⟩, hb2⟩ (fun k hk => (hnew k hk).imp id (fun h => ⟨h, by obtain ⟨cur, fz, hg⟩ := hb2.row hk; exact heap_lt hg⟩)) k2
      refine ⟨mn, ms, cv, vals, _, hfile.grow (fun i hi => ?_)⟩
      rcases hi with hi | hi
      · exact .inl hi
      · exact .inr ⟨by have := Hs1.out; omega, hi.2⟩
    · refine kA.then k2 (fun i _ e => ?_)
      rcases e with rfl | e
      · exact H.out.ownX _ hxf
      · exact H.out.ownB x hxf i e

/-- what 'Sync' does -/
def Dk.syncs (σ : Dk) (s : Text) (e : Int) (σ' : Dk) : Prop :=
  (σ.dead = true ∧ e = 6 ∧ σ' = σ.tick) ∨ (σ.dead = false ∧ σ.now s = none ∧ e = 4 ∧ σ' = σ.tick) ∨ (σ.dead = false ∧ ∃ x, σ.now s = some x ∧ e = 0 ∧ σ' = σ.tick.wrote x (σ.cont x) (σ.cont x).length)

set_option maxHeartbeats 1000000 in
theorem sync_any (h : Inner w A d n σ mn ms cv vals bv) (hl : ∀ l, σ.left = some l → l < 9223372036854775808) (hin : ∀ s x, σ.now s = some x → x ∈ σ.files) (s : ByteArray) (hs : s.size ≤ maxLen) :
    Calls Tryz.prog 59 #[ptr d, .string s] w fun e w' => ∃ k σ', e = .returned (.int .i64 k) ∧ σ.syncs s.data.toList k σ' ∧ DiskAt w' (ext A w w') d n σ' ∧ Keeps A w w' := by
  have hr := toWrite_any h hl s hs
  have H : Hid (Inner w A d n σ mn ms cv vals bv) := h
  clear h
  unfold ptr at *
  go_enter Tryz.func59, Tryz.ntmps59
  go_wp2_with (go_at_call 50; refine hr.mono ?_)
  rintro e w1 ⟨v, k, rfl, hf, h1, k1, hs1⟩
  have Hs1 : Hid (w1.heap.size = w.heap.size) := hs1
  have kA : Keeps A w w1 := k1.mono (fun i _ e => by subst e; exact H.out.ownD)
  have D1 : Hid (DiskAt w1 (ext A w w1) d n σ.tick) := ⟨mn, ms, cv, vals, bv, h1.grow (fun _ h => .inl h)⟩
  clear hs1 hr
  rcases hf with ⟨hd, rfl, rfl⟩ | ⟨hd, hx, rfl, rfl⟩ | ⟨hd, x, hx, rfl, rfl⟩
  · have HF : Hid (σ.dead = true) := hd
    clear hd h1
    go_wp2
    go_ret
    exact ⟨6, σ.tick, rfl, .inl ⟨HF.out, rfl, rfl⟩, D1.out, kA⟩
  · have HF : Hid (σ.dead = false ∧ σ.now s.data.toList = none) := ⟨hd, hx⟩
    clear hd hx h1
    go_wp2
    go_ret
    exact ⟨4, σ.tick, rfl, .inr (.inl ⟨HF.out.1, HF.out.2, rfl, rfl⟩), D1.out, kA⟩
  · have hxf := hin _ x hx
    have HF : Hid (σ.dead = false ∧ σ.now s.data.toList = some x) := ⟨hd, hx⟩
    obtain ⟨⟨p, hp, hh⟩, hb⟩ := h1.files x hxf
    have hc := len_any x 110 _ (bv x) (σ.cont x) w1 hh rfl hb
    have H1 : Hid (Inner w1 A d n σ.tick mn ms cv vals bv) := h1
    have HH : Hid (w1.heap[x]? = some (.cells #[p, bv x, .int .i64 (σ.tick.sure x)] 110 (0, 0))) := hh
    have c2 : w1.cell? ⟨x, 2, none⟩ = some (.int .i64 (σ.tick.sure x)) := by rw [Lib.cell_of_heap hh]; rfl
    have f2 : w1.frozen? ⟨x, 2, none⟩ = false := Lib.frozen_of_heap hh 2
    clear hd hx h1 hh
    unfold ptr at *
    go_wp2_with (go_at_call 83; refine hc.mono ?_)
    rintro e w2 ⟨rfl, rfl⟩
    go_wp2
    go_ret
    have hh2 := heap_setCell_at HH.out 2 (.int .i64 ((σ.cont x).length : Nat))
    have k2 : Keeps (fun i => i = x) w2 (w2.setCell ⟨x, 2, none⟩ (.int .i64 ((σ.cont x).length : Nat))) := (Keeps.refl (fun i => i = x) w2).setCell (p := ⟨x, 2, none⟩) (fun _ => rfl) _
    have hb2 := k2.buf hb (fun k hk e => ne_of_tag (hb.tag hk) (tag_cells HH.out) (by decide) e)
    refine ⟨0, σ.tick.wrote x (σ.cont x) (σ.cont x).length, rfl, .inr (.inr ⟨HF.out.1, x, HF.out.2, rfl, rfl⟩), ?_, ?_⟩
    · have hfile := H1.out.setFile (v' := bv x) (c := σ.cont x) (m := (σ.cont x).length) hxf ⟨⟨p, hp, hh2⟩, hb2⟩ (fun k hk => .inl hk) (k2.mono (fun _ _ e => .inl e))
      refine ⟨mn, ms, cv, vals, _, hfile.grow (fun i hi => ?_)⟩
      rcases hi with hi | hi
      · exact .inl hi
      · exact .inr ⟨by have := Hs1.out; omega, hi.2⟩
    · exact kA.then k2 (fun i _ e => by subst e; exact H.out.ownX _ hxf)
end
end Go.Proofs.YtegbkpjcjlihmabGreatDoor

namespace Go.Proofs.YtegbkpjcjlihmabGreatDoor
open Go.RowKit Go.Maps

/-- a list of names may only shrink -/
theorem del_in {M : Names} {K : List Text} (h : ∀ s, (M s).isSome = true → s ∈ K) (t : Text) : ∀ s, (delN M t s).isSome = true → s ∈ K := by
  intro s hs
  unfold delN at hs
  split at hs
  · cases hs
  · exact h s hs

theorem put_in {M : Names} {K : List Text} (h : ∀ s, (M s).isSome = true → s ∈ K) {t : Text} (ht : t ∈ K) (x : Nat) : ∀ s, (putN M t x s).isSome = true → s ∈ K := by
  intro s hs
  unfold putN at hs
  split at hs
  · rename_i e; rw [e]; exact ht
  · exact h s hs

section
variable {w : World} {A : Nat → Prop} {d : Nat} {σ : Dk} {mn ms : Nat} {cv : Value} {vals : List Value} {bv : Nat → Value} {K : List Text}

/-- what 'Remove' does -/
def Dk.removes (σ : Dk) (s : Text) (e : Int) (σ' : Dk) : Prop :=
  (σ.dead = true ∧ e = 6 ∧ σ' = σ.tick) ∨ (σ.dead = false ∧ σ.now s = none ∧ e = 4 ∧ σ' = σ.tick) ∨ (σ.dead = false ∧ ∃ x, σ.now s = some x ∧ e = 0 ∧ σ' = σ.tick.did (.remove s))

set_option maxHeartbeats 1000000 in
theorem remove_any (h : Inner w A d K.length σ mn ms cv vals bv) (hl : ∀ l, σ.left = some l → l < 9223372036854775808) (hK : ∀ s, (σ.now s).isSome = true → s ∈ K) (hKl : K.length ≤ 1099511627776) (hC : σ.chs.length ≤ 1099511627776) (s : ByteArray) (hs : s.size ≤ maxLen) :
    Calls Tryz.prog 91 #[ptr d, .string s] w fun e w' => ∃ k σ', e = .returned (.int .i64 k) ∧ σ.removes s.data.toList k σ' ∧ DiskAt w' (ext A w w') d K.length σ' ∧ Keeps A w w' := by
  have kq : Fresh w (w.alloc (.cells #[.string s] 9)) := (Keeps.refl _ w).alloc _
  have hq : (w.alloc (.cells #[.string s] 9)).heap[w.heap.size]? = some (.cells #[.string s] 9 (0, 0)) := heap_alloc_new w _
  have h0 := h.kept (A' := ext A w (w.alloc (.cells #[.string s] 9))) kq (fun _ _ e => e) (fun _ h => .inl h)
  have hr := toWrite_any h0 hl s hs
  have H : Hid (Inner w A d K.length σ mn ms cv vals bv) := h
  have HQ : Hid ((w.alloc (.cells #[.string s] 9)).heap[w.heap.size]? = some (.cells #[.string s] 9 (0, 0))) := hq
  clear h h0 hq
  unfold ptr at *
  go_enter Tryz.func91, Tryz.ntmps91
  go_wp2_with (go_at_call 50; refine hr.mono ?_)
  rintro e w1 ⟨v, k, rfl, hf, h1, k1, hs1⟩
  have hs1' : w1.heap.size = w.heap.size + 1 := by rw [hs1]; simp
  have Hs1 : Hid (w1.heap.size = w.heap.size + 1) := hs1'
  have kA : Keeps A w w1 := (Keeps.ofFresh kq).then k1 (fun i _ e => by subst e; exact H.out.ownD)
  have HA : Hid (ext A w (w.alloc (.cells #[.string s] 9)) = ext A w w1) := by unfold ext; rw [hs1]; rfl
  have h1' : Inner w1 (ext A w w1) d K.length σ.tick mn ms cv vals bv := HA.out ▸ h1
  have D1 : Hid (DiskAt w1 (ext A w w1) d K.length σ.tick) := ⟨mn, ms, cv, vals, bv, h1'⟩
  clear hs1 hs1' hr h1
  rcases hf with ⟨hd, rfl, rfl⟩ | ⟨hd, hx, rfl, rfl⟩ | ⟨hd, x, hx, rfl, rfl⟩
  · have HF : Hid (σ.dead = true) := hd
    clear hd h1'
    go_wp2
    go_ret
    exact ⟨6, σ.tick, rfl, .inl ⟨HF.out, rfl, rfl⟩, D1.out, kA⟩
  · have HF : Hid (σ.dead = false ∧ σ.now s.data.toList = none) := ⟨hd, hx⟩
    clear hd hx h1'
    go_wp2
    go_ret
    exact ⟨4, σ.tick, rfl, .inr (.inl ⟨HF.out.1, HF.out.2, rfl, rfl⟩), D1.out, kA⟩
  · have HF : Hid (σ.dead = false ∧ σ.now s.data.toList = some x) := ⟨hd, hx⟩
    have hq1 : w1.heap[w.heap.size]? = some (.cells #[.string s] 9 (0, 0)) := k1.heap HQ.out (fun e => by have := heap_lt H.out.head; omega)
    have hchg : ChgAt w1 (ext A w w1) (.func (.func 124) #[] #[ptr w.heap.size]) (.remove s.data.toList) := ⟨w.heap.size, rfl, .inr ⟨Nat.le_refl _, by have := Hs1.out; omega⟩, s, hq1, rfl, hs⟩
    have hdo := do_any h1' hchg (del_in hK _) hKl hC
    clear hd hx hchg h1' hq1
    unfold ptr at *
    go_wp2_with (go_at_call 48; refine hdo.mono ?_)
    rintro e w2 ⟨rfl, ⟨cv', vals', h2⟩, k2⟩
    have k2s := k2.size
    go_wp2
    go_ret
    refine ⟨0, σ.tick.did (.remove s.data.toList), rfl, .inr (.inr ⟨HF.out.1, x, HF.out.2, rfl, rfl⟩), ⟨mn, ms, cv', vals', bv, h2.grow (ext_then (by have := Hs1.out; omega) k2s)⟩, kA.then k2 (fun i hi e => ?_)⟩
    rcases e with e | e
    · exact e
    · omega
end
end Go.Proofs.YtegbkpjcjlihmabGreatDoor

namespace Go.Proofs.YtegbkpjcjlihmabGreatDoor
open Go.RowKit Go.Maps

section
variable {w : World} {A : Nat → Prop} {d : Nat} {σ : Dk} {mn ms : Nat} {cv : Value} {vals : List Value} {bv : Nat → Value} {K : List Text}

/-- what 'Rename' does -/
def Dk.renames (σ : Dk) (s t : Text) (e : Int) (σ' : Dk) : Prop :=
  (σ.dead = true ∧ e = 6 ∧ σ' = σ.tick) ∨ (σ.dead = false ∧ σ.now s = none ∧ e = 4 ∧ σ' = σ.tick) ∨ (σ.dead = false ∧ ∃ x, σ.now s = some x ∧ e = 0 ∧ σ' = σ.tick.did (.rename s t x))

set_option maxHeartbeats 1000000 in
theorem rename_any (h : Inner w A d K.length σ mn ms cv vals bv) (hl : ∀ l, σ.left = some l → l < 9223372036854775808) (hK : ∀ s, (σ.now s).isSome = true → s ∈ K) (hKl : K.length ≤ 1099511627776) (hC : σ.chs.length ≤ 1099511627776) (s t : ByteArray) (hs : s.size ≤ maxLen) (ht : t.size ≤ maxLen) (htK : t.data.toList ∈ K) :
    Calls Tryz.prog 60 #[ptr d, .string s, .string t] w fun e w' => ∃ k σ', e = .returned (.int .i64 k) ∧ σ.renames s.data.toList t.data.toList k σ' ∧ DiskAt w' (ext A w w') d K.length σ' ∧ Keeps A w w' := by
  have kq : Fresh w ((w.alloc (.cells #[.string s] 9)).alloc (.cells #[.string t] 9)) := ((Keeps.refl _ w).alloc _).alloc _
  have hq : ((w.alloc (.cells #[.string s] 9)).alloc (.cells #[.string t] 9)).heap[w.heap.size]? = some (.cells #[.string s] 9 (0, 0)) := by
    rw [Lib.alloc_old _ _ _ (by simp)]; exact heap_alloc_new w _
  have hq' : ((w.alloc (.cells #[.string s] 9)).alloc (.cells #[.string t] 9)).heap[w.heap.size + 1]? = some (.cells #[.string t] 9 (0, 0)) := by
    have := heap_alloc_new (w.alloc (.cells #[.string s] 9)) (.cells #[.string t] 9)
    simpa using this
  have h0 := h.kept (A' := ext A w ((w.alloc (.cells #[.string s] 9)).alloc (.cells #[.string t] 9))) kq (fun _ _ e => e) (fun _ h => .inl h)
  have hr := toWrite_any h0 hl s hs
  have cs : ((w.alloc (.cells #[.string s] 9)).alloc (.cells #[.string t] 9)).cell? ⟨w.heap.size, 0, none⟩ = some (.string s) := by rw [Lib.cell_of_heap hq]; rfl
  have H : Hid (Inner w A d K.length σ mn ms cv vals bv) := h
  have HQ : Hid (((w.alloc (.cells #[.string s] 9)).alloc (.cells #[.string t] 9)).heap[w.heap.size]? = some (.cells #[.string s] 9 (0, 0))) := hq
  have HQ' : Hid (((w.alloc (.cells #[.string s] 9)).alloc (.cells #[.string t] 9)).heap[w.heap.size + 1]? = some (.cells #[.string t] 9 (0, 0))) := hq'
  clear h h0 hq hq'
  unfold ptr at *
  go_enter Tryz.func60, Tryz.ntmps60
  go_wp2_with (go_at_call 50; refine hr.mono ?_)
  rintro e w1 ⟨v, k, rfl, hf, h1, k1, hs1⟩
  have hs1' : w1.heap.size = w.heap.size + 2 := by rw [hs1]; simp
  have Hs1 : Hid (w1.heap.size = w.heap.size + 2) := hs1'
  have kA : Keeps A w w1 := (Keeps.ofFresh kq).then k1 (fun i _ e => by subst e; exact H.out.ownD)
  have HA : Hid (ext A w ((w.alloc (.cells #[.string s] 9)).alloc (.cells #[.string t] 9)) = ext A w w1) := by unfold ext; rw [hs1]; rfl
  have h1' : Inner w1 (ext A w w1) d K.length σ.tick mn ms cv vals bv := HA.out ▸ h1
  have H1 : Hid (Inner w1 (ext A w w1) d K.length σ.tick mn ms cv vals bv) := h1'
  clear hs1 hs1' hr h1 cs h1'
  have kp : Fresh w1 (w1.alloc (.cells #[v] 98)) := (Keeps.refl _ w1).alloc _
  have DV : Hid (DiskAt (w1.alloc (.cells #[v] 98)) (ext A w (w1.alloc (.cells #[v] 98))) d K.length σ.tick) :=
    ⟨mn, ms, cv, vals, bv, H1.out.kept kp (fun _ _ e => e) (fun k hk => hk.imp id (fun h => ⟨h.1, by simp; omega⟩))⟩
  have kV : Hid (Keeps A w (w1.alloc (.cells #[v] 98))) := kA.alloc _
  rcases hf with ⟨hd, rfl, rfl⟩ | ⟨hd, hx, rfl, rfl⟩ | ⟨hd, x, hx, rfl, rfl⟩
  · have HF : Hid (σ.dead = true) := hd
    clear hd
    go_wp2
    go_ret
    exact ⟨6, σ.tick, rfl, .inl ⟨HF.out, rfl, rfl⟩, DV.out, kV.out⟩
  · have HF : Hid (σ.dead = false ∧ σ.now s.data.toList = none) := ⟨hd, hx⟩
    clear hd hx
    go_wp2
    go_ret
    exact ⟨4, σ.tick, rfl, .inr (.inl ⟨HF.out.1, HF.out.2, rfl, rfl⟩), DV.out, kV.out⟩
  · have HF : Hid (σ.dead = false ∧ σ.now s.data.toList = some x) := ⟨hd, hx⟩
    have hq1 : w1.heap[w.heap.size]? = some (.cells #[.string s] 9 (0, 0)) := k1.heap HQ.out (fun e => by have := heap_lt H.out.head; omega)
    have hq2 : w1.heap[w.heap.size + 1]? = some (.cells #[.string t] 9 (0, 0)) := k1.heap HQ'.out (fun e => by have := heap_lt H.out.head; omega)
    have sz : (w1.alloc (.cells #[ptr x] 98)).heap.size = w1.heap.size + 1 := by simp
    have hp : (w1.alloc (.cells #[ptr x] 98)).heap[w1.heap.size]? = some (.cells #[ptr x] 98 (0, 0)) := heap_alloc_new w1 _
    have h2 : Inner (w1.alloc (.cells #[ptr x] 98)) (ext A w (w1.alloc (.cells #[ptr x] 98))) d K.length σ.tick mn ms cv vals bv :=
      H1.out.kept kp (fun _ _ e => e) (fun k hk => hk.imp id (fun h => ⟨h.1, by rw [sz]; omega⟩))
    have hchg : ChgAt (w1.alloc (.cells #[ptr x] 98)) (ext A w (w1.alloc (.cells #[ptr x] 98))) (.func (.func 97) #[] #[ptr w.heap.size, ptr w1.heap.size, ptr (w.heap.size + 1)]) (.rename s.data.toList t.data.toList x) :=
      ⟨w.heap.size, w1.heap.size, w.heap.size + 1, rfl, ⟨.inr ⟨Nat.le_refl _, by have := Hs1.out; omega⟩, s, kp.heap hq1 (fun e => e), rfl, hs⟩, ⟨.inr ⟨by have := Hs1.out; omega, by omega⟩, hp⟩, ⟨.inr ⟨by omega, by have := Hs1.out; omega⟩, t, kp.heap hq2 (fun e => e), rfl, ht⟩⟩
    have hdo := do_any h2 hchg (put_in (del_in hK _) htK _) hKl hC
    clear hd hx hchg h2 hq1 hq2 sz hp
    unfold ptr at *
    go_wp2_with (go_at_call 48; refine hdo.mono ?_)
    rintro e w2 ⟨rfl, ⟨cv', vals', h2⟩, k2⟩
    have k2s := k2.size
    go_wp2
    go_ret
    have e2 : (w1.alloc (.cells #[.pointer (some ⟨x, 0, none⟩)] 98)).heap.size = w1.heap.size + 1 := by simp
    refine ⟨0, σ.tick.did (.rename s.data.toList t.data.toList x), rfl, .inr (.inr ⟨HF.out.1, x, HF.out.2, rfl, rfl⟩), ⟨mn, ms, cv', vals', bv, h2.grow (ext_then (by have := Hs1.out; omega) k2s)⟩, kV.out.then k2 (fun i hi e => ?_)⟩
    rcases e with e | e
    · exact e
    · omega

/-- a file more -/
def Dk.add (σ : Dk) (x : Nat) : Dk := { σ with files := x :: σ.files, cont := upd σ.cont x [], sure := upd σ.sure x 0 }

/-- what 'Create' does -/
def Dk.creates (σ : Dk) (s : Text) (e : Int) (σ' : Dk) : Prop :=
  (σ.dead = true ∧ e = 6 ∧ σ' = σ.tick) ∨ (σ.dead = false ∧ (σ.now s).isSome = true ∧ e = 5 ∧ σ' = σ.tick) ∨ (σ.dead = false ∧ σ.now s = none ∧ ∃ x, x ∉ σ.files ∧ e = 0 ∧ σ' = (σ.tick.add x).did (.create s x))

set_option maxHeartbeats 1000000 in
theorem create_any (h : Inner w A d K.length σ mn ms cv vals bv) (hl : ∀ l, σ.left = some l → l < 9223372036854775808) (hK : ∀ s, (σ.now s).isSome = true → s ∈ K) (hKl : K.length ≤ 1099511627776) (hC : σ.chs.length ≤ 1099511627776) (s : ByteArray) (hs : s.size ≤ maxLen) (hsK : s.data.toList ∈ K) :
    Calls Tryz.prog 16 #[ptr d, .string s] w fun e w' => ∃ k σ', e = .returned (.int .i64 k) ∧ σ.creates s.data.toList k σ' ∧ DiskAt w' (ext A w w') d K.length σ' ∧ Keeps A w w' := by
  have kq : Fresh w (w.alloc (.cells #[.string s] 9)) := (Keeps.refl _ w).alloc _
  have hq : (w.alloc (.cells #[.string s] 9)).heap[w.heap.size]? = some (.cells #[.string s] 9 (0, 0)) := heap_alloc_new w _
  have h0 := h.kept (A' := ext A w (w.alloc (.cells #[.string s] 9))) kq (fun _ _ e => e) (fun _ h => .inl h)
  have hr := runs_any h0 hl
  have H : Hid (Inner w A d K.length σ mn ms cv vals bv) := h
  have HQ : Hid ((w.alloc (.cells #[.string s] 9)).heap[w.heap.size]? = some (.cells #[.string s] 9 (0, 0))) := hq
  clear h h0 hq
  unfold ptr at *
  cases hd : σ.dead
  · rw [hd] at hr
    have HD : Hid (σ.dead = false) := hd
    clear hd
    go_enter Tryz.func16, Tryz.ntmps16
    go_wp2_with (go_at_call 47; refine hr.mono ?_)
    rintro e w1 ⟨rfl, h1, k1, hs1⟩
    have hs1' : w1.heap.size = w.heap.size + 1 := by rw [hs1]; simp
    have Hs1 : Hid (w1.heap.size = w.heap.size + 1) := hs1'
    have kA : Keeps A w w1 := (Keeps.ofFresh kq).then k1 (fun i _ e => by subst e; exact H.out.ownD)
    have HA : Hid (ext A w (w.alloc (.cells #[.string s] 9)) = ext A w w1) := by unfold ext; rw [hs1]; rfl
    have h1' : Inner w1 (ext A w w1) d K.length σ.tick mn ms cv vals bv := HA.out ▸ h1
    have H1 : Hid (Inner w1 (ext A w w1) d K.length σ.tick mn ms cv vals bv) := h1'
    have hq1 : w1.heap[w.heap.size]? = some (.cells #[.string s] 9 (0, 0)) := k1.heap HQ.out (fun e => by have := heap_lt H.out.head; omega)
    have HQ1 : Hid (w1.heap[w.heap.size]? = some (.cells #[.string s] 9 (0, 0))) := hq1
    have c0 : w1.drew.cell? ⟨d, 0, none⟩ = some (.map (some mn)) := h1'.cell0
    have cs : w1.drew.cell? ⟨w.heap.size, 0, none⟩ = some (.string s) := by rw [Lib.cell_of_heap (w := w1.drew) hq1]; rfl
    have hn : σ.tick.now = σ.now := rfl
    obtain ⟨l1, l2⟩ := h1'.now.look s hs w1.drew rfl
    rw [hn] at l1 l2
    clear hs1 hs1' hr h1 h1' hq1 hn
    cases hx : σ.now s.data.toList with
    | none =>
      have hlk := l1 hx
      have HX : Hid (σ.now s.data.toList = none) := hx
      clear l1 l2 hx
      obtain ⟨W, hW⟩ : ∃ W, W = ((w1.alloc (.cells #[.pointer none, .slice none 0 0, .int .i64 0] 110)).alloc (.cells #[ptr w1.heap.size] 98)).drew := ⟨_, rfl⟩
      have kW : Fresh w1 W := by rw [hW]; exact (((Keeps.refl _ w1).alloc _).alloc _).drew
      have sW : W.heap.size = w1.heap.size + 2 := by rw [hW]; simp [World.drew]
      have hx0 : W.heap[w1.heap.size]? = some (.cells #[.pointer none, .slice none 0 0, .int .i64 0] 110 (0, 0)) := by
        rw [hW]
        show ((w1.alloc (.cells #[.pointer none, .slice none 0 0, .int .i64 0] 110)).alloc (.cells #[ptr w1.heap.size] 98)).heap[w1.heap.size]? = _
        rw [Lib.alloc_old _ _ _ (by simp)]; exact heap_alloc_new w1 _
      have hx1 : W.heap[w1.heap.size + 1]? = some (.cells #[ptr w1.heap.size] 98 (0, 0)) := by
        rw [hW]
        have := heap_alloc_new (w1.alloc (.cells #[.pointer none, .slice none 0 0, .int .i64 0] 110)) (.cells #[ptr w1.heap.size] 98)
        simpa [World.drew] using this
      have hnew : w1.heap.size ∉ σ.tick.files := fun hm => by
        obtain ⟨⟨p, _, hh⟩, _⟩ := H1.out.files _ hm
        exact absurd (heap_lt hh) (Nat.lt_irrefl _)
      have h2 : Inner W (ext A w W) d K.length σ.tick mn ms cv vals bv := H1.out.kept kW (fun _ _ e => e) (fun k hk => hk.imp id (fun h => ⟨h.1, by omega⟩))
      have hs1 := Hs1.out
      have h3 := h2.newFile (tag_cells hx0) (.inr ⟨by omega, by omega⟩) ⟨⟨_, .inl rfl, hx0⟩, Buf.nil _⟩ hnew
      have hchg : ChgAt W (ext A w W) (.func (.func 49) #[] #[ptr (w1.heap.size + 1), ptr w.heap.size]) (.create s.data.toList w1.heap.size) :=
        ⟨w1.heap.size + 1, w.heap.size, rfl, ⟨.inr ⟨by omega, by omega⟩, hx1⟩, ⟨.inr ⟨Nat.le_refl _, by omega⟩, s, kW.heap HQ1.out (fun e => e), rfl, hs⟩⟩
      have hdo := do_any h3 hchg (put_in hK hsK _) hKl hC
      have Hnew : Hid (w1.heap.size ∉ σ.tick.files) := hnew
      have HsW : Hid (W.heap.size = w1.heap.size + 2) := sW
      rw [hW] at hdo
      have kW' : Hid (Keeps A w W) := kA.then kW (fun _ _ e => e.elim)
      have HW : Hid (W = ((w1.alloc (.cells #[.pointer none, .slice none 0 0, .int .i64 0] 110)).alloc (.cells #[ptr w1.heap.size] 98)).drew) := hW
      clear hchg h3 h2 hnew hx1 hx0 sW kW hW hs1
      unfold ptr at *
      go_wp2
      go_region
      all_goals go_wp2_with fail
      refine hdo.mono ?_
      rintro e w2 ⟨rfl, ⟨cv', vals', h4⟩, k4⟩
      rw [← HW.out] at h4 k4
      have k4s := k4.size
      go_wp2
      go_ret
      have hs1 := Hs1.out
      have hsW := HsW.out
      refine ⟨0, (σ.tick.add w1.heap.size).did (.create s.data.toList w1.heap.size), rfl, .inr (.inr ⟨HD.out, HX.out, _, Hnew.out, rfl, rfl⟩), ⟨mn, ms, cv', vals', _, h4.grow (ext_then (by omega) k4s)⟩, kW'.out.then k4 (fun i hi e => ?_)⟩
      rcases e with e | e
      · exact e
      · omega
    | some x =>
      have hlk := l2 x hx
      have HX : Hid (σ.now s.data.toList = some x) := hx
      clear l1 l2 hx
      unfold ptr at *
      go_wp2
      go_region
      all_goals go_wp2
      all_goals go_ret
      all_goals exact ⟨5, σ.tick, rfl, .inr (.inl ⟨HD.out, by rw [HX.out]; rfl, rfl, rfl⟩), ⟨mn, ms, cv, vals, bv, H1.out.kept (S := fun _ => False) (Keeps.drew (Keeps.refl _ w1)) (fun _ _ e => e) (fun _ h => h)⟩, kA.drew⟩
  · rw [hd] at hr
    have HD : Hid (σ.dead = true) := hd
    clear hd
    go_enter Tryz.func16, Tryz.ntmps16
    go_wp2_with (go_at_call 47; refine hr.mono ?_)
    rintro e w1 ⟨rfl, h1, k1, hs1⟩
    have kA : Keeps A w w1 := (Keeps.ofFresh kq).then k1 (fun i _ e => by subst e; exact H.out.ownD)
    have HA : Hid (ext A w (w.alloc (.cells #[.string s] 9)) = ext A w w1) := by unfold ext; rw [hs1]; rfl
    clear hs1 hr
    go_wp2
    go_ret
    exact ⟨6, σ.tick, rfl, .inl ⟨HD.out, rfl, rfl⟩, ⟨mn, ms, cv, vals, bv, HA.out ▸ h1⟩, kA⟩
end
end Go.Proofs.YtegbkpjcjlihmabGreatDoor
