/-
  toWrite: the file that a call is for. Read, Names.
-/
import Derived.Test.YtegbkpjcjlihmabDo
import Derived.Test.YtegbkpjcjlihmabKeys
namespace Go.Proofs.Ytegbkpjcjlihmab
open Go.RowKit Go.Maps

section
variable {w : World} {A : Nat → Prop} {d n : Nat} {σ : Dk} {mn ms : Nat} {cv : Value} {vals : List Value} {bv : Nat → Value}

/-- what 'toWrite' answers -/
def Dk.finds (σ : Dk) (s : Text) (v : Value) (e : Int) : Prop :=
  (σ.dead = true ∧ v = .pointer none ∧ e = 6) ∨ (σ.dead = false ∧ σ.now s = none ∧ v = .pointer none ∧ e = 4) ∨ (σ.dead = false ∧ ∃ x, σ.now s = some x ∧ v = ptr x ∧ e = 0)

set_option maxHeartbeats 1000000 in
theorem toWrite_any (h : Inner w A d n σ mn ms cv vals bv) (hl : ∀ l, σ.left = some l → l < 9223372036854775808) (s : ByteArray) (hs : s.size ≤ maxLen) :
    Calls Try.prog 27 #[ptr d, .string s] w fun e w' => ∃ v k, e = .returned (.tuple #[v, .int .i64 k]) ∧ σ.finds s.data.toList v k ∧ Inner w' A d n σ.tick mn ms cv vals bv ∧ Keeps (fun k => k = d) w w' ∧ w'.heap.size = w.heap.size := by
  have hr := runs_any h hl
  cases hd : σ.dead
  · rw [hd] at hr
    have HD : Hid (σ.dead = false) := hd
    clear hd
    go_enter Try.func27, Try.ntmps27
    unfold ptr at *
    go_wp2_with (go_at_call 24; refine hr.mono ?_)
    rintro e w1 ⟨rfl, h1, k1, hs1⟩
    have Hs1 : Hid (w1.heap.size = w.heap.size) := hs1
    have c0 := h1.cell0
    have H1 : Hid (Inner w1 A d n σ.tick mn ms cv vals bv) := h1
    have hn : σ.tick.now = σ.now := rfl
    obtain ⟨l1, l2⟩ := h1.now.look s hs w1 rfl
    rw [hn] at l1 l2
    clear hs1 h1 hr hn
    cases hx : σ.now s.data.toList with
    | none =>
      have hlk := l1 hx
      have HX : Hid (σ.now s.data.toList = none) := hx
      clear l1 l2 hx
      go_wp2
      go_ret2
      exact ⟨_, _, rfl, .inr (.inl ⟨HD.out, HX.out, rfl, rfl⟩), H1.out, k1, Hs1.out⟩
    | some x =>
      have hlk := l2 x hx
      have HX : Hid (σ.now s.data.toList = some x) := hx
      clear l1 l2 hx
      unfold ptr at *
      go_wp2
      go_ret2
      exact ⟨_, _, rfl, .inr (.inr ⟨HD.out, x, HX.out, rfl, rfl⟩), H1.out, k1, Hs1.out⟩
  · rw [hd] at hr
    have HD : Hid (σ.dead = true) := hd
    clear hd
    go_enter Try.func27, Try.ntmps27
    unfold ptr at *
    go_wp2_with (go_at_call 24; refine hr.mono ?_)
    rintro e w1 ⟨rfl, h1, k1, hs1⟩
    have Hs1 : Hid (w1.heap.size = w.heap.size) := hs1
    clear hs1
    go_wp2
    go_ret2
    exact ⟨_, _, rfl, .inl ⟨HD.out, rfl, rfl⟩, h1, k1, Hs1.out⟩

set_option maxHeartbeats 1000000 in
theorem names_any (h : Inner w A d n σ mn ms cv vals bv) (hn : n ≤ 1099511627776) :
    Calls Try.prog 8 #[ptr d] w fun e w' => ∃ v ks, e = .returned v ∧ Sorted σ.now ks ∧ ks.length ≤ n ∧ (∀ s ∈ ks, s.length ≤ maxLen) ∧ Row9 w' w.heap.size v ks ∧ Fresh w w' := by
  have c0 := h.cell0
  have hso := sorted_any mn n σ.now w h.now hn
  clear h
  unfold ptr
  go_enter Try.func8, Try.ntmps8
  go_wp2_with (go_at_call 20; refine hso.mono ?_)
  rintro e w1 ⟨v, ks, rfl, h1, h2, h3, h4, h5⟩
  go_wp2
  go_ret
  exact ⟨v, ks, rfl, h1, h2, h3, h4, h5⟩

/-- the text of a file, if there is one -/
def Dk.read (σ : Dk) (s : Text) : Option Text := (σ.now s).map σ.cont

set_option maxHeartbeats 1000000 in
theorem read_any (h : Inner w A d n σ mn ms cv vals bv) (hin : ∀ s x, σ.now s = some x → x ∈ σ.files) (s : ByteArray) (hs : s.size ≤ maxLen) :
    Calls Try.prog 9 #[ptr d, .string s] w fun e w' => e = .returned (.tuple #[.string ⟨((σ.read s.data.toList).getD []).toArray⟩, .bool (σ.read s.data.toList).isSome]) ∧ Inner w' A d n σ mn ms cv vals bv ∧ Keeps A w w' ∧ w'.heap.size = w.heap.size := by
  have c0 := h.cell0
  obtain ⟨l1, l2⟩ := h.now.look s hs w rfl
  have H : Hid (Inner w A d n σ mn ms cv vals bv) := h
  cases hx : σ.now s.data.toList with
  | none =>
    have hlk := l1 hx
    have HX : Hid (σ.now s.data.toList = none) := hx
    clear l1 l2 hx h
    unfold ptr
    go_enter Try.func9, Try.ntmps9
    go_wp2
    go_ret2
    refine ⟨by simp [Dk.read, HX.out], H.out, Keeps.refl _ _, rfl⟩
  | some x =>
    have hlk := l2 x hx
    have hxf := hin _ x hx
    have hf := h.files x hxf
    obtain ⟨⟨p, hp, hh⟩, hb⟩ := hf
    have hc := string_any x 56 _ (bv x) (σ.cont x) w hh rfl hb
    have HX : Hid (σ.now s.data.toList = some x) := hx
    clear l1 l2 hx h
    unfold ptr at *
    go_enter Try.func9, Try.ntmps9
    go_wp2_with (go_at_call 23; refine hc.mono ?_)
    rintro e w1 ⟨rfl, k1, hb1, hs1⟩
    have Hs1 : Hid (w1.heap.size = w.heap.size) := hs1
    clear hs1
    go_wp2
    go_ret2
    have hh1 : w1.heap[x]? = some (.cells #[p, bv x, .int .i64 (σ.sure x)] 56 (0, 0)) := k1.heap hh (fun e => ne_of_tag (tag_cells hh) (hb.tag e) (by decide) rfl)
    have h1 := H.out.setFile (v' := bv x) (c := σ.cont x) (m := σ.sure x) hxf ⟨⟨p, hp, hh1⟩, hb1⟩ (fun k hk => .inl hk) (k1.mono (fun _ _ e => .inr e))
    have e1 : upd σ.cont x (σ.cont x) = σ.cont := by funext y; unfold upd; split; rename_i e; rw [e]; rfl
    have e2 : upd σ.sure x (σ.sure x) = σ.sure := by funext y; unfold upd; split; rename_i e; rw [e]; rfl
    have e3 : upd bv x (bv x) = bv := by funext y; unfold upd; split; rename_i e; rw [e]; rfl
    have e4 : ext A w w1 = A := by funext k; unfold ext; rw [Hs1.out]; simp; intro h1 h2; omega
    rw [e1, e2, e3, e4] at h1
    refine ⟨by simp [Dk.read, HX.out], h1, k1.mono (fun i _ e => H.out.ownB x hxf i e), Hs1.out⟩
end
end Go.Proofs.Ytegbkpjcjlihmab
