/-
  Append, Sync, Remove, Rename, Create.
-/
import Derived.Test.YtegbkpjcjlihmaaOpc
namespace Go.Proofs.Ytegbkpjcjlihmaa
open Go.RowKit Go.Maps

theorem ext_same {A : Nat → Prop} {w w' : World} (h : w'.heap.size = w.heap.size) : ext A w w' = A := by
  funext k; unfold ext; rw [h]; simp; intro h1 h2; omega

theorem ext_then {A : Nat → Prop} {a b c : World} (h : a.heap.size ≤ b.heap.size) (h' : b.heap.size ≤ c.heap.size) : ∀ k, ext (ext A a b) b c k → ext A a c k := by
  intro k hk
  rcases hk with (hk | hk) | hk
  · exact .inl hk
  · exact .inr ⟨by omega, by omega⟩
  · exact .inr ⟨by omega, by omega⟩

theorem Inner.grow {w : World} {A A' : Nat → Prop} {d n : Nat} {σ : Dk} {mn ms : Nat} {cv : Value} {vals : List Value} {bv : Nat → Value} (h : Inner w A d n σ mn ms cv vals bv) (hA : ∀ i, A i → A' i) : Inner w A' d n σ mn ms cv vals bv :=
  h.kept (S := fun _ => False) (Keeps.refl _ w) (fun _ _ e => e) hA

/-- a file of the disk, written -/
def Dk.wrote (σ : Dk) (x : Nat) (c : Text) (m : Nat) : Dk := { σ with cont := upd σ.cont x c, sure := upd σ.sure x m }

section
variable {w : World} {A : Nat → Prop} {d n : Nat} {σ : Dk} {mn ms : Nat} {cv : Value} {vals : List Value} {bv : Nat → Value}

/-- what 'Append' does -/
def Dk.appends (σ : Dk) (s t : Text) (e : Int) (σ' : Dk) : Prop :=
  (σ.dead = true ∧ e = 6 ∧ σ' = σ.tick) ∨ (σ.dead = false ∧ σ.now s = none ∧ e = 4 ∧ σ' = σ.tick) ∨ (σ.dead = false ∧ ∃ x, σ.now s = some x ∧ e = 0 ∧ σ' = σ.tick.wrote x (σ.cont x ++ t) (σ.sure x))

set_option maxHeartbeats 1000000 in
theorem append_any (h : Inner w A d n σ mn ms cv vals bv) (hl : ∀ l, σ.left = some l → l < 9223372036854775808) (hin : ∀ s x, σ.now s = some x → x ∈ σ.files) (s t : ByteArray) (hs : s.size ≤ maxLen) (ht : ∀ x ∈ σ.files, (σ.cont x).length + t.size ≤ 140737488355328) :
    Calls Try.prog 36 #[ptr d, .string s, .string t] w fun e w' => ∃ k σ', e = .returned (.int .i64 k) ∧ σ.appends s.data.toList t.data.toList k σ' ∧ DiskAt w' (ext A w w') d n σ' ∧ Keeps A w w' := by
  have hr := toWrite_any h hl s hs
  have H : Hid (Inner w A d n σ mn ms cv vals bv) := h
  clear h
  unfold ptr at *
  go_enter Try.func36, Try.ntmps36
  go_wp2_with (go_at_call 65; refine hr.mono ?_)
  rintro e w1 ⟨v, k, rfl, hf, h1, k1, hs1⟩
  have Hs1 : Hid (w1.heap.size = w.heap.size) := hs1
  have kA : Keeps A w w1 := k1.mono (fun i _ e => by subst e; exact H.out.ownD)
  have D1 : Hid (DiskAt w1 (ext A w w1) d n σ.tick) := ⟨mn, ms, cv, vals, bv, h1.grow (fun _ h => .inl h)⟩
  clear hs1 hr
  rcases hf with ⟨hd, rfl, rfl⟩ | ⟨hd, hx, rfl, rfl⟩ | ⟨hd, x, hx, rfl, rfl⟩
  · have HF : Hid (σ.dead = true) := hd
    clear hd h1
    go_wp2
    go_ret
    exact ⟨6, σ.tick, rfl, .inl ⟨HF.out, rfl, rfl⟩, D1.out, kA⟩
  · have HF : Hid (σ.dead = false ∧ σ.now s.data.toList = none) := ⟨hd, hx⟩
    clear hd hx h1
    go_wp2
    go_ret
    exact ⟨4, σ.tick, rfl, .inr (.inl ⟨HF.out.1, HF.out.2, rfl, rfl⟩), D1.out, kA⟩
  · have hxf := hin _ x hx
    have HF : Hid (σ.dead = false ∧ σ.now s.data.toList = some x) := ⟨hd, hx⟩
    obtain ⟨⟨p, hp, hh⟩, hb⟩ := h1.files x hxf
    have hc := writeString_any x p (bv x) _ (σ.cont x) t w1 hh hp hb (ht x hxf)
    have H1 : Hid (Inner w1 A d n σ.tick mn ms cv vals bv) := h1
    clear hd hx h1
    unfold ptr at *
    go_wp2_with (go_at_call 32; refine hc.mono ?_)
    rintro e w2 ⟨rfl, v', hh2, hb2, hnew, k2⟩
    have k2s := k2.size
    go_wp2
    go_ret
    refine ⟨0, σ.tick.wrote x (σ.cont x ++ t.data.toList) (σ.sure x), rfl, .inr (.inr ⟨HF.out.1, x, HF.out.2, rfl, rfl⟩), ?_, ?_⟩
    · have hfile := H1.out.setFile (v' := v') (c := σ.cont x ++ t.data.toList) (m := σ.sure x) hxf ⟨⟨self x, .inr rfl, hh2⟩, hb2⟩ (fun k hk => (hnew k hk).imp id (fun h => ⟨h, by obtain ⟨cur, fz, hg⟩ := hb2.row hk; exact heap_lt hg⟩)) k2
      refine ⟨mn, ms, cv, vals, _, hfile.grow (fun i hi => ?_)⟩
      rcases hi with hi | hi
      · exact .inl hi
      · exact .inr ⟨by have := Hs1.out; omega, hi.2⟩
    · refine kA.then k2 (fun i _ e => ?_)
      rcases e with rfl | e
      · exact H.out.ownX _ hxf
      · exact H.out.ownB x hxf i e

/-- what 'Sync' does -/
def Dk.syncs (σ : Dk) (s : Text) (e : Int) (σ' : Dk) : Prop :=
  (σ.dead = true ∧ e = 6 ∧ σ' = σ.tick) ∨ (σ.dead = false ∧ σ.now s = none ∧ e = 4 ∧ σ' = σ.tick) ∨ (σ.dead = false ∧ ∃ x, σ.now s = some x ∧ e = 0 ∧ σ' = σ.tick.wrote x (σ.cont x) (σ.cont x).length)

set_option maxHeartbeats 1000000 in
theorem sync_any (h : Inner w A d n σ mn ms cv vals bv) (hl : ∀ l, σ.left = some l → l < 9223372036854775808) (hin : ∀ s x, σ.now s = some x → x ∈ σ.files) (s : ByteArray) (hs : s.size ≤ maxLen) :
    Calls Try.prog 37 #[ptr d, .string s] w fun e w' => ∃ k σ', e = .returned (.int .i64 k) ∧ σ.syncs s.data.toList k σ' ∧ DiskAt w' (ext A w w') d n σ' ∧ Keeps A w w' := by
  have hr := toWrite_any h hl s hs
  have H : Hid (Inner w A d n σ mn ms cv vals bv) := h
  clear h
  unfold ptr at *
  go_enter Try.func37, Try.ntmps37
  go_wp2_with (go_at_call 65; refine hr.mono ?_)
  rintro e w1 ⟨v, k, rfl, hf, h1, k1, hs1⟩
  have Hs1 : Hid (w1.heap.size = w.heap.size) := hs1
  have kA : Keeps A w w1 := k1.mono (fun i _ e => by subst e; exact H.out.ownD)
  have D1 : Hid (DiskAt w1 (ext A w w1) d n σ.tick) := ⟨mn, ms, cv, vals, bv, h1.grow (fun _ h => .inl h)⟩
  clear hs1 hr
  rcases hf with ⟨hd, rfl, rfl⟩ | ⟨hd, hx, rfl, rfl⟩ | ⟨hd, x, hx, rfl, rfl⟩
  · have HF : Hid (σ.dead = true) := hd
    clear hd h1
    go_wp2
    go_ret
    exact ⟨6, σ.tick, rfl, .inl ⟨HF.out, rfl, rfl⟩, D1.out, kA⟩
  · have HF : Hid (σ.dead = false ∧ σ.now s.data.toList = none) := ⟨hd, hx⟩
    clear hd hx h1
    go_wp2
    go_ret
    exact ⟨4, σ.tick, rfl, .inr (.inl ⟨HF.out.1, HF.out.2, rfl, rfl⟩), D1.out, kA⟩
  · have hxf := hin _ x hx
    have HF : Hid (σ.dead = false ∧ σ.now s.data.toList = some x) := ⟨hd, hx⟩
    obtain ⟨⟨p, hp, hh⟩, hb⟩ := h1.files x hxf
    have hc := len_any x 101 _ (bv x) (σ.cont x) w1 hh rfl hb
    have H1 : Hid (Inner w1 A d n σ.tick mn ms cv vals bv) := h1
    have HH : Hid (w1.heap[x]? = some (.cells #[p, bv x, .int .i64 (σ.tick.sure x)] 101 (0, 0))) := hh
    have c2 : w1.cell? ⟨x, 2, none⟩ = some (.int .i64 (σ.tick.sure x)) := by rw [Lib.cell_of_heap hh]; rfl
    have f2 : w1.frozen? ⟨x, 2, none⟩ = false := Lib.frozen_of_heap hh 2
    clear hd hx h1 hh
    unfold ptr at *
    go_wp2_with (go_at_call 66; refine hc.mono ?_)
    rintro e w2 ⟨rfl, rfl⟩
    go_wp2
    go_ret
    have hh2 := heap_setCell_at HH.out 2 (.int .i64 ((σ.cont x).length : Nat))
    have k2 : Keeps (fun i => i = x) w2 (w2.setCell ⟨x, 2, none⟩ (.int .i64 ((σ.cont x).length : Nat))) := (Keeps.refl (fun i => i = x) w2).setCell (p := ⟨x, 2, none⟩) (fun _ => rfl) _
    have hb2 := k2.buf hb (fun k hk e => ne_of_tag (hb.tag hk) (tag_cells HH.out) (by decide) e)
    refine ⟨0, σ.tick.wrote x (σ.cont x) (σ.cont x).length, rfl, .inr (.inr ⟨HF.out.1, x, HF.out.2, rfl, rfl⟩), ?_, ?_⟩
    · have hfile := H1.out.setFile (v' := bv x) (c := σ.cont x) (m := (σ.cont x).length) hxf ⟨⟨p, hp, hh2⟩, hb2⟩ (fun k hk => .inl hk) (k2.mono (fun _ _ e => .inl e))
      refine ⟨mn, ms, cv, vals, _, hfile.grow (fun i hi => ?_)⟩
      rcases hi with hi | hi
      · exact .inl hi
      · exact .inr ⟨by have := Hs1.out; omega, hi.2⟩
    · exact kA.then k2 (fun i _ e => by subst e; exact H.out.ownX _ hxf)
end
end Go.Proofs.Ytegbkpjcjlihmaa
