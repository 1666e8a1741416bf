/-
  (*line): keep, take, endsAt, bytes.
-/
import Derived.Test.YtegbkpjcjlihmaaLibb
import Derived.Test.YtegbkpjcjlihmaaPure
namespace Go.Proofs.Ytegbkpjcjlihmaa
open Go.RowKit

/-- a line in block b, its buffer v -/
structure LineAt (w : World) (B most b : Nat) (v : Value) (body : List UInt8) (cr : Bool) : Prop where
  heap : ∃ p, (p = .pointer none ∨ p = self b) ∧ w.heap[b]? = some (.cells #[p, v, .int .i64 body.length, .bool cr] 62 (0, 0))
  buf : Buf w B v (txt most body)
  ne : v.ownBlock ≠ some b

theorem Keeps.line {S : Nat → Prop} {w w' : World} (h : Keeps S w w') {B most b : Nat} {v : Value} {body : List UInt8} {cr : Bool} (hl : LineAt w B most b v body cr) (hb : ¬ S b) (hn : ∀ k, v.ownBlock = some k → ¬ S k) : LineAt w' B most b v body cr := by
  obtain ⟨⟨p, hp, hh⟩, hbuf, hne⟩ := hl
  exact ⟨⟨p, hp, h.heap hh hb⟩, h.buf hbuf hn, hne⟩

theorem Newer.refl (w : World) (v : Value) : Newer w v v := fun _ h => .inl h

theorem Newer.trans {w w1 : World} {v v1 v2 : Value} (h : Newer w v v1) (k : Newer w1 v1 v2) (hs : w.heap.size ≤ w1.heap.size) : Newer w v v2 := by
  intro j hj
  rcases k j hj with h1 | h1
  · exact h j h1
  · exact .inr (by omega)

set_option maxRecDepth 20000 in
set_option maxHeartbeats 1000000 in
theorem keep_any (B most b : Nat) (v : Value) (body : List UInt8) (cr : Bool) (c : UInt8) (w : World) (h : LineAt w B most b v body cr) (hm : most ≤ 100000) (hlen : body.length < 4611686018427387904) (hB : B ≤ w.heap.size) :
    Calls Try.prog 57 #[.pointer (some ⟨b, 0, none⟩), .int .u8 c.toNat, .int .i64 most] w fun e w' => e = .returned (.tuple #[]) ∧ ∃ v', LineAt w' B most b v' (body ++ [c]) cr ∧ Newer w v v' ∧ Keeps (fun k => k = b ∨ v.ownBlock = some k) w w' := by
  obtain ⟨⟨p, hp, hh⟩, hbuf, hne⟩ := h
  have c2 : w.cell? ⟨b, 2, none⟩ = some (.int .i64 body.length) := by rw [Lib.cell_of_heap hh]; rfl
  have f2 : w.frozen? ⟨b, 2, none⟩ = false := Lib.frozen_of_heap hh 2
  have hh1 := heap_setCell_at hh 2 (.int .i64 ((body.length : Int) + 1))
  have k1 : Keeps (fun k => k = b) w (w.setCell ⟨b, 2, none⟩ (.int .i64 ((body.length : Int) + 1))) := (Keeps.refl (fun k => k = b) w).setCell (p := ⟨b, 2, none⟩) (fun _ => rfl) _
  have hB1 : B ≤ (w.setCell ⟨b, 2, none⟩ (.int .i64 ((body.length : Int) + 1))).heap.size := Nat.le_trans hB k1.size
  have hbuf1 := k1.buf hbuf (fun k hk e => hne (by rw [hk, e]))
  have hlast : ∀ x y : Value, (#[x, y, Value.int .i64 body.length, Value.bool cr].setIfInBounds 2 (.int .i64 ((body.length : Int) + 1))) = #[x, y, .int .i64 ((body ++ [c]).length : Nat), .bool cr] := by
    intro x y
    simp
  rw [hlast] at hh1
  by_cases hle : body.length + 1 ≤ most
  · have hle1 : ¬ ((most : Int) < (body.length : Int) + 1) := by omega
    have htx := txt_keep c hle
    have htl := txt_length_le most body
    have HT : Hid (txt most (body ++ [c]) = txt most body ++ [c]) := htx
    clear htx hlast
    have hg1 : (#[p, v, .int .i64 ((body ++ [c]).length : Nat), .bool cr] : Array Value)[0]? = some (.pointer none) ∨ (#[p, v, .int .i64 ((body ++ [c]).length : Nat), .bool cr] : Array Value)[0]? = some (self b) := by rcases hp with rfl | rfl <;> simp
    have hg2 : (txt most body).length + 1 ≤ 140737488355328 := by omega
    go_enter Try.func57, Try.ntmps57
    go_wp2_with fail
    refine (writeByte_any B b 62 _ v _ c _ (.inr ⟨rfl, rfl⟩) hh1 hg1 rfl hbuf1 hne hg2 hB1).mono ?_
    rintro e w' ⟨rfl, v', hh2, hb2, hne2, hnew, hk⟩
    go_wp2
    go_end0
    refine ⟨rfl, v', ⟨⟨self b, .inr rfl, ?_⟩, by rw [HT.out]; exact hb2, hne2⟩, (Newer.refl w v).trans hnew k1.size, ?_⟩
    · rw [hh2]; rfl
    · exact (k1.mono (fun _ _ e => .inl e)).then hk (fun _ _ e => e)
  · have hle1 : (most : Int) < (body.length : Int) + 1 := by omega
    have htx := txt_reset c hle
    have HT : Hid (txt most (body ++ [c]) = []) := htx
    clear htx hlast
    go_enter Try.func57, Try.ntmps57
    go_wp2_with (go_at_call 80; refine (reset_any b 62 _ p v _ hh1 rfl rfl).mono ?_)
    rintro e w' ⟨rfl, hh2, hk⟩
    go_wp2
    refine bodyPost_ret (results_none rfl _ _ _) rfl ?_
    refine ⟨rfl, .slice none 0 0, ⟨⟨.pointer none, .inl rfl, ?_⟩, by rw [HT.out]; exact Buf.nil _ _, by simp [Value.ownBlock]⟩, by intro k hk; simp [Value.ownBlock] at hk, ?_⟩
    · rw [hh2]; rfl
    · exact (k1.mono (fun _ _ e => .inl e)).then hk (fun _ _ e => .inl e)

theorem keep_int (B most b : Nat) (v : Value) (body : List UInt8) (cr : Bool) (c : UInt8) (ci : Int) (hc : ci = c.toNat) (w : World) (h : LineAt w B most b v body cr) (hm : most ≤ 100000) (hlen : body.length < 4611686018427387904) (hB : B ≤ w.heap.size) :
    Calls Try.prog 57 #[.pointer (some ⟨b, 0, none⟩), .int .u8 ci, .int .i64 most] w fun e w' => e = .returned (.tuple #[]) ∧ ∃ v', LineAt w' B most b v' (body ++ [c]) cr ∧ Newer w v v' ∧ Keeps (fun k => k = b ∨ v.ownBlock = some k) w w' := by
  subst hc
  exact keep_any B most b v body cr c w h hm hlen hB

set_option maxRecDepth 20000 in
set_option maxHeartbeats 1000000 in
theorem endsAt_any (B most b : Nat) (v : Value) (body : List UInt8) (cr : Bool) (c : UInt8) (w : World) (h : LineAt w B most b v body cr) :
    Calls Try.prog 26 #[.pointer (some ⟨b, 0, none⟩), .int .u8 c.toNat] w fun e w' => e = .returned (.bool (cr && c == 10)) ∧ w' = w := by
  obtain ⟨⟨p, hp, hh⟩, hbuf, hne⟩ := h
  have c3 : w.cell? ⟨b, 3, none⟩ = some (.bool cr) := by rw [Lib.cell_of_heap hh]; rfl
  clear hp hh hbuf hne
  have he : ((c.toNat : Int) == 10) = (c == 10) := by
    rw [Bool.eq_iff_iff, beq_iff_eq, beq_iff_eq]
    constructor
    · intro h; apply UInt8.toNat_inj.1; show c.toNat = 10; omega
    · rintro rfl; rfl
  cases cr
  · go_enter Try.func26, Try.ntmps26
    go_wp2
    go_ret
    exact ⟨rfl, rfl⟩
  · go_enter Try.func26, Try.ntmps26
    go_wp2
    go_ret
    exact ⟨by simp, rfl⟩

set_option maxRecDepth 20000 in
set_option maxHeartbeats 1000000 in
theorem bytes_any (B most b : Nat) (v : Value) (cur : List UInt8) (w : World) (h : LineAt w B most b v (bodyOf cur) (crOf cur)) (hlen : cur.length < 4611686018427387904) :
    Calls Try.prog 29 #[.pointer (some ⟨b, 0, none⟩)] w fun e w' => e = .returned (.int .i64 cur.length) ∧ w' = w := by
  obtain ⟨⟨p, hp, hh⟩, hbuf, hne⟩ := h
  have c2 : w.cell? ⟨b, 2, none⟩ = some (.int .i64 (bodyOf cur).length) := by rw [Lib.cell_of_heap hh]; rfl
  have c3 : w.cell? ⟨b, 3, none⟩ = some (.bool (crOf cur)) := by rw [Lib.cell_of_heap hh]; rfl
  have hr := rest_length cur
  have hl := body_length_le cur
  clear hp hh hbuf hne
  cases hc : crOf cur
  · rw [hc] at c3 hr
    have HR : Hid ((bodyOf cur).length + (if false = true then 1 else 0) = cur.length) := hr
    clear hr hc
    go_enter Try.func29, Try.ntmps29
    go_wp2
    go_ret
    have := HR.out
    simp at this
    exact ⟨by rw [this]; rfl, rfl⟩
  · rw [hc] at c3 hr
    have HR : Hid ((bodyOf cur).length + (if true = true then 1 else 0) = cur.length) := hr
    clear hr hc
    go_enter Try.func29, Try.ntmps29
    go_wp2
    go_ret
    have := HR.out
    simp at this
    exact ⟨by rw [← this]; simp, rfl⟩

theorem LineAt.setCr {w : World} {B most b : Nat} {v : Value} {body : List UInt8} {cr : Bool} (h : LineAt w B most b v body cr) (x : Bool) : LineAt (w.setCell ⟨b, 3, none⟩ (.bool x)) B most b v body x := by
  obtain ⟨⟨p, hp, hh⟩, hbuf, hne⟩ := h
  have hk : Keeps (fun k => k = b) w (w.setCell ⟨b, 3, none⟩ (.bool x)) := (Keeps.refl (fun k => k = b) w).setCell (p := ⟨b, 3, none⟩) (fun _ => rfl) _
  refine ⟨⟨p, hp, ?_⟩, hk.buf hbuf (fun k hk e => hne (by rw [hk, e])), hne⟩
  rw [heap_setCell_at hh]
  rfl

theorem LineAt.cell3 {w : World} {B most b : Nat} {v : Value} {body : List UInt8} {cr : Bool} (h : LineAt w B most b v body cr) : w.cell? ⟨b, 3, none⟩ = some (.bool cr) := by
  obtain ⟨⟨p, hp, hh⟩, _, _⟩ := h
  rw [Lib.cell_of_heap hh]; rfl

theorem LineAt.frozen3 {w : World} {B most b : Nat} {v : Value} {body : List UInt8} {cr : Bool} (h : LineAt w B most b v body cr) : w.frozen? ⟨b, 3, none⟩ = false := by
  obtain ⟨⟨p, hp, hh⟩, _, _⟩ := h
  exact Lib.frozen_of_heap hh 3

theorem crKeeps (w : World) (b : Nat) (v x : Value) : Keeps (fun k => k = b ∨ v.ownBlock = some k) w (w.setCell ⟨b, 3, none⟩ x) := (Keeps.refl (fun k => k = b ∨ v.ownBlock = some k) w).setCell (p := ⟨b, 3, none⟩) (fun _ => .inl rfl) _

/-- the second half of take -/
theorem Keeps.two {w w1 w2 : World} {b : Nat} {v v1 : Value} (h : Keeps (fun k => k = b ∨ v.ownBlock = some k) w w1) (hn : Newer w v v1) (k : Keeps (fun k => k = b ∨ v1.ownBlock = some k) w1 w2) : Keeps (fun k => k = b ∨ v.ownBlock = some k) w w2 :=
  h.then k (fun i hi e => by
    rcases e with e | e
    · exact .inl e
    · rcases hn i e with h | h
      · exact .inr h
      · omega)

set_option maxRecDepth 20000 in
set_option maxHeartbeats 2000000 in
theorem take_any (B most b : Nat) (v : Value) (cur : List UInt8) (c : UInt8) (w : World) (h : LineAt w B most b v (bodyOf cur) (crOf cur)) (hm : most ≤ 100000) (hlen : cur.length < 4611686018427387000) (hB : B ≤ w.heap.size) :
    Calls Try.prog 28 #[.pointer (some ⟨b, 0, none⟩), .int .u8 c.toNat, .int .i64 most] w fun e w' => e = .returned (.tuple #[]) ∧ ∃ v', LineAt w' B most b v' (bodyOf (cur ++ [c])) (crOf (cur ++ [c])) ∧ Newer w v v' ∧ Keeps (fun k => k = b ∨ v.ownBlock = some k) w w' := by
  have hl := body_length_le cur
  rw [cr_snoc, body_snoc]
  have c3 := h.cell3
  by_cases hc : c = 13
  · subst hc
    simp only [if_true]
    cases hcr : crOf cur
    · rw [hcr] at h c3
      rw [body_plain hcr] at h
      have f3 := h.frozen3
      have h1 := h.setCr true
      have d3 := h1.cell3
      clear hcr
      go_enter Try.func28, Try.ntmps28
      go_wp2_with fail
      go_end0
      exact ⟨rfl, v, h1, Newer.refl _ _, crKeeps _ _ _ _⟩
    · rw [hcr] at h c3
      have HB : Hid (bodyOf cur ++ [13] = cur) := body_cr hcr
      clear hcr
      go_enter Try.func28, Try.ntmps28
      go_wp2_with fail
      refine (keep_int B most b v _ true 13 13 rfl _ h hm (by omega) hB).mono ?_
      rintro e w1 ⟨rfl, v1, h1, n1, k1⟩
      rw [HB.out] at h1
      have e3 := h1.cell3
      have f3 := h1.frozen3
      have h2 := h1.setCr true
      have d3 := h2.cell3
      go_wp2_with fail
      go_end0
      exact ⟨rfl, v1, h2, n1, k1.two n1 (crKeeps _ _ _ _)⟩
  · have hci : ((c.toNat : Int) == 13) = false := by
      rw [beq_eq_false_iff_ne]
      intro e
      exact hc (UInt8.toNat_inj.1 (by show c.toNat = 13; omega))
    have hcb : (c == 13) = false := by simpa using hc
    rw [hcb]
    simp only [if_neg hc]
    cases hcr : crOf cur
    · rw [hcr] at h c3
      rw [body_plain hcr] at h
      have f3 := h.frozen3
      have h1 := h.setCr false
      have d3 := h1.cell3
      have s1 : w.heap.size ≤ (w.setCell ⟨b, 3, none⟩ (.bool false)).heap.size := by simp [World.setCell]
      clear hcr
      go_enter Try.func28, Try.ntmps28
      go_wp2_with fail
      refine (keep_int B most b v _ false c _ rfl _ h1 hm (by omega) (Nat.le_trans hB s1)).mono ?_
      rintro e w1 ⟨rfl, v1, h2, n1, k1⟩
      go_wp2_with fail
      go_end0
      exact ⟨rfl, v1, h2, (Newer.refl w v).trans n1 s1, (crKeeps w b v _).two (Newer.refl _ _) k1⟩
    · rw [hcr] at h c3
      have HB : Hid (bodyOf cur ++ [13] = cur) := body_cr hcr
      clear hcr
      go_enter Try.func28, Try.ntmps28
      go_wp2_with fail
      refine (keep_int B most b v _ true 13 13 rfl _ h hm (by omega) hB).mono ?_
      rintro e w1 ⟨rfl, v1, h1, n1, k1⟩
      rw [HB.out] at h1
      have e3 := h1.cell3
      have f3 := h1.frozen3
      have h2 := h1.setCr false
      have d3 := h2.cell3
      have s1 : w1.heap.size ≤ (w1.setCell ⟨b, 3, none⟩ (.bool false)).heap.size := by simp [World.setCell]
      have s0 := k1.size
      go_wp2_with fail
      refine (keep_int B most b v1 _ false c _ rfl _ h2 hm (by omega) (Nat.le_trans hB (Nat.le_trans s0 s1))).mono ?_
      rintro e w2 ⟨rfl, v2, h3, n2, k2⟩
      go_wp2_with fail
      go_end0
      exact ⟨rfl, v2, h3, n1.trans ((Newer.refl w1 v1).trans n2 s1) s0, k1.two n1 ((crKeeps w1 b v1 _).two (Newer.refl _ _) k2)⟩

end Go.Proofs.Ytegbkpjcjlihmaa
