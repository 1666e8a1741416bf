/-
  The mails that wait: a map from numbers to who is left. | The spool's writes: 'one' and 'two', and what they make.
-/
import Derived.Test.YtegbkpjcjlihmabGreatDoorGl
import Derived.Test.YtegbkpjcjlihmabGreatDoorGg
import Derived.Test.YtegbkpjcjlihmabGreatDoorGk
namespace Go.Proofs.YtegbkpjcjlihmabGreatDoor
open Go.RowKit Go.Maps Go.ChangeMaps Go.WideMaps

/-- numbers, each with a map's block -/
abbrev Waits := Int → Option Nat

/-- how a map reads -/
def mapR : Value → Option (DataW Nat × List MemPlace)
  | .map none => some (.nil, [])
  | .map (some b) => some (.held b, [])
  | _ => none

theorem mapR_inv {v : Value} {x : Nat} {ps : List MemPlace} (h : mapR v = some (.held x, ps)) : v = .map (some x) := by
  unfold mapR at h
  split at h
  · simp at h
  · simp at h
    rw [h.1]
  · cases h

theorem mapR_nil {v : Value} {ps : List MemPlace} (h : mapR v = some (.nil, ps)) : v = .map none := by
  unfold mapR at h
  split at h
  · rfl
  · simp at h
  · cases h

theorem zero134 (w : World) : (zeroValue 134).run Tryz.prog w = .ok (.map none) w := by kernel_rfl

def okI (n : Int) : Prop := -9223372036854775808 ≤ n ∧ n ≤ 9223372036854775807

theorem law3 : Keyed Tryz.prog 3 := int_keyed Tryz.underlying3

theorem keyI_at (n : Int) (h : okI n) : keyOf Tryz.prog 3 (.int .i64 n) = some (.int .i64 n) := by
  have h1 : IntKind.i64.min = -9223372036854775808 := by decide
  have h2 : IntKind.i64.max = 9223372036854775807 := by decide
  exact keyOf_int_mk Tryz.underlying3 (by simp only [Lit.wf, h1, h2, Bool.and_eq_true, decide_eq_true_eq]; exact h)

/-- block m is a map of at most n entries that gives M -/
def WaitsAt (w : World) (m n : Nat) (M : Waits) : Prop :=
  ∃ D : DataW Nat, w.ownsMap Tryz.prog 3 mapR m n D ∧ ∀ i, okI i → has D (.int .i64 i) = (M i).isSome ∧ ∀ x, M i = some x → D.atKey (.int .i64 i) .nil = .held x

theorem WaitsAt.lt {w : World} {m n : Nat} {M : Waits} (h : WaitsAt w m n M) : m < w.heap.size := let ⟨_, h, _⟩ := h; h.lt

theorem WaitsAt.of_heap {w w' : World} {m n : Nat} {M : Waits} (h : WaitsAt w m n M) (e : w'.heap[m]? = w.heap[m]?) : WaitsAt w' m n M := by
  obtain ⟨D, ⟨es, cl, hb, r⟩, k⟩ := h
  exact ⟨D, ⟨es, cl, e.trans hb, r⟩, k⟩

theorem Keeps.waitsAt {S : Nat → Prop} {w w' : World} (h : Keeps S w w') {m n : Nat} {M : Waits} (hm : WaitsAt w m n M) (hn : ¬ S m) : WaitsAt w' m n M :=
  hm.of_heap (h.block m hm.lt hn)

theorem waitsAt_made (w : World) (n : Nat) : WaitsAt (w.alloc (.map #[] 0)) w.heap.size n (fun _ => none) :=
  ⟨_, (World.ownsMap_made w _ _ _).mono (Nat.zero_le _), fun _ _ => ⟨rfl, fun _ h => by cases h⟩⟩

/-- 'v, ok := m[k]' -/
theorem WaitsAt.look {w : World} {m n : Nat} {M : Waits} (h : WaitsAt w m n M) (i : Int) (hi : okI i) :
    (M i = none → (Instr.lookup 120 (.map (some m)) (.int .i64 i) true).run Tryz.prog w = .ok (.tuple #[.map none, .bool false]) w) ∧
    (∀ x, M i = some x → (Instr.lookup 120 (.map (some m)) (.int .i64 i) true).run Tryz.prog w = .ok (.tuple #[.map (some x), .bool true]) w) := by
  obtain ⟨D, ho, hk⟩ := h
  obtain ⟨v, ps, hr, hv⟩ := ho.look_ok (t := 120) (e := 134) law3 Tryz.underlying120 (zero134 w) (zd := .nil) (zp := []) rfl (key := .int .i64 i) (kl := .int .i64 i) (keyI_at i hi)
  obtain ⟨h1, h2⟩ := hk i hi
  constructor
  · intro hn
    rw [hn] at h1
    rw [hr, h1]
    rw [atKey_of_not_has h1] at hv
    rw [mapR_nil hv]
    rfl
  · intro x hx
    rw [hx] at h1
    rw [hr, h1]
    rw [h2 x hx] at hv
    rw [mapR_inv hv]
    rfl

/-- 'm[k]' -/
theorem WaitsAt.get {w : World} {m n : Nat} {M : Waits} (h : WaitsAt w m n M) (i : Int) (hi : okI i) :
    (M i = none → (Instr.lookup 120 (.map (some m)) (.int .i64 i) false).run Tryz.prog w = .ok (.map none) w) ∧
    (∀ x, M i = some x → (Instr.lookup 120 (.map (some m)) (.int .i64 i) false).run Tryz.prog w = .ok (.map (some x)) w) := by
  obtain ⟨D, ho, hk⟩ := h
  obtain ⟨v, ps, hr, hv⟩ := ho.lookup (t := 120) (e := 134) law3 Tryz.underlying120 (zero134 w) (zd := .nil) (zp := []) rfl (key := .int .i64 i) (kl := .int .i64 i) (keyI_at i hi)
  obtain ⟨h1, h2⟩ := hk i hi
  constructor
  · intro hn
    rw [hn] at h1
    rw [atKey_of_not_has h1] at hv
    rw [hr, mapR_nil hv]
  · intro x hx
    rw [h2 x hx] at hv
    rw [hr, mapR_inv hv]

def putW (M : Waits) (i : Int) (x : Nat) : Waits := fun j => if j = i then some x else M j
def delW (M : Waits) (i : Int) : Waits := fun j => if j = i then none else M j

theorem intKey_ne {i j : Int} (e : ¬ j = i) : Lit.int .i64 j ≠ Lit.int .i64 i := fun h => e (by simpa using h)

/-- 'm[k] = v' -/
theorem WaitsAt.put {w : World} {m n : Nat} {M : Waits} (h : WaitsAt w m n M) (hn : n < maxLen) (i : Int) (hi : okI i) (x : Nat) :
    ∃ w', (Instr.mapUpdate 120 (.map (some m)) (.int .i64 i) (.map (some x))).run Tryz.prog w = .ok () w' ∧ WaitsAt w' m (n + 1) (putW M i x) ∧ Keeps (fun k => k = m) w w' ∧ w'.heap.size = w.heap.size := by
  obtain ⟨D, ho, hk⟩ := h
  obtain ⟨w', hr, ho', ht⟩ := ho.store (t := 120) (e := 134) law3 Tryz.underlying120 hn (key := .int .i64 i) (val := .map (some x)) (kl := .int .i64 i) (keyI_at i hi) (d := .held x) (ps := []) rfl
  have hkl : WideAt.IsKeyLit (.int .i64 i) := law3.key (keyI_at i hi)
  refine ⟨w', hr, ⟨_, ho', fun j hj => ?_⟩, turned_keeps ht, turned_size ht⟩
  unfold putW
  by_cases e : j = i
  · subst e
    rw [if_pos rfl, has_put_same ho.isMap hkl]
    exact ⟨rfl, fun y hy => by rw [atKey_put_same ho.isMap hkl, Option.some.inj hy]⟩
  · rw [if_neg e, has_put_other (intKey_ne e), atKey_put_other (intKey_ne e)]
    exact hk j hj

/-- 'delete(m, k)' -/
theorem WaitsAt.del {w : World} {m n : Nat} {M : Waits} (h : WaitsAt w m n M) (i : Int) (hi : okI i) (ty : TypeId) :
    ∃ w', (Builtin.delete_ #[120, 3] ty #[.map (some m), .int .i64 i]).run Tryz.prog w = .ok (.tuple #[]) w' ∧ WaitsAt w' m n (delW M i) ∧ Keeps (fun k => k = m) w w' ∧ w'.heap.size = w.heap.size := by
  obtain ⟨D, ho, hk⟩ := h
  obtain ⟨w', hr, ho', ht⟩ := ho.drop (t := 120) (e := 134) law3 Tryz.underlying120 (key := .int .i64 i) (kl := .int .i64 i) (keyI_at i hi) ty
  refine ⟨w', hr, ⟨_, ho', fun j hj => ?_⟩, turned_keeps ht, turned_size ht⟩
  unfold delW
  by_cases e : j = i
  · subst e
    rw [if_pos rfl, has_del_same]
    exact ⟨rfl, fun y hy => by cases hy⟩
  · rw [if_neg e, has_del_other (intKey_ne e), atKey_del_other (intKey_ne e)]
    exact hk j hj

end Go.Proofs.YtegbkpjcjlihmabGreatDoor

namespace Go.Proofs.YtegbkpjcjlihmabGreatDoor
open Go.RowKit Go.Maps

/-- a method of the disk at d, as a value -/
def meth (f d : Nat) : Value := .func (.func f) #[ptr d] #[]

set_option maxHeartbeats 1000000 in
theorem one_any (f d : Nat) (n : ByteArray) (w : World) :
    Calls Tryz.prog 56 #[meth f d, .string n] w fun e w' => e = .returned (.func (.func 94) #[] #[ptr w.heap.size, ptr (w.heap.size + 1)]) ∧ w' = (w.alloc (.cells #[meth f d] 48)).alloc (.cells #[.string n] 9) := by
  unfold meth ptr at *
  go_enter Tryz.func56, Tryz.ntmps56
  go_wp2_with fail
  go_ret
  exact ⟨rfl, rfl⟩

set_option maxHeartbeats 1000000 in
theorem two_any (f d : Nat) (n k : ByteArray) (w : World) :
    Calls Tryz.prog 57 #[meth f d, .string n, .string k] w fun e w' => e = .returned (.func (.func 95) #[] #[ptr w.heap.size, ptr (w.heap.size + 1), ptr (w.heap.size + 2)]) ∧ w' = ((w.alloc (.cells #[meth f d] 49)).alloc (.cells #[.string n] 9)).alloc (.cells #[.string k] 9) := by
  unfold meth ptr at *
  go_enter Tryz.func57, Tryz.ntmps57
  go_wp2_with fail
  go_ret
  exact ⟨rfl, rfl⟩

/-- a write that does R to the disk -/
def DoesW (w : World) (d : Nat) (K : List Text) (B : Nat → Prop) (w0 : World) (v : Value) (R : Rel) (m : Nat) : Prop :=
  (∃ f p q, v = .func (.func f) #[] #[ptr p, ptr q] ∧ Runs w d K B w0 R m f #[ptr p, ptr q]) ∨ (∃ f p q r, v = .func (.func f) #[] #[ptr p, ptr q, ptr r] ∧ Runs w d K B w0 R m f #[ptr p, ptr q, ptr r]) ∨
    (∃ f, v = .func (.func f) #[ptr d] #[] ∧ Runs w d K B w0 R m f #[ptr d])

section
variable {w w0 : World} {d : Nat} {K : List Text} {B : Nat → Prop}

theorem DoesW.kept {v : Value} {R : Rel} {m : Nat} {w1 : World} {B' : Nat → Prop} (h : DoesW w d K B w0 v R m) (hB : ∀ k, B k → B' k ∧ w1.heap[k]? = w0.heap[k]?) : DoesW w d K B' w1 v R m := by
  have r : ∀ f xs, Runs w d K B w0 R m f xs → Runs w d K B' w1 R m f xs := fun f xs hr => ⟨hr.1, fun wr A C L σ hl hC hL hb => hr.2 wr A C L σ hl hC hL (fun k hk => (hb k (hB k hk).1).trans (hB k hk).2)⟩
  rcases h with ⟨f, p, q, e, hr⟩ | ⟨f, p, q, s, e, hr⟩ | ⟨f, e, hr⟩
  · exact .inl ⟨f, p, q, e, r _ _ hr⟩
  · exact .inr (.inl ⟨f, p, q, s, e, r _ _ hr⟩)
  · exact .inr (.inr ⟨f, e, r _ _ hr⟩)

set_option maxHeartbeats 1000000 in
theorem doesW_one {f p q m : Nat} {nm : ByteArray} {R : Rel} (eg : ∀ args w, (callFunc f args).run Tryz.prog w = .ok (.enter f args) w) (hp : w0.heap[p]? = some (.cells #[meth f d] 48 (0, 0))) (hb : B p) (hq : w0.heap[q]? = some (.cells #[.string nm] 9 (0, 0))) (hb' : B q)
    (hc : ∀ (wr : World) (A : Nat → Prop) (C L : Nat) (σ : Dk), Live w wr A d K C L σ → C ≤ 1099511627776 → L ≤ 1099511627776 → Calls Tryz.prog f #[ptr d, .string nm] wr fun e w' => ∃ k σ', e = .returned (.int .i64 k) ∧ R σ k σ' ∧ Live w w' (ext A wr w') d K (C + 1) (L + m) σ' ∧ Keeps A wr w') :
    DoesW w d K B w0 (.func (.func 94) #[] #[ptr p, ptr q]) R m := by
  refine .inl ⟨94, p, q, rfl, enters_of Tryz.func94 (by kernel_rfl) rfl, fun wr A C L σ h hC hL hB => ?_⟩
  have c := cell1 ((hB p hb).trans hp)
  have c' := cell1 ((hB q hb').trans hq)
  have hc' := hc wr A C L σ h hC hL
  clear hc h hB hp hq
  unfold meth ptr at *
  go_enter Tryz.func94, Tryz.ntmps94
  go_wp2_with fail
  refine hc'.mono ?_
  rintro e w' ⟨k, σ', rfl, h1, h2, h3⟩
  clear hc'
  go_wp2_with fail
  go_ret
  exact ⟨k, σ', rfl, h1, h2, h3⟩

set_option maxHeartbeats 1000000 in
theorem doesW_two {f p q r m : Nat} {nm km : ByteArray} {R : Rel} (eg : ∀ args w, (callFunc f args).run Tryz.prog w = .ok (.enter f args) w) (hp : w0.heap[p]? = some (.cells #[meth f d] 49 (0, 0))) (hb : B p) (hq : w0.heap[q]? = some (.cells #[.string nm] 9 (0, 0))) (hb' : B q) (hr : w0.heap[r]? = some (.cells #[.string km] 9 (0, 0))) (hb2 : B r)
    (hc : ∀ (wr : World) (A : Nat → Prop) (C L : Nat) (σ : Dk), Live w wr A d K C L σ → C ≤ 1099511627776 → L ≤ 1099511627776 → Calls Tryz.prog f #[ptr d, .string nm, .string km] wr fun e w' => ∃ k σ', e = .returned (.int .i64 k) ∧ R σ k σ' ∧ Live w w' (ext A wr w') d K (C + 1) (L + m) σ' ∧ Keeps A wr w') :
    DoesW w d K B w0 (.func (.func 95) #[] #[ptr p, ptr q, ptr r]) R m := by
  refine .inr (.inl ⟨95, p, q, r, rfl, enters_of Tryz.func95 (by kernel_rfl) rfl, fun wr A C L σ h hC hL hB => ?_⟩)
  have c := cell1 ((hB p hb).trans hp)
  have c' := cell1 ((hB q hb').trans hq)
  have c2 := cell1 ((hB r hb2).trans hr)
  have hc' := hc wr A C L σ h hC hL
  clear hc h hB hp hq hr
  unfold meth ptr at *
  go_enter Tryz.func95, Tryz.ntmps95
  go_wp2_with fail
  refine hc'.mono ?_
  rintro e w' ⟨k, σ', rfl, h1, h2, h3⟩
  clear hc'
  go_wp2_with fail
  go_ret
  exact ⟨k, σ', rfl, h1, h2, h3⟩

/-- one(d.Create, nm) -/
theorem doesW_create {p q : Nat} {nm : ByteArray} (hp : w0.heap[p]? = some (.cells #[meth 16 d] 48 (0, 0))) (hb : B p) (hq : w0.heap[q]? = some (.cells #[.string nm] 9 (0, 0))) (hb' : B q) (hs : nm.size ≤ maxLen) (hK : K.length ≤ 1099511627776) (hn : nm.data.toList ∈ K) :
    DoesW w d K B w0 (.func (.func 94) #[] #[ptr p, ptr q]) (fun σ k σ' => σ.creates nm.data.toList k σ') 0 :=
  doesW_one (enters_of Tryz.func16 (by kernel_rfl) rfl) hp hb hq hb' fun _ _ _ _ _ h hC _ => h.create hK hC nm hs hn

/-- one(d.Sync, nm) -/
theorem doesW_sync {p q : Nat} {nm : ByteArray} (hp : w0.heap[p]? = some (.cells #[meth 59 d] 48 (0, 0))) (hb : B p) (hq : w0.heap[q]? = some (.cells #[.string nm] 9 (0, 0))) (hb' : B q) (hs : nm.size ≤ maxLen) :
    DoesW w d K B w0 (.func (.func 94) #[] #[ptr p, ptr q]) (fun σ k σ' => σ.syncs nm.data.toList k σ') 0 :=
  doesW_one (enters_of Tryz.func59 (by kernel_rfl) rfl) hp hb hq hb' fun _ _ _ _ _ h _ _ => (h.sync nm hs).mono (by
    rintro e w' ⟨k, σ', rfl, h1, h2, h3⟩
    exact ⟨k, σ', rfl, h1, h2.mono (by omega) (by omega), h3⟩)

/-- one(d.Remove, nm) -/
theorem doesW_remove {p q : Nat} {nm : ByteArray} (hp : w0.heap[p]? = some (.cells #[meth 91 d] 48 (0, 0))) (hb : B p) (hq : w0.heap[q]? = some (.cells #[.string nm] 9 (0, 0))) (hb' : B q) (hs : nm.size ≤ maxLen) (hK : K.length ≤ 1099511627776) :
    DoesW w d K B w0 (.func (.func 94) #[] #[ptr p, ptr q]) (fun σ k σ' => σ.removes nm.data.toList k σ') 0 :=
  doesW_one (enters_of Tryz.func91 (by kernel_rfl) rfl) hp hb hq hb' fun _ _ _ _ _ h hC _ => h.remove hK hC nm hs

/-- two(d.Append, nm, data) -/
theorem doesW_append {p q r : Nat} {nm data : ByteArray} (hp : w0.heap[p]? = some (.cells #[meth 17 d] 49 (0, 0))) (hb : B p) (hq : w0.heap[q]? = some (.cells #[.string nm] 9 (0, 0))) (hb' : B q) (hr : w0.heap[r]? = some (.cells #[.string data] 9 (0, 0))) (hb2 : B r) (hs : nm.size ≤ maxLen) (hd : data.size ≤ 1099511627776) :
    DoesW w d K B w0 (.func (.func 95) #[] #[ptr p, ptr q, ptr r]) (fun σ k σ' => σ.appends nm.data.toList data.data.toList k σ') data.size :=
  doesW_two (enters_of Tryz.func17 (by kernel_rfl) rfl) hp hb hq hb' hr hb2 fun _ _ _ _ _ h _ hL => (h.append hL nm data hs hd).mono (by
    rintro e w' ⟨k, σ', rfl, h1, h2, h3⟩
    exact ⟨k, σ', rfl, h1, h2.mono (by omega) (by omega), h3⟩)

/-- two(d.Rename, nm, km) -/
theorem doesW_rename {p q r : Nat} {nm km : ByteArray} (hp : w0.heap[p]? = some (.cells #[meth 60 d] 49 (0, 0))) (hb : B p) (hq : w0.heap[q]? = some (.cells #[.string nm] 9 (0, 0))) (hb' : B q) (hr : w0.heap[r]? = some (.cells #[.string km] 9 (0, 0))) (hb2 : B r) (hs : nm.size ≤ maxLen) (hk : km.size ≤ maxLen) (hK : K.length ≤ 1099511627776) (hn : km.data.toList ∈ K) :
    DoesW w d K B w0 (.func (.func 95) #[] #[ptr p, ptr q, ptr r]) (fun σ k σ' => σ.renames nm.data.toList km.data.toList k σ') 0 :=
  doesW_two (enters_of Tryz.func60 (by kernel_rfl) rfl) hp hb hq hb' hr hb2 fun _ _ _ _ _ h hC _ => h.rename hK hC nm km hs hk hn

theorem doesW_syncDir (hK : K.length ≤ 1099511627776) : DoesW w d K B w0 (meth 36 d) (fun σ k σ' => σ.syncsDir k σ') 0 := by
  refine .inr (.inr ⟨36, rfl, enters_of Tryz.func36 (by kernel_rfl) rfl, fun wr A C L σ h hC hL hB => ?_⟩)
  refine (h.syncDir hK).mono ?_
  rintro e w' ⟨k, σ', rfl, h1, h2, h3⟩
  exact ⟨k, σ', rfl, h1, h2.mono (by omega) (by omega), h3⟩

end
end Go.Proofs.YtegbkpjcjlihmabGreatDoor
