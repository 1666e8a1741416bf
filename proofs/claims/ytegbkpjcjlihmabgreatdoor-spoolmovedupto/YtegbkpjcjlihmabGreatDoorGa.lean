/-
  The frame of this seat's contracts: 'Keeps S w w1': every block of w outside S stands in w1 as it stood. And where an append lays its row. | strings.Builder at this dump, as the first field of a file (type 110); its buffer may have been read by String. | Names on the disk: a map from texts to files, as a function; what is done to it; its keys, sorted. | The disk in memory: what it is, and how it stays what it is.
-/
import Derived.WalkKit
import Derived.WalkSpells
import Derived.WalkLawsBesides
import Derived.Lib.Builder
import Derived.Lib.AppendStr
import Derived.Test.YtegbkpjcjlihmabGreatDoorProg
import Derived.Lib.FrozenHead
import Derived.Lib.UnsafeStr
import Derived.Lib.Walk
import Derived.Lib.Strings
import Derived.RegionTactic
import Derived.Maps.OwnSet
import Derived.Sort.KeysCollected
namespace Go.Proofs.YtegbkpjcjlihmabGreatDoor
open Go.RowKit

structure Keeps (S : Nat → Prop) (w w' : World) : Prop where
  os : w'.os = w.os
  tape : w'.tape = w.tape
  output : w'.output = w.output
  size : w.heap.size ≤ w'.heap.size
  block : ∀ k, k < w.heap.size → ¬ S k → w'.heap[k]? = w.heap[k]?

theorem Keeps.refl (S : Nat → Prop) (w : World) : Keeps S w w := ⟨rfl, rfl, rfl, Nat.le_refl _, fun _ _ _ => rfl⟩

theorem Keeps.then {S S' : Nat → Prop} {a b c : World} (h : Keeps S a b) (k : Keeps S' b c) (hs : ∀ i, i < a.heap.size → S' i → S i) : Keeps S a c :=
  ⟨k.os.trans h.os, k.tape.trans h.tape, k.output.trans h.output, Nat.le_trans h.size k.size,
    fun i hi hn => (k.block i (Nat.lt_of_lt_of_le hi h.size) (fun e => hn (hs i hi e))).trans (h.block i hi hn)⟩

theorem Keeps.trans {S : Nat → Prop} {a b c : World} (h : Keeps S a b) (k : Keeps S b c) : Keeps S a c := h.then k (fun _ _ h => h)

theorem Keeps.mono {S S' : Nat → Prop} {a b : World} (h : Keeps S a b) (hs : ∀ i, i < a.heap.size → S i → S' i) : Keeps S' a b :=
  ⟨h.os, h.tape, h.output, h.size, fun i hi hn => h.block i hi (fun e => hn (hs i hi e))⟩

theorem Keeps.drew {S : Nat → Prop} {a w : World} (h : Keeps S a w) : Keeps S a w.drew := ⟨h.os, h.tape, h.output, h.size, h.block⟩

theorem Keeps.drewN {S : Nat → Prop} {a w : World} (h : Keeps S a w) (n : Nat) : Keeps S a (w.drewN n) := ⟨h.os, h.tape, h.output, h.size, h.block⟩

theorem Keeps.alloc {S : Nat → Prop} {a w : World} (h : Keeps S a w) (o : Obj) : Keeps S a (w.alloc o) :=
  h.then (S' := fun _ => False) ⟨rfl, rfl, rfl, by simp, fun k hk _ => Below.heap_alloc _ _ _ hk⟩ (fun _ _ h => h.elim)

theorem Keeps.setCell {S : Nat → Prop} {a w : World} (h : Keeps S a w) {p : Addr} (hp : p.block < a.heap.size → S p.block) (u : Value) : Keeps S a (w.setCell p u) :=
  h.then (S' := fun k => k = p.block) ⟨rfl, rfl, rfl, by simp [World.setCell], fun _ _ hk => Below.heap_setCell _ _ _ _ hk⟩ (fun _ hi e => by subst e; exact hp hi)

theorem Keeps.grown {S : Nat → Prop} {a w w' : World} {row : Option Nat} (h : Keeps S a w) (hg : w.grownBy w' row) (hr : ∀ k, row = some k → k < a.heap.size → S k) : Keeps S a w' :=
  h.then (S' := fun k => row = some k) ⟨hg.os, hg.tape, hg.output, hg.size, fun k hk hn => hg.block k hk (fun e => hn e.symm)⟩ (fun i hi e => hr i e hi)

theorem Keeps.below {w w' : World} {B : Nat} (h : Below B w w') : Keeps (fun k => B ≤ k) w w' := ⟨h.os, h.tape, h.output, h.size, fun k _ hn => h.block k (by omega)⟩

theorem Keeps.ofBelow {S : Nat → Prop} {w w' : World} (h : Below w.heap.size w w') : Keeps S w w' := ⟨h.os, h.tape, h.output, h.size, fun k hk _ => h.block k hk⟩

/-- nothing old has turned -/
abbrev Fresh (w w' : World) : Prop := Keeps (fun _ => False) w w'

theorem Keeps.toBelow {w w' : World} (h : Fresh w w') : Below w.heap.size w w' := ⟨h.os, h.tape, h.output, h.size, fun k hk => h.block k hk (fun e => e)⟩

theorem Keeps.ofFresh {S : Nat → Prop} {w w' : World} (h : Fresh w w') : Keeps S w w' := h.mono (fun _ _ e => e.elim)

theorem Keeps.heap {S : Nat → Prop} {w w' : World} (h : Keeps S w w') {k : Nat} {o : Obj} (hk : w.heap[k]? = some o) (hn : ¬ S k) : w'.heap[k]? = some o := by
  rw [h.block k (Array.getElem?_eq_some_iff.1 hk).1 hn]; exact hk

theorem heap_lt {w : World} {k : Nat} {o : Obj} (hk : w.heap[k]? = some o) : k < w.heap.size := (Array.getElem?_eq_some_iff.1 hk).1

theorem Keeps.owns {S : Nat → Prop} {w w' : World} (h : Keeps S w w') {base : Nat} {e : TypeId} {size : Nat} {v : Value} {n : Nat} {xs : List Value}
    (ho : w.ownsRow base e size v n xs) (hn : ∀ k, v.ownBlock = some k → ¬ S k) : w'.ownsRow base e size v n xs := by
  refine ⟨ho.1, ?_⟩
  rcases ho.2 with h0 | ⟨g, cap, cur, rfl, hb, hg, r⟩
  · exact .inl h0
  · exact .inr ⟨g, cap, cur, rfl, hb, h.heap hg (hn g rfl), r⟩

theorem owns_base {w : World} {base base' : Nat} {e : TypeId} {size : Nat} {v : Value} {n : Nat} {xs : List Value}
    (ho : w.ownsRow base e size v n xs) (h : ∀ k, v.ownBlock = some k → base' ≤ k) : w.ownsRow base' e size v n xs := by
  refine ⟨ho.1, ?_⟩
  rcases ho.2 with h0 | ⟨g, cap, cur, rfl, hb, hg, r⟩
  · exact .inl h0
  · exact .inr ⟨g, cap, cur, rfl, h g rfl, hg, r⟩

/-- the value's block is the old one, or a new one -/
def Placed (w : World) (v v' : Value) : Prop := v'.ownBlock = v.ownBlock ∨ v'.ownBlock = some w.heap.size

section
variable {P : Program} (w : World)

theorem append_place (base : Nat) (t ty e : TypeId) (i : TypeInfo) (z : Value) (size bytes : Nat) (ht : P.underlying t = some (.slice e)) (hi : P.info? e = some i) (hz : i.zero = some z)
    (hsize : i.size = size) (hby : i.bytes = bytes)
    (v : Value) (n : Nat) (xs : List Value) (hown : w.ownsRow base e size v n xs)
    (a : Addr) (m c : Nat) (news : List Value) (hl : news.length = m * size) (hnews : ∀ j u, news[j]? = some u → w.cell? (a.add j) = some u) (h1 : ∀ u ∈ news, u.oneCell' = true)
    (h63 : n + m ≤ maxLen) (hbytes : (n + m) * bytes ≤ 140737488355328) {v' : Value} {w' : World}
    (hr : (Builtin.append_ #[t, t] ty #[v, .slice (some a) m c]).run P w = .ok v' w') : Placed w v v' := by
  subst hsize
  subst hby
  have hsmall : n + m ≤ 9223372036854775807 := by simp only [maxLen] at h63; omega
  rcases hown.2 with ⟨rfl, rfl⟩ | ⟨g, cap, cur, rfl, hbg, hg, hnc, hcm, hcs, htake⟩
  · by_cases hm : m = 0
    · subst hm
      simp [Builtin.append_, run_underlying ht, sizeOf, typeInfo, hi, Builtin.lenOf, Builtin.firstCells, loadCells, loadCellsFrom] at hr
      rw [← hr.1]; exact .inl rfl
    · rw [run_append_nil (P := P) w t ty e i z ht hi hz a m c news hl hnews (by omega) (by omega) (by have hb := hbytes; simp only [Nat.zero_add] at hb; omega)] at hr
      injection hr with hv _
      rw [← hv]; exact .inr rfl
  · by_cases hroom : n + m ≤ cap
    · have hfit : n * i.size + news.length ≤ cur.size := by rw [hl, hcs, ← Nat.add_mul]; exact Nat.mul_le_mul_right _ hroom
      rw [run_append_room (P := P) w t ty e i ht hi g n cap cur hg a m c news hl hnews h1 hroom hfit] at hr
      injection hr with hv _
      rw [← hv]; exact .inl rfl
    · have holds : ∀ j u, xs[j]? = some u → w.cell? ((⟨g, 0, none⟩ : Addr).add j) = some u := hown.cells (g := g) rfl
      rw [run_append_grow (P := P) w t ty e i z ht hi hz ⟨g, 0, none⟩ n cap xs hown.1 holds a m c news hl hnews (by omega) (by omega) (growslice_fits (by omega) hbytes)] at hr
      injection hr with hv _
      rw [← hv]; exact .inr rfl

theorem wpList_append_placed {ops : Array Oper} {rest : List Oper} {o : Oper} {a : Act} {Q : Exit → Act → World → Prop} (hgd : o.guard = none) (s x : Operand) (t : TypeId)
    (ho : o.op = .call { callee := .builtin .append, args := #[s, x], argTypes := #[t, t] })
    (base : Nat) (e : TypeId) (i : TypeInfo) (z : Value) (size bytes : Nat) (ht : P.underlying t = some (.slice e)) (hi : P.info? e = some i) (hz : i.zero = some z)
    (hsize : i.size = size) (hby : i.bytes = bytes) (hzs : z.cells.size = size) (hsz : 0 < size)
    (v : Value) (n : Nat) (xs : List Value) (hs : a.eval s = v) (hown : w.ownsRow base e size v n xs)
    (ad : Addr) (m c : Nat) (news : List Value) (hx : a.eval x = .slice (some ad) m c) (hl : news.length = m * size) (hnews : ∀ j u, news[j]? = some u → w.cell? (ad.add j) = some u) (h1 : ∀ u ∈ news, u.oneCell' = true)
    (h63 : n + m ≤ maxLen) (hbytes : (n + m) * bytes ≤ 140737488355328) (hbase : base ≤ w.heap.size)
    (h : ∀ v' w', w'.ownsRow base e size v' (n + m) (xs ++ news) → w.grownBy w' v.ownBlock → Placed w v v' → wpList P ops Q rest (a.put o.dst v') w') : wpList P ops Q (o :: rest) a w :=
  wpList_plain hgd fun _ hK => by
    obtain ⟨v', w', hr, h2, h3, _⟩ := run_append_own (P := P) w base t o.type e i z size bytes ht hi hz hsize hby hzs hsz v n xs hown ad m c news hl hnews h1 h63 hbytes hbase
    have hp := append_place w base t o.type e i z size bytes ht hi hz hsize hby v n xs hown ad m c news hl hnews h1 h63 hbytes hr
    unfold Oper.wp execOp
    simp only [ho, resolve, invoke, builtin, Sem.run_bind, Sem.run_pure, Result.andThen_ok, List.map_toArray, List.map_cons, List.map_nil, hs, hx, hr]
    exact hK _ _ (h v' w' h2 h3 hp)

theorem append_place_string (base : Nat) (t u ty e : TypeId) (i : TypeInfo) (ht : P.underlying t = some (.slice e)) (hu : P.underlying u = some .string) (hi : P.info? e = some i) (hz : i.zero = some (.int .u8 0))
    (hsize : i.size = 1) (hby : i.bytes = 1)
    (v : Value) (n : Nat) (xs : List Value) (hown : w.ownsRow base e 1 v n xs) (s : ByteArray)
    (h63 : n + s.size ≤ maxLen) (hbytes : n + s.size ≤ 140737488355328) {v' : Value} {w' : World}
    (hr : (Builtin.append_ #[t, u] ty #[v, .string s]).run P w = .ok v' w') : Placed w v v' := by
  have hsmall : n + s.size ≤ 9223372036854775807 := by simp only [maxLen] at h63; omega
  rcases hown.2 with ⟨rfl, rfl⟩ | ⟨g, cap, cur, rfl, hbg, hg, hnc, hcm, hcs, htake⟩
  · by_cases hm : s.size = 0
    · simp [Builtin.append_, run_underlying ht, run_underlying hu, sizeOf, typeInfo, hi, Builtin.lenOf, Builtin.firstCells, hm] at hr
      rw [← hr.1]; exact .inl rfl
    · rw [run_append_nil_string (P := P) w t u ty e i _ ht hu hi hz s (by omega) (by omega) (by rw [hby]; omega)] at hr
      injection hr with hv _
      rw [← hv]; exact .inr rfl
  · by_cases hroom : n + s.size ≤ cap
    · have hfit : n + s.size ≤ cur.size := by omega
      rw [Lib.run_append_room_string (P := P) w t u ty e i ht hu hi hsize g n cap cur hg s hroom hfit] at hr
      injection hr with hv _
      rw [← hv]; exact .inl rfl
    · have holds : ∀ j u, xs[j]? = some u → w.cell? ((⟨g, 0, none⟩ : Addr).add j) = some u := hown.cells (g := g) rfl
      rw [Lib.run_append_grow_string (P := P) w t u ty e i _ ht hu hi hz ⟨g, 0, none⟩ n cap xs (by rw [hsize]; exact hown.1) holds s (by omega) (by omega) (growslice_fits (by omega) (by rw [hby]; omega))] at hr
      injection hr with hv _
      rw [← hv]; exact .inr rfl

def NilIff (v v' : Value) (s : ByteArray) : Prop := v' = .slice none 0 0 ↔ v = .slice none 0 0 ∧ s.size = 0

theorem wpList_append_placed_string {ops : Array Oper} {rest : List Oper} {o : Oper} {a : Act} {Q : Exit → Act → World → Prop} (hgd : o.guard = none) (sl x : Operand) (t u : TypeId)
    (ho : o.op = .call { callee := .builtin .append, args := #[sl, x], argTypes := #[t, u] })
    (base : Nat) (e : TypeId) (i : TypeInfo) (ht : P.underlying t = some (.slice e)) (hu : P.underlying u = some .string) (hi : P.info? e = some i) (hz : i.zero = some (.int .u8 0))
    (hsize : i.size = 1) (hby : i.bytes = 1)
    (v : Value) (n : Nat) (xs : List Value) (hs : a.eval sl = v) (hown : w.ownsRow base e 1 v n xs) (s : ByteArray) (hx : a.eval x = .string s)
    (h63 : n + s.size ≤ maxLen) (hbytes : n + s.size ≤ 140737488355328) (hbase : base ≤ w.heap.size)
    (h : ∀ v' w', w'.ownsRow base e 1 v' (n + s.size) (xs ++ Lib.strCells s) → w.grownBy w' v.ownBlock → Placed w v v' → NilIff v v' s → wpList P ops Q rest (a.put o.dst v') w') : wpList P ops Q (o :: rest) a w :=
  wpList_plain hgd fun _ hK => by
    obtain ⟨v', w', hr, h2, h3, h4⟩ := Lib.run_append_own_string (P := P) w base t u o.type e i ht hu hi hz hsize hby v n xs hown s h63 hbytes hbase
    have hp := append_place_string w base t u o.type e i ht hu hi hz hsize hby v n xs hown s h63 hbytes hr
    unfold Oper.wp execOp
    simp only [ho, resolve, invoke, builtin, Sem.run_bind, Sem.run_pure, Result.andThen_ok, List.map_toArray, List.map_cons, List.map_nil, hs, hx, hr]
    exact hK _ _ (h v' w' h2 h3 hp h4)

end
end Go.Proofs.YtegbkpjcjlihmabGreatDoor

namespace Go.Proofs.YtegbkpjcjlihmabGreatDoor
open Go.RowKit

theorem lies56 : liesAt Tryz.prog Tryz.prog.depth 110 (3 / Tryz.prog.cellsOf 110) 0 108 1 = true := by kernel_rfl

theorem sizeB : (Tryz.prog.info? 108).map (fun i => i.size) = some 2 := by kernel_rfl

set_option maxRecDepth 20000 in
set_option maxHeartbeats 400000 in
theorem copyCheck_used (b : Nat) (w : World) (h0 : w.cell? ⟨b, 0, none⟩ = some (.pointer (some ⟨b, 0, none⟩))) :
    Calls Tryz.prog 90 #[.pointer (some ⟨b, 0, none⟩)] w fun e w' => e = .returned (.tuple #[]) ∧ w' = w := by
  obtain ⟨j, hj, _⟩ := Option.map_eq_some_iff.1 sizeB
  go_enter Tryz.func90, Tryz.ntmps90
  go_wp2
  rw [Lib.run_neq_ptr_same w _ Tryz.underlying105 hj]
  go_wp2
  go_end0
  exact ⟨rfl, rfl⟩

set_option maxRecDepth 20000 in
set_option maxHeartbeats 400000 in
theorem copyCheck_fresh (b T n : Nat) (w : World) (h0 : w.cell? ⟨b, 0, none⟩ = some (.pointer none)) (hsh : w.shape? b = some (T, n)) (h2 : 0 < n) (hl : liesAt Tryz.prog Tryz.prog.depth T (n / Tryz.prog.cellsOf T) 0 108 1 = true) (hfz : w.frozen? ⟨b, 0, none⟩ = false) :
    Calls Tryz.prog 90 #[.pointer (some ⟨b, 0, none⟩)] w fun e w' => e = .returned (.tuple #[]) ∧ w' = w.setCell ⟨b, 0, none⟩ (.pointer (some ⟨b, 0, none⟩)) := by
  obtain ⟨j, hj, hjs⟩ := Option.map_eq_some_iff.1 sizeB
  go_enter Tryz.func90, Tryz.ntmps90
  go_wp2
  rw [Lib.run_to_unsafe w ⟨b, 0, none⟩ Tryz.underlying105 Tryz.underlying195 hj (by rw [hjs]; decide) hsh h2]
  simp only [Result.andThen]
  rw [Oper.upon_value]
  go_wp2
  rw [run_callFunc_extern Tryz.func123 (by kernel_rfl) (by kernel_rfl) (by kernel_rfl) (e := Extern.AbiNoEscape.same) (by kernel_rfl)]
  rw [Lib.run_noEscape]
  simp only [Result.andThen]
  rw [Oper.upon_value]
  go_wp2
  rw [Lib.run_from_unsafe w ⟨b, 0, none⟩ Tryz.underlying195 Tryz.underlying105 hj hsh hl]
  simp only [Result.andThen]
  rw [Oper.upon_value]
  go_wp2
  go_end0
  exact ⟨rfl, rfl⟩

theorem heap_setCell_at {w : World} {b : Nat} {cs : Array Value} {T : TypeId} {fr : Nat × Nat} (hb : w.heap[b]? = some (.cells cs T fr)) (i : Nat) (v : Value) :
    (w.setCell ⟨b, i, none⟩ v).heap[b]? = some (.cells (cs.setIfInBounds i v) T fr) := by
  simp [World.setCell, Array.getElem?_modify, hb]

/-- 'addr' -/
def self (b : Nat) : Value := .pointer (some ⟨b, 0, none⟩)

set_option maxRecDepth 20000 in
theorem copyCheck_any (b : Nat) (p v n : Value) (w : World) (hb : w.heap[b]? = some (.cells #[p, v, n] 110 (0, 0))) (hp : p = .pointer none ∨ p = self b) :
    Calls Tryz.prog 90 #[.pointer (some ⟨b, 0, none⟩)] w fun e w' => e = .returned (.tuple #[]) ∧ (w'.heap[b]? = some (.cells #[self b, v, n] 110 (0, 0)) ∧ Keeps (fun k => k = b) w w' ∧ w'.heap.size = w.heap.size) := by
  rcases hp with rfl | rfl
  · refine (copyCheck_fresh b 110 3 w (by rw [Lib.cell_of_heap hb]; rfl) (by simp [World.shape?, hb]) (by omega) lies56 (Lib.frozen_of_heap hb 0)).mono ?_
    rintro e w' ⟨rfl, rfl⟩
    exact ⟨rfl, heap_setCell_at hb 0 _, (Keeps.refl (fun k => k = b) w).setCell (p := ⟨b, 0, none⟩) (fun _ => rfl) _, by simp [World.setCell]⟩
  · refine (copyCheck_used b w (by rw [Lib.cell_of_heap hb]; rfl)).mono ?_
    rintro e w' ⟨rfl, rfl⟩
    exact ⟨rfl, hb, Keeps.refl _ _, rfl⟩

theorem infoByte : (Tryz.prog.info? 5).map (fun i => (i.zero, i.size, i.bytes)) = some (some (.int .u8 0), 1, 1) := by kernel_rfl
theorem infoByte' : ∃ i, Tryz.prog.info? 5 = some i ∧ i.zero = some (.int .u8 0) ∧ i.size = 1 ∧ i.bytes = 1 := by
  obtain ⟨i, hi, h⟩ := Option.map_eq_some_iff.1 infoByte
  simp only [Prod.mk.injEq] at h
  exact ⟨i, hi, h.1, h.2.1, h.2.2⟩

/-- a buffer that holds l -/
def Buf (w : World) (v : Value) (l : List UInt8) : Prop := w.ownsRowF 0 5 1 v l.length (Lib.byteCells l) ∧ (l = [] → v = .slice none 0 0)

theorem Buf.nil (w : World) : Buf w (.slice none 0 0) [] := ⟨World.ownsRowF_nil _ _ _ _, fun _ => rfl⟩

theorem Keeps.ownsF {S : Nat → Prop} {w w' : World} (h : Keeps S w w') {base : Nat} {e : TypeId} {size : Nat} {v : Value} {n : Nat} {xs : List Value}
    (ho : w.ownsRowF base e size v n xs) (hn : ∀ k, v.ownBlock = some k → ¬ S k) : w'.ownsRowF base e size v n xs := by
  refine ⟨ho.1, ?_⟩
  rcases ho.2 with h0 | ⟨g, cap, cur, fz, rfl, hb, hg, r⟩
  · exact .inl h0
  · exact .inr ⟨g, cap, cur, fz, rfl, hb, h.heap hg (hn g rfl), r⟩

theorem Keeps.buf {S : Nat → Prop} {w w' : World} (h : Keeps S w w') {v : Value} {l : List UInt8} (hb : Buf w v l) (hn : ∀ k, v.ownBlock = some k → ¬ S k) : Buf w' v l := ⟨h.ownsF hb.1 hn, hb.2⟩

/-- where a buffer lies: a row of bytes -/
theorem Buf.row {w : World} {v : Value} {l : List UInt8} (h : Buf w v l) {k : Nat} (hk : v.ownBlock = some k) : ∃ cur fz, w.heap[k]? = some (.cells cur 5 fz) := by
  rcases h.1.2 with ⟨rfl, _⟩ | ⟨g, cap, cur, fz, rfl, _, hg, _⟩
  · simp [Value.ownBlock] at hk
  · simp [Value.ownBlock] at hk
    subst hk
    exact ⟨cur, fz, hg⟩

theorem Buf.ne {w : World} {v : Value} {l : List UInt8} (h : Buf w v l) {b : Nat} {cs : Array Value} {T : TypeId} {fr : Nat × Nat} (hb : w.heap[b]? = some (.cells cs T fr)) (hT : T ≠ 5) : v.ownBlock ≠ some b := by
  intro e
  obtain ⟨cur, fz, hk⟩ := h.row e
  rw [hk] at hb
  simp only [Option.some.injEq, Obj.cells.injEq] at hb
  exact hT hb.2.1.symm

/-- where a new buffer lies, seen from an elder world -/
theorem Placed.lift {w0 w : World} {v v' : Value} (h : Placed w v v') (hs : w0.heap.size ≤ w.heap.size) : ∀ k, v'.ownBlock = some k → v.ownBlock = some k ∨ w0.heap.size ≤ k := by
  intro k hk
  rcases h with h | h
  · exact .inl (by rw [← h]; exact hk)
  · rw [h] at hk
    simp only [Option.some.injEq] at hk
    exact .inr (by omega)

/-- the value's block is the old one, or one that is new since w -/
def Newer (w : World) (v v' : Value) : Prop := ∀ k, v'.ownBlock = some k → v.ownBlock = some k ∨ w.heap.size ≤ k

section
variable {P : Program} (w : World)

theorem append_place_stringF (base : Nat) (t u ty e : TypeId) (i : TypeInfo) (ht : P.underlying t = some (.slice e)) (hu : P.underlying u = some .string) (hi : P.info? e = some i) (hz : i.zero = some (.int .u8 0))
    (hsize : i.size = 1) (hby : i.bytes = 1)
    (v : Value) (n : Nat) (xs : List Value) (hown : w.ownsRowF base e 1 v n xs) (s : ByteArray)
    (h63 : n + s.size ≤ maxLen) (hbytes : n + s.size ≤ 140737488355328) {v' : Value} {w' : World}
    (hr : (Builtin.append_ #[t, u] ty #[v, .string s]).run P w = .ok v' w') : Placed w v v' := by
  have hsmall : n + s.size ≤ 9223372036854775807 := by simp only [maxLen] at h63; omega
  rcases hown.2 with ⟨rfl, rfl⟩ | ⟨g, cap, cur, fz, rfl, hbg, hg, hfz, hnc, hcm, hcs, htake⟩
  · by_cases hm : s.size = 0
    · simp [Builtin.append_, run_underlying ht, run_underlying hu, sizeOf, typeInfo, hi, Builtin.lenOf, Builtin.firstCells, hm] at hr
      rw [← hr.1]; exact .inl rfl
    · rw [run_append_nil_string (P := P) w t u ty e i _ ht hu hi hz s (by omega) (by omega) (by rw [hby]; omega)] at hr
      injection hr with hv _
      rw [← hv]; exact .inr rfl
  · by_cases hroom : n + s.size ≤ cap
    · have hfit : n + s.size ≤ cur.size := by omega
      rw [Lib.run_append_room_stringF (P := P) w t u ty e i ht hu hi hsize g n cap cur fz hg (by simpa using hfz) s hroom hfit] at hr
      injection hr with hv _
      rw [← hv]; exact .inl rfl
    · have holds : ∀ j u, xs[j]? = some u → w.cell? ((⟨g, 0, none⟩ : Addr).add j) = some u := hown.cells (g := g) rfl
      rw [Lib.run_append_grow_string (P := P) w t u ty e i _ ht hu hi hz ⟨g, 0, none⟩ n cap xs (by rw [hsize]; exact hown.1) holds s (by omega) (by omega) (growslice_fits (by omega) (by rw [hby]; omega))] at hr
      injection hr with hv _
      rw [← hv]; exact .inr rfl

theorem wpList_append_placed_stringF {ops : Array Oper} {rest : List Oper} {o : Oper} {a : Act} {Q : Exit → Act → World → Prop} (hgd : o.guard = none) (sl x : Operand) (t u : TypeId)
    (ho : o.op = .call { callee := .builtin .append, args := #[sl, x], argTypes := #[t, u] })
    (base : Nat) (e : TypeId) (i : TypeInfo) (ht : P.underlying t = some (.slice e)) (hu : P.underlying u = some .string) (hi : P.info? e = some i) (hz : i.zero = some (.int .u8 0))
    (hsize : i.size = 1) (hby : i.bytes = 1)
    (v : Value) (n : Nat) (xs : List Value) (hs : a.eval sl = v) (hown : w.ownsRowF base e 1 v n xs) (s : ByteArray) (hx : a.eval x = .string s)
    (h63 : n + s.size ≤ maxLen) (hbytes : n + s.size ≤ 140737488355328) (hbase : base ≤ w.heap.size)
    (h : ∀ v' w', w'.ownsRowF base e 1 v' (n + s.size) (xs ++ Lib.strCells s) → w.grownBy w' v.ownBlock → Placed w v v' → NilIff v v' s → wpList P ops Q rest (a.put o.dst v') w') : wpList P ops Q (o :: rest) a w :=
  wpList_plain hgd fun _ hK => by
    obtain ⟨v', w', hr, h2, h3, h4⟩ := Lib.run_append_own_stringF (P := P) w base t u o.type e i ht hu hi hz hsize hby v n xs hown s h63 hbytes hbase
    have hp := append_place_stringF w base t u o.type e i ht hu hi hz hsize hby v n xs hown s h63 hbytes hr
    unfold Oper.wp execOp
    simp only [ho, resolve, invoke, builtin, Sem.run_bind, Sem.run_pure, Result.andThen_ok, List.map_toArray, List.map_cons, List.map_nil, hs, hx, hr]
    exact hK _ _ (h v' w' h2 h3 hp h4)
end

set_option maxHeartbeats 1000000 in
theorem writeString_any (b : Nat) (p v n : Value) (l : List UInt8) (s : ByteArray) (w : World) (hb : w.heap[b]? = some (.cells #[p, v, n] 110 (0, 0))) (hp : p = .pointer none ∨ p = self b)
    (hown : Buf w v l) (hlen : l.length + s.size ≤ 140737488355328) :
    Calls Tryz.prog 51 #[.pointer (some ⟨b, 0, none⟩), .string s] w fun e w' => e = .returned (.tuple #[.int .i64 s.size, .nilIface]) ∧ ∃ v', w'.heap[b]? = some (.cells #[self b, v', n] 110 (0, 0)) ∧ Buf w' v' (l ++ s.data.toList) ∧
      Newer w v v' ∧ Keeps (fun k => k = b ∨ v.ownBlock = some k) w w' := by
  obtain ⟨i0, hi, hz0, hz1, hz2⟩ := infoByte'
  have hlt := heap_lt hb
  have hne : v.ownBlock ≠ some b := hown.ne hb (by decide)
  go_enter Tryz.func51, Tryz.ntmps51
  go_wp2_with (go_at_call 90; refine (copyCheck_any b p v n _ hb hp).mono ?_)
  rintro e w1 ⟨rfl, hb1, k1, _⟩
  have hsz1 := k1.size
  have c1 : w1.cell? ⟨b, 1, none⟩ = some v := by rw [Lib.cell_of_heap hb1]; rfl
  have ho1 : w1.ownsRowF 0 5 1 v l.length (Lib.byteCells l) := k1.ownsF hown.1 (fun k hk e => hne (by rw [hk, e]))
  go_wp2_with (at_builtin; refine wpList_append_placed_stringF _ rfl _ _ 106 9 rfl 0 5 i0 Tryz.underlying106 Tryz.underlying9 hi hz0 hz1 hz2 _ _ _ rfl ho1 s rfl ?c3 ?c4 ?c5 ?_)
  case c3 => unfold maxLen; omega
  case c4 => omega
  case c5 => omega
  intro v' w2 hown' hgrow hpl hiff
  have hb2 : w2.heap[b]? = some (.cells #[self b, v, n] 110 (0, 0)) := by
    rw [hgrow.block b (by omega) (fun e => hne e.symm)]
    exact hb1
  have d1 : w2.cell? ⟨b, 1, none⟩ = some v := by rw [Lib.cell_of_heap hb2]; rfl
  have f1 : w2.frozen? ⟨b, 1, none⟩ = false := Lib.frozen_of_heap hb2 1
  have Hi : Hid (l ++ s.data.toList = [] → v' = .slice none 0 0) := fun e => by
    rw [List.append_eq_nil_iff] at e
    refine hiff.2 ⟨hown.2 e.1, ?_⟩
    have := congrArg List.length e.2
    rw [Array.length_toList] at this
    exact this
  clear hiff
  obtain ⟨ao, n', cap, rfl⟩ : ∃ ao n' cap, v' = .slice ao n' cap := by
    rcases hown'.2 with ⟨hv, _⟩ | ⟨g, cap, cur, fz, hv, _⟩
    · exact ⟨_, _, _, hv⟩
    · exact ⟨_, _, _, hv⟩
  go_wp2
  go_ret2
  have hnew : Newer w v (.slice ao n' cap) := hpl.lift (w0 := w) (by omega)
  have hgb : (Value.slice ao n' cap).ownBlock ≠ some b := by
    rcases hpl with h | h
    · rw [h]; exact hne
    · rw [h]; simp; omega
  refine ⟨rfl, .slice ao n' cap, heap_setCell_at hb2 1 _, ⟨?_, Hi.out⟩, hnew, ?_⟩
  · have hk : Keeps (fun k => k = b) w2 (w2.setCell ⟨b, 1, none⟩ (.slice ao n' cap)) := (Keeps.refl (fun k => k = b) w2).setCell (p := ⟨b, 1, none⟩) (fun _ => rfl) _
    refine hk.ownsF (by simpa [Lib.byteCells_append, Lib.strCells_eq] using hown') (fun k hk' e => hgb (by rw [hk', e]))
  · have a1 : Keeps (fun k => k = b ∨ v.ownBlock = some k) w w1 := k1.mono (fun _ _ e => .inl e)
    exact (a1.grown hgrow (fun k hk _ => .inr hk)).setCell (p := ⟨b, 1, none⟩) (fun _ => .inl rfl) _

theorem Keeps.freeze {S : Nat → Prop} {a w : World} (h : Keeps S a w) {p : Addr} (hp : p.block < a.heap.size → S p.block) (n : Nat) : Keeps S a (w.freeze p n) := by
  refine h.then (S' := fun k => k = p.block) ?_ (fun _ hi e => by subst e; exact hp hi)
  have hb := Lib.below_freeze (Below.refl p.block w) (p := p) (Nat.le_refl _) n
  refine ⟨hb.os, hb.tape, hb.output, hb.size, fun k hk hn => ?_⟩
  simp only [World.freeze]
  split
  · rfl
  · simp only [Array.getElem?_modify]
    rw [if_neg (fun e => hn e.symm)]

theorem size_freeze (w : World) (p : Addr) (n : Nat) : (w.freeze p n).heap.size = w.heap.size := by
  simp only [World.freeze]
  split <;> simp

theorem Buf.froze {w : World} {g cap : Nat} {l : List UInt8} (h : Buf w (.slice (some ⟨g, 0, none⟩) l.length cap) l) : Buf (w.freeze ⟨g, 0, none⟩ l.length) (.slice (some ⟨g, 0, none⟩) l.length cap) l := by
  refine ⟨⟨h.1.1, ?_⟩, h.2⟩
  rcases h.1.2 with ⟨hv, _⟩ | ⟨g', cap', cur, fz, hv, hbg, hg, hfz, rest⟩
  · cases hv
  · injection hv with ha _ hcap
    injection ha with ha
    injection ha with hgg _ _
    subst hgg
    subst hcap
    unfold World.freeze
    split
    · exact .inr ⟨g, _, cur, fz, rfl, hbg, hg, hfz, rest⟩
    · obtain ⟨lo, hi⟩ := fz
      refine .inr ⟨g, _, cur, (if lo == hi then (0, 0 + l.length) else (min lo 0, max hi (0 + l.length))), rfl, hbg, ?_, ?_, rest⟩
      · simp [Array.getElem?_modify, hg]
      · simp only at hfz
        split <;> simp <;> omega

set_option maxHeartbeats 1000000 in
theorem string_some (b : Nat) (T : TypeId) (cs : Array Value) (v : Value) (l : List UInt8) (w : World) (hb : w.heap[b]? = some (.cells cs T (0, 0))) (hv : cs[1]? = some v) (hown : Buf w v l) (h0 : l ≠ []) :
    Calls Tryz.prog 46 #[.pointer (some ⟨b, 0, none⟩)] w fun e w' => e = .returned (.string ⟨l.toArray⟩) ∧ Keeps (fun k => v.ownBlock = some k) w w' ∧ Buf w' v l ∧ w'.heap.size = w.heap.size := by
  have hl0 : l.length ≠ 0 := by simpa using h0
  have hown0 := hown
  obtain ⟨g, cap, cur, fz, rfl, hbg, hg, hfz, hnc, hcm, hcs, htake⟩ : ∃ g cap cur fz, v = .slice (some ⟨g, 0, none⟩) l.length cap ∧ 0 ≤ g ∧ w.heap[g]? = some (.cells cur 5 fz) ∧ fz.2 ≤ l.length * 1 ∧ l.length ≤ cap ∧ cap ≤ maxLen ∧ cur.size = cap * 1 ∧ cur.toList.take (l.length * 1) = Lib.byteCells l := by
    rcases hown.1.2 with ⟨_, hz⟩ | ⟨g, cap, cur, fz, hv, r⟩
    · exact absurd hz hl0
    · exact ⟨g, cap, cur, fz, hv, r⟩
  have c1 : w.drew.cell? ⟨b, 1, none⟩ = some (.slice (some ⟨g, 0, none⟩) l.length cap) := by
    have : w.drew.heap[b]? = some (.cells cs T (0, 0)) := hb
    rw [Lib.cell_of_heap this]; exact hv
  have hSD : (Builtin.unsafeSliceData_ #[106] 167 #[.slice (some ⟨g, 0, none⟩) l.length cap]).run Tryz.prog w.drew = .ok (.pointer (some ⟨g, 0, none⟩)) w.drew :=
    Lib.run_unsafeSliceData_row _ _ _ _ _ _ (by omega)
  have hUS : (Builtin.unsafeString_ #[167, 3] 9 #[.pointer (some ⟨g, 0, none⟩), .int .i64 l.length]).run Tryz.prog w.drew = .ok (.string ⟨l.toArray⟩) (w.drew.freeze ⟨g, 0, none⟩ l.length) := by
    refine Lib.run_unsafeString_row w.drew 167 3 9 5 Tryz.underlying167 (by kernel_rfl) g cur.size (by have hg' : w.drew.heap[g]? = some (.cells cur 5 fz) := hg; simp [World.shape?, hg']) l h0 (by omega) (by unfold maxLen at hcm; omega) ?_
    intro j x hx
    have := hown.1.cells (g := g) rfl j (.int .u8 x.toNat) (by simp [Lib.byteCells, hx])
    exact this
  have HB : Hid (Buf w.drew (.slice (some ⟨g, 0, none⟩) l.length cap) l) := hown0
  clear hown hown0 htake hcs hb hv hfz hg
  go_enter Tryz.func46, Tryz.ntmps46
  go_wp2
  go_region
  all_goals (go_wp2; go_ret; exact ⟨rfl, Keeps.freeze (S := fun k => (Value.slice (some ⟨g, 0, none⟩) l.length cap).ownBlock = some k) (Keeps.drew (Keeps.refl _ w)) (p := ⟨g, 0, none⟩) (fun _ => rfl) _, HB.out.froze, size_freeze _ _ _⟩)

set_option maxHeartbeats 1000000 in
theorem string_none (b : Nat) (T : TypeId) (cs : Array Value) (w : World) (hb : w.heap[b]? = some (.cells cs T (0, 0))) (hv : cs[1]? = some (.slice none 0 0)) (S : Nat → Prop) :
    Calls Tryz.prog 46 #[.pointer (some ⟨b, 0, none⟩)] w fun e w' => e = .returned (.string ⟨#[]⟩) ∧ Keeps S w w' ∧ w'.heap.size = w.heap.size := by
  have hUS : ∀ (W : World) (q : Option Addr), (Builtin.unsafeString_ #[167, 3] 9 #[.pointer q, .int .i64 0]).run Tryz.prog W = .ok (.string .empty) W := fun W q => Lib.run_unsafeString_none W _ _ _ q
  have c1 : w.drew.cell? ⟨b, 1, none⟩ = some (.slice none 0 0) := by
    have : w.drew.heap[b]? = some (.cells cs T (0, 0)) := hb
    rw [Lib.cell_of_heap this]; exact hv
  have hSD : (Builtin.unsafeSliceData_ #[106] 167 #[.slice none 0 0]).run Tryz.prog w.drew = .ok (.pointer none) w.drew := rfl
  clear hb hv
  go_enter Tryz.func46, Tryz.ntmps46
  go_wp2
  go_region
  all_goals (go_wp2; go_ret; exact ⟨rfl, Keeps.drew (Keeps.refl S w), rfl⟩)

theorem string_any (b : Nat) (T : TypeId) (cs : Array Value) (v : Value) (l : List UInt8) (w : World) (hb : w.heap[b]? = some (.cells cs T (0, 0))) (hv : cs[1]? = some v) (hown : Buf w v l) :
    Calls Tryz.prog 46 #[.pointer (some ⟨b, 0, none⟩)] w fun e w' => e = .returned (.string ⟨l.toArray⟩) ∧ Keeps (fun k => v.ownBlock = some k) w w' ∧ Buf w' v l ∧ w'.heap.size = w.heap.size := by
  by_cases h0 : l = []
  · subst h0
    obtain rfl := hown.2 rfl
    refine (string_none b T cs w hb hv (fun k => (Value.slice none 0 0).ownBlock = some k)).mono ?_
    rintro e w' ⟨rfl, h1, h2⟩
    exact ⟨rfl, h1, Buf.nil _, h2⟩
  · exact string_some b T cs v l w hb hv hown h0

set_option maxHeartbeats 1000000 in
theorem len_any (b : Nat) (T : TypeId) (cs : Array Value) (v : Value) (l : List UInt8) (w : World) (hb : w.heap[b]? = some (.cells cs T (0, 0))) (hv : cs[1]? = some v) (hown : Buf w v l) :
    Calls Tryz.prog 83 #[.pointer (some ⟨b, 0, none⟩)] w fun e w' => e = .returned (.int .i64 l.length) ∧ w' = w := by
  have c1 : w.cell? ⟨b, 1, none⟩ = some v := by rw [Lib.cell_of_heap hb]; exact hv
  obtain ⟨a, cap, rfl⟩ : ∃ a cap, v = .slice a l.length cap := by
    rcases hown.1.2 with ⟨rfl, h⟩ | ⟨g, cap, cur, fz, rfl, _⟩
    · exact ⟨none, 0, by rw [h]⟩
    · exact ⟨_, _, rfl⟩
  clear hb hv hown
  go_enter Tryz.func83, Tryz.ntmps83
  go_wp2
  go_ret
  exact ⟨rfl, rfl⟩

end Go.Proofs.YtegbkpjcjlihmabGreatDoor

namespace Go.Proofs.YtegbkpjcjlihmabGreatDoor
open Go.RowKit Go.Maps Go.ChangeMaps Go.WideMaps

abbrev Text := List UInt8
/-- names, each with its file's block -/
abbrev Names := Text → Option Nat

def ptr (x : Nat) : Value := .pointer (some ⟨x, 0, none⟩)

/-- how a file's pointer reads -/
def fileR : Value → Option (DataW Nat × List MemPlace)
  | .pointer none => some (.nil, [])
  | .pointer (some ⟨x, 0, none⟩) => some (.held x, [])
  | _ => none

theorem fileR_mk (x : Nat) : fileR (ptr x) = some (.held x, []) := rfl

theorem fileR_inv {v : Value} {x : Nat} {ps : List MemPlace} (h : fileR v = some (.held x, ps)) : v = ptr x := by
  unfold fileR at h
  split at h
  · simp at h
  · simp at h
    rw [h.1]; rfl
  · cases h

theorem fileR_nil {v : Value} {ps : List MemPlace} (h : fileR v = some (.nil, ps)) : v = .pointer none := by
  unfold fileR at h
  split at h
  · rfl
  · simp at h
  · cases h

theorem law9 : Keyed Tryz.prog 9 := string_keyed Tryz.underlying9
theorem zero48 (w : World) : (zeroValue 98).run Tryz.prog w = .ok (.pointer none) w := by kernel_rfl

/-- block m is a map of at most n entries that gives M -/
def MapAt (w : World) (m n : Nat) (M : Names) : Prop :=
  ∃ D : DataW Nat, w.ownsMap Tryz.prog 9 fileR m n D ∧ ∀ s, has D (.string s) = (M s).isSome ∧ ∀ x, M s = some x → D.atKey (.string s) .nil = .held x

theorem MapAt.lt {w : World} {m n : Nat} {M : Names} (h : MapAt w m n M) : m < w.heap.size := let ⟨_, h, _⟩ := h; h.lt
theorem MapAt.mono {w : World} {m n n' : Nat} {M : Names} (h : MapAt w m n M) (hn : n ≤ n') : MapAt w m n' M := let ⟨D, h, k⟩ := h; ⟨D, h.mono hn, k⟩

theorem MapAt.obj {w : World} {m n : Nat} {M : Names} (h : MapAt w m n M) : ∃ es c, w.heap[m]? = some (.map es c) := by
  obtain ⟨D, ⟨es, c, hb, _⟩, _⟩ := h
  exact ⟨es, c, hb⟩

theorem MapAt.of_heap {w w' : World} {m n : Nat} {M : Names} (h : MapAt w m n M) (e : w'.heap[m]? = w.heap[m]?) : MapAt w' m n M := by
  obtain ⟨D, ⟨es, c, hb, r⟩, k⟩ := h
  exact ⟨D, ⟨es, c, e.trans hb, r⟩, k⟩

theorem Keeps.mapAt {S : Nat → Prop} {w w' : World} (h : Keeps S w w') {m n : Nat} {M : Names} (hm : MapAt w m n M) (hn : ¬ S m) : MapAt w' m n M :=
  hm.of_heap (h.block m hm.lt hn)

theorem mapAt_made (w : World) (n : Nat) : MapAt (w.alloc (.map #[] 0)) w.heap.size n (fun _ => none) :=
  ⟨_, (World.ownsMap_made w _ _ _).mono (Nat.zero_le _), fun _ => ⟨rfl, fun _ h => by cases h⟩⟩

/-- 'v, ok := m[k]' -/
theorem MapAt.look {w : World} {m n : Nat} {M : Names} (h : MapAt w m n M) (s : ByteArray) (hs : s.size ≤ maxLen) (W : World) (hW : W.heap[m]? = w.heap[m]?) :
    (M s.data.toList = none → (Instr.lookup 93 (.map (some m)) (.string s) true).run Tryz.prog W = .ok (.tuple #[.pointer none, .bool false]) W) ∧
    (∀ x, M s.data.toList = some x → (Instr.lookup 93 (.map (some m)) (.string s) true).run Tryz.prog W = .ok (.tuple #[ptr x, .bool true]) W) := by
  obtain ⟨D, ho, hk⟩ := h.of_heap hW
  obtain ⟨v, ps, hr, hv⟩ := ho.look_ok (t := 93) (e := 98) law9 Tryz.underlying93 (zero48 W) (zd := .nil) (zp := []) rfl (key := .string s) (kl := .string s.data.toList) (keyOf_string_mk Tryz.underlying9 hs)
  obtain ⟨h1, h2⟩ := hk s.data.toList
  constructor
  · intro hn
    rw [hn] at h1
    rw [hr, h1]
    rw [atKey_of_not_has h1] at hv
    rw [fileR_nil hv]
    rfl
  · intro x hx
    rw [hx] at h1
    rw [hr, h1]
    rw [h2 x hx] at hv
    rw [fileR_inv hv]
    rfl

/-- 'm[k]' -/
theorem MapAt.get {w : World} {m n : Nat} {M : Names} (h : MapAt w m n M) (s : ByteArray) (hs : s.size ≤ maxLen) (W : World) (hW : W.heap[m]? = w.heap[m]?) (x : Nat) (hx : M s.data.toList = some x) :
    (Instr.lookup 93 (.map (some m)) (.string s) false).run Tryz.prog W = .ok (ptr x) W := by
  obtain ⟨D, ho, hk⟩ := h.of_heap hW
  obtain ⟨v, ps, hr, hv⟩ := ho.lookup (t := 93) (e := 98) law9 Tryz.underlying93 (zero48 W) (zd := .nil) (zp := []) rfl (key := .string s) (kl := .string s.data.toList) (keyOf_string_mk Tryz.underlying9 hs)
  rw [(hk s.data.toList).2 x hx] at hv
  rw [hr, fileR_inv hv]

def putN (M : Names) (s : Text) (x : Nat) : Names := fun t => if t = s then some x else M t
def delN (M : Names) (s : Text) : Names := fun t => if t = s then none else M t

theorem turned_keeps {w w' : World} {m : Nat} (h : w.mapTurned w' m) : Keeps (fun k => k = m) w w' := by
  have hg := h.grown
  exact ⟨hg.os, hg.tape, hg.output, hg.size, fun k hk hn => hg.block k hk (fun e => hn (Option.some.inj e))⟩

theorem turned_size {w w' : World} {m : Nat} (h : w.mapTurned w' m) : w'.heap.size = w.heap.size := by
  obtain ⟨_, _, _, _, _, rfl⟩ := h
  simp [setBlock]

/-- 'm[k] = v' -/
theorem MapAt.put {w : World} {m n : Nat} {M : Names} (h : MapAt w m n M) (hn : n < maxLen) (s : ByteArray) (hs : s.size ≤ maxLen) (x : Nat) :
    ∃ w', (Instr.mapUpdate 93 (.map (some m)) (.string s) (ptr x)).run Tryz.prog w = .ok () w' ∧ MapAt w' m (n + 1) (putN M s.data.toList x) ∧ Keeps (fun k => k = m) w w' ∧ w'.heap.size = w.heap.size := by
  obtain ⟨D, ho, hk⟩ := h
  obtain ⟨w', hr, ho', ht⟩ := ho.store (t := 93) (e := 98) law9 Tryz.underlying93 hn (key := .string s) (val := ptr x) (kl := .string s.data.toList) (keyOf_string_mk Tryz.underlying9 hs) (fileR_mk x)
  refine ⟨w', hr, ⟨_, ho', fun t => ?_⟩, turned_keeps ht, turned_size ht⟩
  unfold putN
  by_cases ht : t = s.data.toList
  · subst ht
    rw [if_pos rfl, has_put_same ho.isMap (k := .string s.data.toList) trivial]
    exact ⟨rfl, fun y hy => by rw [atKey_put_same ho.isMap (k := .string s.data.toList) trivial]; exact congrArg _ (Option.some.inj hy)⟩
  · rw [if_neg ht, has_put_other (by simpa using ht), atKey_put_other (by simpa using ht)]
    exact hk t

/-- 'delete(m, k)' -/
theorem MapAt.del {w : World} {m n : Nat} {M : Names} (h : MapAt w m n M) (s : ByteArray) (hs : s.size ≤ maxLen) (ty : TypeId) :
    ∃ w', (Builtin.delete_ #[93, 9] ty #[.map (some m), .string s]).run Tryz.prog w = .ok (.tuple #[]) w' ∧ MapAt w' m n (delN M s.data.toList) ∧ Keeps (fun k => k = m) w w' ∧ w'.heap.size = w.heap.size := by
  obtain ⟨D, ho, hk⟩ := h
  obtain ⟨w', hr, ho', ht⟩ := ho.drop (t := 93) (e := 98) law9 Tryz.underlying93 (key := .string s) (kl := .string s.data.toList) (keyOf_string_mk Tryz.underlying9 hs) ty
  refine ⟨w', hr, ⟨_, ho', fun t => ?_⟩, turned_keeps ht, turned_size ht⟩
  unfold delN
  by_cases ht : t = s.data.toList
  · subst ht
    rw [if_pos rfl, has_del_same]
    exact ⟨rfl, fun y hy => by cases hy⟩
  · rw [if_neg ht, has_del_other (by simpa using ht), atKey_del_other (by simpa using ht)]
    exact hk t

/-- ks: the names, sorted -/
def Sorted (M : Names) (ks : List Text) : Prop := ∃ ss : List Text, ks = ss.mergeSort leB ∧ ss.Nodup ∧ ∀ s, s ∈ ss ↔ (M s).isSome = true

theorem Sorted.mem {M : Names} {ks : List Text} (h : Sorted M ks) (s : Text) : s ∈ ks ↔ (M s).isSome = true := by
  obtain ⟨ss, rfl, _, hm⟩ := h
  rw [List.mem_mergeSort]; exact hm s

theorem Sorted.nodup {M : Names} {ks : List Text} (h : Sorted M ks) : ks.Nodup := by
  obtain ⟨ss, rfl, hn, _⟩ := h
  exact (List.mergeSort_perm ss leB).nodup_iff.2 hn

theorem Sorted.unique {M : Names} {ks ks' : List Text} (h : Sorted M ks) (h' : Sorted M ks') : ks = ks' := by
  obtain ⟨ss, rfl, hn, hm⟩ := h
  obtain ⟨ss', rfl, hn', hm'⟩ := h'
  exact mergeSort_of_perm ((List.perm_ext_iff_of_nodup hn hn').2 fun s => by rw [hm, hm'])

theorem MapAt.sorted {w : World} {m n : Nat} {D : DataW Nat} {M : Names} (ho : w.ownsMap Tryz.prog 9 fileR m n D) (hk : ∀ s, has D (.string s) = (M s).isSome) {ss : List Text} (hp : ss.Perm (strKeys D)) :
    Sorted M (ss.mergeSort leB) ∧ ss.length ≤ n ∧ ∀ s ∈ ss, s.length ≤ maxLen := by
  have hle := strKeys_le ho Tryz.underlying9
  have hsz := ho.size_le
  obtain ⟨es, hD, hpw⟩ := ho.tidy law9
  obtain ⟨es', hD', hko⟩ := ho.keysOf
  obtain rfl : es = es' := by rw [hD] at hD'; simpa using hD'
  have hstr : ∀ p ∈ es, ∃ x, p.1 = .string x := fun p hp => by obtain ⟨v, hv⟩ := hko p hp; obtain ⟨x, _, hx, _⟩ := Maps.keyOf_str Tryz.underlying9 hv; exact ⟨x, hx⟩
  have hnd : (strKeys D).Nodup := by
    rw [hD]
    show (es.map fun p => strOf p.1).Nodup
    refine List.pairwise_map.2 (hpw.imp_of_mem fun {p q} hp' hq' hne e => hne ?_)
    obtain ⟨a, ha⟩ := hstr p hp'
    obtain ⟨b, hb⟩ := hstr q hq'
    rw [ha, hb] at e ⊢
    exact congrArg _ e
  have hmem : ∀ x, x ∈ strKeys D ↔ has D (.string x) = true := by
    intro x
    rw [hD, has_eq, List.any_eq_true]
    show x ∈ (es.map fun p => strOf p.1) ↔ _
    rw [List.mem_map]
    constructor
    · rintro ⟨p, hp', rfl⟩
      obtain ⟨a, ha⟩ := hstr p hp'
      exact ⟨p, hp', by rw [ha]; simp [Lit.sameKey, strOf]⟩
    · rintro ⟨p, hp', hs⟩
      obtain ⟨a, ha⟩ := hstr p hp'
      rw [ha] at hs
      exact ⟨p, hp', by rw [ha]; simpa [Lit.sameKey, strOf] using hs⟩
  refine ⟨⟨ss, rfl, hp.nodup_iff.2 hnd, fun s => ?_⟩, ?_, fun s hs => hle s (hp.mem_iff.1 hs)⟩
  · rw [hp.mem_iff, hmem, hk]
  · rw [hp.length_eq]
    have : (strKeys D).length = Maps.size D := by rw [hD]; simp [strKeys, Maps.size]
    omega

end Go.Proofs.YtegbkpjcjlihmabGreatDoor

namespace Go.Proofs.YtegbkpjcjlihmabGreatDoor
open Go.RowKit Go.Maps

/-- a change of names: one made, one renamed, one taken away -/
def Chg : Type := (Text × Nat) ⊕ ((Text × Text × Nat) ⊕ Text)

abbrev Chg.create (s : Text) (x : Nat) : Chg := Sum.inl (s, x)
abbrev Chg.rename (a b : Text) (x : Nat) : Chg := Sum.inr (Sum.inl (a, b, x))
abbrev Chg.remove (s : Text) : Chg := Sum.inr (Sum.inr s)

def Chg.app : Chg → Names → Names
  | Sum.inl (s, x), M => putN M s x
  | Sum.inr (Sum.inl (a, b, x)), M => putN (delN M a) b x
  | Sum.inr (Sum.inr s), M => delN M s

def appAll (cs : List Chg) (M : Names) : Names := cs.foldl (fun M c => c.app M) M

/-- what a disk is -/
structure Dk where
  now : Names
  safe : Names
  chs : List Chg
  left : Option Nat
  files : List Nat
  cont : Nat → Text
  sure : Nat → Nat

/-- what kind of block it is -/
def tag (w : World) (k : Nat) : Option Nat :=
  match w.heap[k]? with
  | some (.cells _ T _) => some T
  | some (.map _ _) => some 1000000
  | _ => none

theorem ne_of_tag {w : World} {a b s t : Nat} (ha : tag w a = some s) (hb : tag w b = some t) (h : s ≠ t) : a ≠ b := by
  intro e
  subst e
  rw [ha] at hb
  exact h (Option.some.inj hb)

theorem tag_cells {w : World} {k : Nat} {cs : Array Value} {T : TypeId} {fr : Nat × Nat} (h : w.heap[k]? = some (.cells cs T fr)) : tag w k = some T := by simp [tag, h]
theorem MapAt.tag {w : World} {m n : Nat} {M : Names} (h : MapAt w m n M) : tag w m = some 1000000 := by
  obtain ⟨es, c, hb⟩ := h.obj
  simp [YtegbkpjcjlihmabGreatDoor.tag, hb]
theorem Buf.tag {w : World} {v : Value} {l : List UInt8} (h : Buf w v l) {k : Nat} (hk : v.ownBlock = some k) : tag w k = some 5 := by
  obtain ⟨cur, fz, h⟩ := h.row hk
  exact tag_cells h
theorem owns_tag {w : World} {base : Nat} {e : TypeId} {size : Nat} {v : Value} {n : Nat} {xs : List Value} (h : w.ownsRow base e size v n xs) {k : Nat} (hk : v.ownBlock = some k) : tag w k = some e := by
  rcases h.2 with ⟨rfl, _⟩ | ⟨g, cap, cur, rfl, _, hg, _⟩
  · simp [Value.ownBlock] at hk
  · simp [Value.ownBlock] at hk
    subst hk
    exact tag_cells hg

/-- a variable that a kept function has caught: a text, a file -/
def TextVar (w : World) (A : Nat → Prop) (q : Nat) (s : Text) : Prop := A q ∧ ∃ b : ByteArray, w.heap[q]? = some (.cells #[.string b] 9 (0, 0)) ∧ b.data.toList = s ∧ b.size ≤ maxLen
def FileVar (w : World) (A : Nat → Prop) (p x : Nat) : Prop := A p ∧ w.heap[p]? = some (.cells #[ptr x] 98 (0, 0))

/-- a change that is kept -/
def ChgAt (w : World) (A : Nat → Prop) (v : Value) : Chg → Prop
  | Sum.inl (s, x) => ∃ p q, v = .func (.func 49) #[] #[ptr p, ptr q] ∧ FileVar w A p x ∧ TextVar w A q s
  | Sum.inr (Sum.inl (a, b, x)) => ∃ p q r, v = .func (.func 97) #[] #[ptr p, ptr q, ptr r] ∧ TextVar w A p a ∧ FileVar w A q x ∧ TextVar w A r b
  | Sum.inr (Sum.inr s) => ∃ q, v = .func (.func 124) #[] #[ptr q] ∧ TextVar w A q s

theorem TextVar.kept {S A A' : Nat → Prop} {w w' : World} {q : Nat} {s : Text} (h : TextVar w A q s) (k : Keeps S w w') (hn : ∀ i, A i → tag w i = some 9 → ¬ S i) (hA : ∀ i, A i → A' i) : TextVar w' A' q s := by
  obtain ⟨ha, b, hb, r⟩ := h
  exact ⟨hA q ha, b, k.heap hb (hn q ha (tag_cells hb)), r⟩

theorem FileVar.kept {S A A' : Nat → Prop} {w w' : World} {p x : Nat} (h : FileVar w A p x) (k : Keeps S w w') (hn : ∀ i, A i → tag w i = some 98 → ¬ S i) (hA : ∀ i, A i → A' i) : FileVar w' A' p x := by
  obtain ⟨ha, hb⟩ := h
  exact ⟨hA p ha, k.heap hb (hn p ha (tag_cells hb))⟩

theorem ChgAt.kept {S A A' : Nat → Prop} {w w' : World} {v : Value} {c : Chg} (h : ChgAt w A v c) (k : Keeps S w w') (h9 : ∀ i, A i → tag w i = some 9 → ¬ S i) (h48 : ∀ i, A i → tag w i = some 98 → ¬ S i) (hA : ∀ i, A i → A' i) : ChgAt w' A' v c := by
  rcases c with ⟨s, x⟩ | ⟨a, b, x⟩ | s
  · obtain ⟨p, q, e, h1, h2⟩ := h; exact ⟨p, q, e, h1.kept k h48 hA, h2.kept k h9 hA⟩
  · obtain ⟨p, q, r, e, h1, h2, h3⟩ := h; exact ⟨p, q, r, e, h1.kept k h9 hA, h2.kept k h48 hA, h3.kept k h9 hA⟩
  · obtain ⟨q, e, h1⟩ := h; exact ⟨q, e, h1.kept k h9 hA⟩

/-- a file in block x, its buffer v -/
def FileAt (w : World) (x : Nat) (v : Value) (c : Text) (n : Nat) : Prop :=
  (∃ p, (p = .pointer none ∨ p = self x) ∧ w.heap[x]? = some (.cells #[p, v, .int .i64 n] 110 (0, 0))) ∧ Buf w v c

theorem FileAt.tag {w : World} {x : Nat} {v : Value} {c : Text} {n : Nat} (h : FileAt w x v c n) : tag w x = some 110 := by
  obtain ⟨⟨p, _, h⟩, _⟩ := h
  exact tag_cells h

theorem Keeps.file {S : Nat → Prop} {w w' : World} (h : Keeps S w w') {x : Nat} {v : Value} {c : Text} {n : Nat} (hf : FileAt w x v c n) (hx : ¬ S x) (hn : ∀ k, v.ownBlock = some k → ¬ S k) : FileAt w' x v c n := by
  obtain ⟨⟨p, hp, hh⟩, hb⟩ := hf
  exact ⟨⟨p, hp, h.heap hh hx⟩, h.buf hb hn⟩

/-- the disk's own row -/
def headOf (mn ms : Nat) (cv : Value) (left : Option Nat) : Array Value := #[.map (some mn), .map (some ms), cv, .bool left.isSome, .int .i64 ((left.getD 0 : Nat) : Int)]

structure Inner (w : World) (A : Nat → Prop) (d n : Nat) (σ : Dk) (mn ms : Nat) (cv : Value) (vals : List Value) (bv : Nat → Value) : Prop where
  head : w.heap[d]? = some (.cells (headOf mn ms cv σ.left) 96 (0, 0))
  now : MapAt w mn n σ.now
  safe : MapAt w ms n σ.safe
  apart : mn ≠ ms
  row : w.ownsRow 0 151 1 cv vals.length vals
  len : vals.length = σ.chs.length
  chg : ∀ (i : Nat) v c, vals[i]? = some v → σ.chs[i]? = some c → ChgAt w A v c
  files : ∀ x ∈ σ.files, FileAt w x (bv x) (σ.cont x) (σ.sure x)
  bufs : ∀ x ∈ σ.files, ∀ y ∈ σ.files, ∀ k, (bv x).ownBlock = some k → (bv y).ownBlock = some k → x = y
  ownD : A d
  ownN : A mn
  ownS : A ms
  ownR : ∀ k, cv.ownBlock = some k → A k
  ownX : ∀ x ∈ σ.files, A x
  ownB : ∀ x ∈ σ.files, ∀ k, (bv x).ownBlock = some k → A k

def DiskAt (w : World) (A : Nat → Prop) (d n : Nat) (σ : Dk) : Prop := ∃ mn ms cv vals bv, Inner w A d n σ mn ms cv vals bv

/-- A and what is new -/
def ext (A : Nat → Prop) (w w' : World) : Nat → Prop := fun k => A k ∨ (w.heap.size ≤ k ∧ k < w'.heap.size)

theorem ext_of {A : Nat → Prop} {w w' : World} {k : Nat} (h : A k) : ext A w w' k := .inl h

section
variable {w : World} {A : Nat → Prop} {d n : Nat} {σ : Dk} {mn ms : Nat} {cv : Value} {vals : List Value} {bv : Nat → Value}

theorem Inner.tagD (h : Inner w A d n σ mn ms cv vals bv) : tag w d = some 96 := tag_cells h.head
theorem Inner.tagN (h : Inner w A d n σ mn ms cv vals bv) : tag w mn = some 1000000 := h.now.tag
theorem Inner.tagS (h : Inner w A d n σ mn ms cv vals bv) : tag w ms = some 1000000 := h.safe.tag
theorem Inner.tagR (h : Inner w A d n σ mn ms cv vals bv) {k : Nat} (hk : cv.ownBlock = some k) : tag w k = some 151 := owns_tag h.row hk
theorem Inner.tagX (h : Inner w A d n σ mn ms cv vals bv) {x : Nat} (hx : x ∈ σ.files) : tag w x = some 110 := (h.files x hx).tag
theorem Inner.tagB (h : Inner w A d n σ mn ms cv vals bv) {x : Nat} (hx : x ∈ σ.files) {k : Nat} (hk : (bv x).ownBlock = some k) : tag w k = some 5 := (h.files x hx).2.tag hk

/-- it stays, whatever else is written -/
theorem Inner.kept (h : Inner w A d n σ mn ms cv vals bv) {S A' : Nat → Prop} {w' : World} (k : Keeps S w w') (hS : ∀ i, A i → ¬ S i) (hA : ∀ i, A i → A' i) : Inner w' A' d n σ mn ms cv vals bv where
  head := k.heap h.head (hS _ h.ownD)
  now := k.mapAt h.now (hS _ h.ownN)
  safe := k.mapAt h.safe (hS _ h.ownS)
  apart := h.apart
  row := k.owns h.row (fun i hi => hS i (h.ownR i hi))
  len := h.len
  chg := fun i v c hv hc => (h.chg i v c hv hc).kept k (fun j hj _ => hS j hj) (fun j hj _ => hS j hj) hA
  files := fun x hx => k.file (h.files x hx) (hS x (h.ownX x hx)) (fun i hi => hS i (h.ownB x hx i hi))
  bufs := h.bufs
  ownD := hA _ h.ownD
  ownN := hA _ h.ownN
  ownS := hA _ h.ownS
  ownR := fun i hi => hA _ (h.ownR i hi)
  ownX := fun x hx => hA _ (h.ownX x hx)
  ownB := fun x hx i hi => hA _ (h.ownB x hx i hi)

theorem DiskAt.kept (h : DiskAt w A d n σ) {S A' : Nat → Prop} {w' : World} (k : Keeps S w w') (hS : ∀ i, A i → ¬ S i) (hA : ∀ i, A i → A' i) : DiskAt w' A' d n σ := by
  obtain ⟨mn, ms, cv, vals, bv, h⟩ := h
  exact ⟨mn, ms, cv, vals, bv, h.kept k hS hA⟩

theorem DiskAt.fresh (h : DiskAt w A d n σ) {w' : World} (k : Fresh w w') : DiskAt w' A d n σ := h.kept k (fun _ _ e => e) (fun _ h => h)

/-- the disk's own row is set; its list of changes may be other -/
theorem Inner.setHead (h : Inner w A d n σ mn ms cv vals bv) {A' : Nat → Prop} {w' : World} {left : Option Nat} {cv' : Value} {vals' : List Value} {chs : List Chg}
    (hh : w'.heap[d]? = some (.cells (headOf mn ms cv' left) 96 (0, 0))) (k : Keeps (fun i => i = d ∨ cv.ownBlock = some i) w w') (hA : ∀ i, A i → A' i)
    (row : w'.ownsRow 0 151 1 cv' vals'.length vals') (len : vals'.length = chs.length) (chg : ∀ (i : Nat) v c, vals'[i]? = some v → chs[i]? = some c → ChgAt w' A' v c)
    (ownR : ∀ k, cv'.ownBlock = some k → A' k) : Inner w' A' d n { σ with left := left, chs := chs } mn ms cv' vals' bv where
  head := hh
  now := k.mapAt h.now (fun e => e.elim (fun e => ne_of_tag h.tagN h.tagD (by decide) e) (fun e => ne_of_tag h.tagN (h.tagR e) (by decide) rfl))
  safe := k.mapAt h.safe (fun e => e.elim (fun e => ne_of_tag h.tagS h.tagD (by decide) e) (fun e => ne_of_tag h.tagS (h.tagR e) (by decide) rfl))
  apart := h.apart
  row := row
  len := len
  chg := chg
  files := fun x hx => k.file (h.files x hx) (fun e => e.elim (fun e => ne_of_tag (h.tagX hx) h.tagD (by decide) e) (fun e => ne_of_tag (h.tagX hx) (h.tagR e) (by decide) rfl))
    (fun i hi e => e.elim (fun e => ne_of_tag (h.tagB hx hi) h.tagD (by decide) e) (fun e => ne_of_tag (h.tagB hx hi) (h.tagR e) (by decide) rfl))
  bufs := h.bufs
  ownD := hA _ h.ownD
  ownN := hA _ h.ownN
  ownS := hA _ h.ownS
  ownR := ownR
  ownX := fun x hx => hA _ (h.ownX x hx)
  ownB := fun x hx i hi => hA _ (h.ownB x hx i hi)

/-- .. its number alone -/
theorem Inner.setLeft (h : Inner w A d n σ mn ms cv vals bv) {w' : World} {left : Option Nat}
    (hh : w'.heap[d]? = some (.cells (headOf mn ms cv left) 96 (0, 0))) (k : Keeps (fun i => i = d) w w') : Inner w' A d n { σ with left := left } mn ms cv vals bv :=
  h.setHead (chs := σ.chs) hh (k.mono (fun _ _ e => .inl e)) (fun _ h => h)
    (k.owns h.row (fun i hi e => ne_of_tag (h.tagR hi) h.tagD (by decide) e)) h.len
    (fun i v c hv hc => (h.chg i v c hv hc).kept k (fun j _ ht e => ne_of_tag ht h.tagD (by decide) e) (fun j _ ht e => ne_of_tag ht h.tagD (by decide) e) (fun _ h => h)) h.ownR

/-- names as they are, set -/
theorem Inner.setNow (h : Inner w A d n σ mn ms cv vals bv) {w' : World} {M : Names} (hm : MapAt w' mn n M) (k : Keeps (fun i => i = mn) w w') : Inner w' A d n { σ with now := M } mn ms cv vals bv where
  head := k.heap h.head (fun e => ne_of_tag h.tagD h.tagN (by decide) e)
  now := hm
  safe := k.mapAt h.safe (fun e => h.apart e.symm)
  apart := h.apart
  row := k.owns h.row (fun i hi e => ne_of_tag (h.tagR hi) h.tagN (by decide) e)
  len := h.len
  chg := fun i v c hv hc => (h.chg i v c hv hc).kept k (fun j _ ht e => ne_of_tag ht h.tagN (by decide) e) (fun j _ ht e => ne_of_tag ht h.tagN (by decide) e) (fun _ h => h)
  files := fun x hx => k.file (h.files x hx) (fun e => ne_of_tag (h.tagX hx) h.tagN (by decide) e) (fun i hi e => ne_of_tag (h.tagB hx hi) h.tagN (by decide) e)
  bufs := h.bufs
  ownD := h.ownD
  ownN := h.ownN
  ownS := h.ownS
  ownR := h.ownR
  ownX := h.ownX
  ownB := h.ownB

/-- safe names, set -/
theorem Inner.setSafe (h : Inner w A d n σ mn ms cv vals bv) {w' : World} {M : Names} (hm : MapAt w' ms n M) (k : Keeps (fun i => i = ms) w w') : Inner w' A d n { σ with safe := M } mn ms cv vals bv where
  head := k.heap h.head (fun e => ne_of_tag h.tagD h.tagS (by decide) e)
  now := k.mapAt h.now (fun e => h.apart e)
  safe := hm
  apart := h.apart
  row := k.owns h.row (fun i hi e => ne_of_tag (h.tagR hi) h.tagS (by decide) e)
  len := h.len
  chg := fun i v c hv hc => (h.chg i v c hv hc).kept k (fun j _ ht e => ne_of_tag ht h.tagS (by decide) e) (fun j _ ht e => ne_of_tag ht h.tagS (by decide) e) (fun _ h => h)
  files := fun x hx => k.file (h.files x hx) (fun e => ne_of_tag (h.tagX hx) h.tagS (by decide) e) (fun i hi e => ne_of_tag (h.tagB hx hi) h.tagS (by decide) e)
  bufs := h.bufs
  ownD := h.ownD
  ownN := h.ownN
  ownS := h.ownS
  ownR := h.ownR
  ownX := h.ownX
  ownB := h.ownB

def upd {α : Type} (f : Nat → α) (x : Nat) (v : α) : Nat → α := fun y => if y = x then v else f y
theorem upd_same {α : Type} (f : Nat → α) (x : Nat) (v : α) : upd f x v x = v := if_pos rfl
theorem upd_other {α : Type} (f : Nat → α) {x y : Nat} (v : α) (h : y ≠ x) : upd f x v y = f y := if_neg h

/-- a file, written -/
theorem Inner.setFile (h : Inner w A d n σ mn ms cv vals bv) {w' : World} {x : Nat} (hx : x ∈ σ.files) {v' : Value} {c : Text} {m : Nat} (hf : FileAt w' x v' c m) (hlt : ∀ k, v'.ownBlock = some k → (bv x).ownBlock = some k ∨ (w.heap.size ≤ k ∧ k < w'.heap.size))
    (k : Keeps (fun i => i = x ∨ (bv x).ownBlock = some i) w w') : Inner w' (ext A w w') d n { σ with cont := upd σ.cont x c, sure := upd σ.sure x m } mn ms cv vals (upd bv x v') := by
  have hsz : ∀ y ∈ σ.files, ∀ j, (bv y).ownBlock = some j → j < w.heap.size := fun y hy j hj => by
    obtain ⟨cur, fz, hg⟩ := (h.files y hy).2.row hj
    exact heap_lt hg
  have dis : ∀ i t, tag w i = some t → t ≠ 110 → t ≠ 5 → ¬ (i = x ∨ (bv x).ownBlock = some i) := fun i t ht h1 h2 e =>
    e.elim (fun e => ne_of_tag ht (h.tagX hx) h1 e) (fun e => ne_of_tag ht (h.tagB hx e) h2 rfl)
  refine ⟨k.heap h.head (dis _ _ h.tagD (by decide) (by decide)), k.mapAt h.now (dis _ _ h.tagN (by decide) (by decide)), k.mapAt h.safe (dis _ _ h.tagS (by decide) (by decide)), h.apart,
    k.owns h.row (fun i hi => dis _ _ (h.tagR hi) (by decide) (by decide)), h.len, fun i v c hv hc => (h.chg i v c hv hc).kept k (fun j _ ht => dis _ _ ht (by decide) (by decide)) (fun j _ ht => dis _ _ ht (by decide) (by decide)) (fun _ h => .inl h),
    ?_, ?_, .inl h.ownD, .inl h.ownN, .inl h.ownS, fun i hi => .inl (h.ownR i hi), fun y hy => .inl (h.ownX y hy), ?_⟩
  · intro y hy
    by_cases e : y = x
    · subst e
      simp only [upd_same]
      exact hf
    · simp only [upd_other _ _ e]
      exact k.file (h.files y hy) (fun e1 => e1.elim e (fun e1 => ne_of_tag (h.tagX hy) (h.tagB hx e1) (by decide) rfl))
        (fun i hi e1 => e1.elim (fun e1 => ne_of_tag (h.tagB hy hi) (h.tagX hx) (by decide) e1) (fun e1 => e (h.bufs y hy x hx i hi e1)))
  · intro y hy z hz j hj hj'
    by_cases e : y = x
    · by_cases e' : z = x
      · rw [e, e']
      · subst e
        rw [upd_same] at hj
        rw [upd_other _ _ e'] at hj'
        rcases hlt j hj with h1 | ⟨h1, _⟩
        · exact h.bufs y hx z hz j h1 hj'
        · have := hsz z hz j hj'
          omega
    · by_cases e' : z = x
      · subst e'
        rw [upd_same] at hj'
        rw [upd_other _ _ e] at hj
        rcases hlt j hj' with h1 | ⟨h1, _⟩
        · exact h.bufs y hy z hx j hj h1
        · have := hsz y hy j hj
          omega
      · rw [upd_other _ _ e] at hj
        rw [upd_other _ _ e'] at hj'
        exact h.bufs y hy z hz j hj hj'
  · intro y hy j hj
    by_cases e : y = x
    · subst e
      rw [upd_same] at hj
      rcases hlt j hj with h1 | h1
      · exact .inl (h.ownB y hx j h1)
      · exact .inr h1
    · rw [upd_other _ _ e] at hj
      exact .inl (h.ownB y hy j hj)

/-- a file more -/
theorem Inner.newFile (h : Inner w A d n σ mn ms cv vals bv) {x : Nat} (hx : tag w x = some 110) (hA : A x) (hf : FileAt w x (.slice none 0 0) [] 0) (hnew : x ∉ σ.files) :
    Inner w A d n { σ with files := x :: σ.files, cont := upd σ.cont x [], sure := upd σ.sure x 0 } mn ms cv vals (upd bv x (.slice none 0 0)) := by
  refine ⟨h.head, h.now, h.safe, h.apart, h.row, h.len, h.chg, ?_, ?_, h.ownD, h.ownN, h.ownS, h.ownR, ?_, ?_⟩
  · intro y hy
    by_cases e : y = x
    · subst e
      simp only [upd_same]
      exact hf
    · simp only [upd_other _ _ e]
      exact h.files y (List.mem_of_ne_of_mem e hy)
  · intro y hy z hz j hj hj'
    by_cases e : y = x
    · subst e
      rw [upd_same] at hj
      simp [Value.ownBlock] at hj
    · by_cases e' : z = x
      · subst e'
        rw [upd_same] at hj'
        simp [Value.ownBlock] at hj'
      · rw [upd_other _ _ e] at hj
        rw [upd_other _ _ e'] at hj'
        exact h.bufs y (List.mem_of_ne_of_mem e hy) z (List.mem_of_ne_of_mem e' hz) j hj hj'
  · intro y hy
    by_cases e : y = x
    · rw [e]; exact hA
    · exact h.ownX y (List.mem_of_ne_of_mem e hy)
  · intro y hy j hj
    by_cases e : y = x
    · subst e
      rw [upd_same] at hj
      simp [Value.ownBlock] at hj
    · rw [upd_other _ _ e] at hj
      exact h.ownB y (List.mem_of_ne_of_mem e hy) j hj

end
end Go.Proofs.YtegbkpjcjlihmabGreatDoor
