/-
  strings.Builder at this dump, as the first field of a file (type 56); its buffer may have been read by String.
-/
import Derived.Test.YtegbkpjcjlihmabProg
import Derived.Test.YtegbkpjcjlihmabFrame
import Derived.Lib.FrozenHead
import Derived.Lib.UnsafeStr
import Derived.Lib.Walk
import Derived.Lib.Strings
import Derived.RegionTactic
namespace Go.Proofs.Ytegbkpjcjlihmab
open Go.RowKit

theorem lies56 : liesAt Try.prog Try.prog.depth 56 (3 / Try.prog.cellsOf 56) 0 54 1 = true := by kernel_rfl

theorem sizeB : (Try.prog.info? 54).map (fun i => i.size) = some 2 := by kernel_rfl

set_option maxRecDepth 20000 in
set_option maxHeartbeats 400000 in
theorem copyCheck_used (b : Nat) (w : World) (h0 : w.cell? ⟨b, 0, none⟩ = some (.pointer (some ⟨b, 0, none⟩))) :
    Calls Try.prog 35 #[.pointer (some ⟨b, 0, none⟩)] w fun e w' => e = .returned (.tuple #[]) ∧ w' = w := by
  obtain ⟨j, hj, _⟩ := Option.map_eq_some_iff.1 sizeB
  go_enter Try.func35, Try.ntmps35
  go_wp2
  rw [Lib.run_neq_ptr_same w _ Try.underlying51 hj]
  go_wp2
  go_end0
  exact ⟨rfl, rfl⟩

set_option maxRecDepth 20000 in
set_option maxHeartbeats 400000 in
theorem copyCheck_fresh (b T n : Nat) (w : World) (h0 : w.cell? ⟨b, 0, none⟩ = some (.pointer none)) (hsh : w.shape? b = some (T, n)) (h2 : 0 < n) (hl : liesAt Try.prog Try.prog.depth T (n / Try.prog.cellsOf T) 0 54 1 = true) (hfz : w.frozen? ⟨b, 0, none⟩ = false) :
    Calls Try.prog 35 #[.pointer (some ⟨b, 0, none⟩)] w fun e w' => e = .returned (.tuple #[]) ∧ w' = w.setCell ⟨b, 0, none⟩ (.pointer (some ⟨b, 0, none⟩)) := by
  obtain ⟨j, hj, hjs⟩ := Option.map_eq_some_iff.1 sizeB
  go_enter Try.func35, Try.ntmps35
  go_wp2
  rw [Lib.run_to_unsafe w ⟨b, 0, none⟩ Try.underlying51 Try.underlying76 hj (by rw [hjs]; decide) hsh h2]
  simp only [Result.andThen]
  rw [Oper.upon_value]
  go_wp2
  rw [run_callFunc_extern Try.func39 (by kernel_rfl) (by kernel_rfl) (by kernel_rfl) (e := Extern.AbiNoEscape.same) (by kernel_rfl)]
  rw [Lib.run_noEscape]
  simp only [Result.andThen]
  rw [Oper.upon_value]
  go_wp2
  rw [Lib.run_from_unsafe w ⟨b, 0, none⟩ Try.underlying76 Try.underlying51 hj hsh hl]
  simp only [Result.andThen]
  rw [Oper.upon_value]
  go_wp2
  go_end0
  exact ⟨rfl, rfl⟩

theorem heap_setCell_at {w : World} {b : Nat} {cs : Array Value} {T : TypeId} {fr : Nat × Nat} (hb : w.heap[b]? = some (.cells cs T fr)) (i : Nat) (v : Value) :
    (w.setCell ⟨b, i, none⟩ v).heap[b]? = some (.cells (cs.setIfInBounds i v) T fr) := by
  simp [World.setCell, Array.getElem?_modify, hb]

/-- 'addr' -/
def self (b : Nat) : Value := .pointer (some ⟨b, 0, none⟩)

theorem copyCheck_any (b : Nat) (p v n : Value) (w : World) (hb : w.heap[b]? = some (.cells #[p, v, n] 56 (0, 0))) (hp : p = .pointer none ∨ p = self b) :
    Calls Try.prog 35 #[.pointer (some ⟨b, 0, none⟩)] w fun e w' => e = .returned (.tuple #[]) ∧ (w'.heap[b]? = some (.cells #[self b, v, n] 56 (0, 0)) ∧ Keeps (fun k => k = b) w w' ∧ w'.heap.size = w.heap.size) := by
  rcases hp with rfl | rfl
  · refine (copyCheck_fresh b 56 3 w (by rw [Lib.cell_of_heap hb]; rfl) (by simp [World.shape?, hb]) (by omega) lies56 (Lib.frozen_of_heap hb 0)).mono ?_
    rintro e w' ⟨rfl, rfl⟩
    exact ⟨rfl, heap_setCell_at hb 0 _, (Keeps.refl (fun k => k = b) w).setCell (p := ⟨b, 0, none⟩) (fun _ => rfl) _, by simp [World.setCell]⟩
  · refine (copyCheck_used b w (by rw [Lib.cell_of_heap hb]; rfl)).mono ?_
    rintro e w' ⟨rfl, rfl⟩
    exact ⟨rfl, hb, Keeps.refl _ _, rfl⟩

theorem infoByte : (Try.prog.info? 5).map (fun i => (i.zero, i.size, i.bytes)) = some (some (.int .u8 0), 1, 1) := by kernel_rfl
theorem infoByte' : ∃ i, Try.prog.info? 5 = some i ∧ i.zero = some (.int .u8 0) ∧ i.size = 1 ∧ i.bytes = 1 := by
  obtain ⟨i, hi, h⟩ := Option.map_eq_some_iff.1 infoByte
  simp only [Prod.mk.injEq] at h
  exact ⟨i, hi, h.1, h.2.1, h.2.2⟩

/-- a buffer that holds l -/
def Buf (w : World) (v : Value) (l : List UInt8) : Prop := w.ownsRowF 0 5 1 v l.length (Lib.byteCells l) ∧ (l = [] → v = .slice none 0 0)

theorem Buf.nil (w : World) : Buf w (.slice none 0 0) [] := ⟨World.ownsRowF_nil _ _ _ _, fun _ => rfl⟩

theorem Keeps.ownsF {S : Nat → Prop} {w w' : World} (h : Keeps S w w') {base : Nat} {e : TypeId} {size : Nat} {v : Value} {n : Nat} {xs : List Value}
    (ho : w.ownsRowF base e size v n xs) (hn : ∀ k, v.ownBlock = some k → ¬ S k) : w'.ownsRowF base e size v n xs := by
  refine ⟨ho.1, ?_⟩
  rcases ho.2 with h0 | ⟨g, cap, cur, fz, rfl, hb, hg, r⟩
  · exact .inl h0
  · exact .inr ⟨g, cap, cur, fz, rfl, hb, h.heap hg (hn g rfl), r⟩

theorem Keeps.buf {S : Nat → Prop} {w w' : World} (h : Keeps S w w') {v : Value} {l : List UInt8} (hb : Buf w v l) (hn : ∀ k, v.ownBlock = some k → ¬ S k) : Buf w' v l := ⟨h.ownsF hb.1 hn, hb.2⟩

/-- where a buffer lies: a row of bytes -/
theorem Buf.row {w : World} {v : Value} {l : List UInt8} (h : Buf w v l) {k : Nat} (hk : v.ownBlock = some k) : ∃ cur fz, w.heap[k]? = some (.cells cur 5 fz) := by
  rcases h.1.2 with ⟨rfl, _⟩ | ⟨g, cap, cur, fz, rfl, _, hg, _⟩
  · simp [Value.ownBlock] at hk
  · simp [Value.ownBlock] at hk
    subst hk
    exact ⟨cur, fz, hg⟩

theorem Buf.ne {w : World} {v : Value} {l : List UInt8} (h : Buf w v l) {b : Nat} {cs : Array Value} {T : TypeId} {fr : Nat × Nat} (hb : w.heap[b]? = some (.cells cs T fr)) (hT : T ≠ 5) : v.ownBlock ≠ some b := by
  intro e
  obtain ⟨cur, fz, hk⟩ := h.row e
  rw [hk] at hb
  simp only [Option.some.injEq, Obj.cells.injEq] at hb
  exact hT hb.2.1.symm

/-- where a new buffer lies, seen from an elder world -/
theorem Placed.lift {w0 w : World} {v v' : Value} (h : Placed w v v') (hs : w0.heap.size ≤ w.heap.size) : ∀ k, v'.ownBlock = some k → v.ownBlock = some k ∨ w0.heap.size ≤ k := by
  intro k hk
  rcases h with h | h
  · exact .inl (by rw [← h]; exact hk)
  · rw [h] at hk
    simp only [Option.some.injEq] at hk
    exact .inr (by omega)

/-- the value's block is the old one, or one that is new since w -/
def Newer (w : World) (v v' : Value) : Prop := ∀ k, v'.ownBlock = some k → v.ownBlock = some k ∨ w.heap.size ≤ k

section
variable {P : Program} (w : World)

theorem append_place_stringF (base : Nat) (t u ty e : TypeId) (i : TypeInfo) (ht : P.underlying t = some (.slice e)) (hu : P.underlying u = some .string) (hi : P.info? e = some i) (hz : i.zero = some (.int .u8 0))
    (hsize : i.size = 1) (hby : i.bytes = 1)
    (v : Value) (n : Nat) (xs : List Value) (hown : w.ownsRowF base e 1 v n xs) (s : ByteArray)
    (h63 : n + s.size ≤ maxLen) (hbytes : n + s.size ≤ 140737488355328) {v' : Value} {w' : World}
    (hr : (Builtin.append_ #[t, u] ty #[v, .string s]).run P w = .ok v' w') : Placed w v v' := by
  have hsmall : n + s.size ≤ 9223372036854775807 := by simp only [maxLen] at h63; omega
  rcases hown.2 with ⟨rfl, rfl⟩ | ⟨g, cap, cur, fz, rfl, hbg, hg, hfz, hnc, hcm, hcs, htake⟩
  · by_cases hm : s.size = 0
    · simp [Builtin.append_, run_underlying ht, run_underlying hu, sizeOf, typeInfo, hi, Builtin.lenOf, Builtin.firstCells, hm] at hr
      rw [← hr.1]; exact .inl rfl
    · rw [run_append_nil_string (P := P) w t u ty e i _ ht hu hi hz s (by omega) (by omega) (by rw [hby]; omega)] at hr
      injection hr with hv _
      rw [← hv]; exact .inr rfl
  · by_cases hroom : n + s.size ≤ cap
    · have hfit : n + s.size ≤ cur.size := by omega
      rw [Lib.run_append_room_stringF (P := P) w t u ty e i ht hu hi hsize g n cap cur fz hg (by simpa using hfz) s hroom hfit] at hr
      injection hr with hv _
      rw [← hv]; exact .inl rfl
    · have holds : ∀ j u, xs[j]? = some u → w.cell? ((⟨g, 0, none⟩ : Addr).add j) = some u := hown.cells (g := g) rfl
      rw [Lib.run_append_grow_string (P := P) w t u ty e i _ ht hu hi hz ⟨g, 0, none⟩ n cap xs (by rw [hsize]; exact hown.1) holds s (by omega) (by omega) (growslice_fits (by omega) (by rw [hby]; omega))] at hr
      injection hr with hv _
      rw [← hv]; exact .inr rfl

theorem wpList_append_placed_stringF {ops : Array Oper} {rest : List Oper} {o : Oper} {a : Act} {Q : Exit → Act → World → Prop} (hgd : o.guard = none) (sl x : Operand) (t u : TypeId)
    (ho : o.op = .call { callee := .builtin .append, args := #[sl, x], argTypes := #[t, u] })
    (base : Nat) (e : TypeId) (i : TypeInfo) (ht : P.underlying t = some (.slice e)) (hu : P.underlying u = some .string) (hi : P.info? e = some i) (hz : i.zero = some (.int .u8 0))
    (hsize : i.size = 1) (hby : i.bytes = 1)
    (v : Value) (n : Nat) (xs : List Value) (hs : a.eval sl = v) (hown : w.ownsRowF base e 1 v n xs) (s : ByteArray) (hx : a.eval x = .string s)
    (h63 : n + s.size ≤ maxLen) (hbytes : n + s.size ≤ 140737488355328) (hbase : base ≤ w.heap.size)
    (h : ∀ v' w', w'.ownsRowF base e 1 v' (n + s.size) (xs ++ Lib.strCells s) → w.grownBy w' v.ownBlock → Placed w v v' → NilIff v v' s → wpList P ops Q rest (a.put o.dst v') w') : wpList P ops Q (o :: rest) a w :=
  wpList_plain hgd fun _ hK => by
    obtain ⟨v', w', hr, h2, h3, h4⟩ := Lib.run_append_own_stringF (P := P) w base t u o.type e i ht hu hi hz hsize hby v n xs hown s h63 hbytes hbase
    have hp := append_place_stringF w base t u o.type e i ht hu hi hz hsize hby v n xs hown s h63 hbytes hr
    unfold Oper.wp execOp
    simp only [ho, resolve, invoke, builtin, Sem.run_bind, Sem.run_pure, Result.andThen_ok, List.map_toArray, List.map_cons, List.map_nil, hs, hx, hr]
    exact hK _ _ (h v' w' h2 h3 hp h4)
end

set_option maxHeartbeats 1000000 in
theorem writeString_any (b : Nat) (p v n : Value) (l : List UInt8) (s : ByteArray) (w : World) (hb : w.heap[b]? = some (.cells #[p, v, n] 56 (0, 0))) (hp : p = .pointer none ∨ p = self b)
    (hown : Buf w v l) (hlen : l.length + s.size ≤ 140737488355328) :
    Calls Try.prog 28 #[.pointer (some ⟨b, 0, none⟩), .string s] w fun e w' => e = .returned (.tuple #[.int .i64 s.size, .nilIface]) ∧ ∃ v', w'.heap[b]? = some (.cells #[self b, v', n] 56 (0, 0)) ∧ Buf w' v' (l ++ s.data.toList) ∧
      Newer w v v' ∧ Keeps (fun k => k = b ∨ v.ownBlock = some k) w w' := by
  obtain ⟨i0, hi, hz0, hz1, hz2⟩ := infoByte'
  have hlt := heap_lt hb
  have hne : v.ownBlock ≠ some b := hown.ne hb (by decide)
  go_enter Try.func28, Try.ntmps28
  go_wp2_with (go_at_call 35; refine (copyCheck_any b p v n _ hb hp).mono ?_)
  rintro e w1 ⟨rfl, hb1, k1, _⟩
  have hsz1 := k1.size
  have c1 : w1.cell? ⟨b, 1, none⟩ = some v := by rw [Lib.cell_of_heap hb1]; rfl
  have ho1 : w1.ownsRowF 0 5 1 v l.length (Lib.byteCells l) := k1.ownsF hown.1 (fun k hk e => hne (by rw [hk, e]))
  go_wp2_with (at_builtin; refine wpList_append_placed_stringF _ rfl _ _ 52 9 rfl 0 5 i0 Try.underlying52 Try.underlying9 hi hz0 hz1 hz2 _ _ _ rfl ho1 s rfl ?c3 ?c4 ?c5 ?_)
  case c3 => unfold maxLen; omega
  case c4 => omega
  case c5 => omega
  intro v' w2 hown' hgrow hpl hiff
  have hb2 : w2.heap[b]? = some (.cells #[self b, v, n] 56 (0, 0)) := by
    rw [hgrow.block b (by omega) (fun e => hne e.symm)]
    exact hb1
  have d1 : w2.cell? ⟨b, 1, none⟩ = some v := by rw [Lib.cell_of_heap hb2]; rfl
  have f1 : w2.frozen? ⟨b, 1, none⟩ = false := Lib.frozen_of_heap hb2 1
  have Hi : Hid (l ++ s.data.toList = [] → v' = .slice none 0 0) := fun e => by
    rw [List.append_eq_nil_iff] at e
    refine hiff.2 ⟨hown.2 e.1, ?_⟩
    have := congrArg List.length e.2
    rw [Array.length_toList] at this
    exact this
  clear hiff
  obtain ⟨ao, n', cap, rfl⟩ : ∃ ao n' cap, v' = .slice ao n' cap := by
    rcases hown'.2 with ⟨hv, _⟩ | ⟨g, cap, cur, fz, hv, _⟩
    · exact ⟨_, _, _, hv⟩
    · exact ⟨_, _, _, hv⟩
  go_wp2
  go_ret2
  have hnew : Newer w v (.slice ao n' cap) := hpl.lift (w0 := w) (by omega)
  have hgb : (Value.slice ao n' cap).ownBlock ≠ some b := by
    rcases hpl with h | h
    · rw [h]; exact hne
    · rw [h]; simp; omega
  refine ⟨rfl, .slice ao n' cap, heap_setCell_at hb2 1 _, ⟨?_, Hi.out⟩, hnew, ?_⟩
  · have hk : Keeps (fun k => k = b) w2 (w2.setCell ⟨b, 1, none⟩ (.slice ao n' cap)) := (Keeps.refl (fun k => k = b) w2).setCell (p := ⟨b, 1, none⟩) (fun _ => rfl) _
    refine hk.ownsF (by simpa [Lib.byteCells_append, Lib.strCells_eq] using hown') (fun k hk' e => hgb (by rw [hk', e]))
  · have a1 : Keeps (fun k => k = b ∨ v.ownBlock = some k) w w1 := k1.mono (fun _ _ e => .inl e)
    exact (a1.grown hgrow (fun k hk _ => .inr hk)).setCell (p := ⟨b, 1, none⟩) (fun _ => .inl rfl) _

theorem Keeps.freeze {S : Nat → Prop} {a w : World} (h : Keeps S a w) {p : Addr} (hp : p.block < a.heap.size → S p.block) (n : Nat) : Keeps S a (w.freeze p n) := by
  refine h.then (S' := fun k => k = p.block) ?_ (fun _ hi e => by subst e; exact hp hi)
  have hb := Lib.below_freeze (Below.refl p.block w) (p := p) (Nat.le_refl _) n
  refine ⟨hb.os, hb.tape, hb.output, hb.size, fun k hk hn => ?_⟩
  simp only [World.freeze]
  split
  · rfl
  · simp only [Array.getElem?_modify]
    rw [if_neg (fun e => hn e.symm)]

theorem size_freeze (w : World) (p : Addr) (n : Nat) : (w.freeze p n).heap.size = w.heap.size := by
  simp only [World.freeze]
  split <;> simp

theorem Buf.froze {w : World} {g cap : Nat} {l : List UInt8} (h : Buf w (.slice (some ⟨g, 0, none⟩) l.length cap) l) : Buf (w.freeze ⟨g, 0, none⟩ l.length) (.slice (some ⟨g, 0, none⟩) l.length cap) l := by
  refine ⟨⟨h.1.1, ?_⟩, h.2⟩
  rcases h.1.2 with ⟨hv, _⟩ | ⟨g', cap', cur, fz, hv, hbg, hg, hfz, rest⟩
  · cases hv
  · injection hv with ha _ hcap
    injection ha with ha
    injection ha with hgg _ _
    subst hgg
    subst hcap
    unfold World.freeze
    split
    · exact .inr ⟨g, _, cur, fz, rfl, hbg, hg, hfz, rest⟩
    · obtain ⟨lo, hi⟩ := fz
      refine .inr ⟨g, _, cur, (if lo == hi then (0, 0 + l.length) else (min lo 0, max hi (0 + l.length))), rfl, hbg, ?_, ?_, rest⟩
      · simp [Array.getElem?_modify, hg]
      · simp only at hfz
        split <;> simp <;> omega

set_option maxHeartbeats 1000000 in
theorem string_some (b : Nat) (T : TypeId) (cs : Array Value) (v : Value) (l : List UInt8) (w : World) (hb : w.heap[b]? = some (.cells cs T (0, 0))) (hv : cs[1]? = some v) (hown : Buf w v l) (h0 : l ≠ []) :
    Calls Try.prog 23 #[.pointer (some ⟨b, 0, none⟩)] w fun e w' => e = .returned (.string ⟨l.toArray⟩) ∧ Keeps (fun k => v.ownBlock = some k) w w' ∧ Buf w' v l ∧ w'.heap.size = w.heap.size := by
  have hl0 : l.length ≠ 0 := by simpa using h0
  have hown0 := hown
  obtain ⟨g, cap, cur, fz, rfl, hbg, hg, hfz, hnc, hcm, hcs, htake⟩ : ∃ g cap cur fz, v = .slice (some ⟨g, 0, none⟩) l.length cap ∧ 0 ≤ g ∧ w.heap[g]? = some (.cells cur 5 fz) ∧ fz.2 ≤ l.length * 1 ∧ l.length ≤ cap ∧ cap ≤ maxLen ∧ cur.size = cap * 1 ∧ cur.toList.take (l.length * 1) = Lib.byteCells l := by
    rcases hown.1.2 with ⟨_, hz⟩ | ⟨g, cap, cur, fz, hv, r⟩
    · exact absurd hz hl0
    · exact ⟨g, cap, cur, fz, hv, r⟩
  have c1 : w.drew.cell? ⟨b, 1, none⟩ = some (.slice (some ⟨g, 0, none⟩) l.length cap) := by
    have : w.drew.heap[b]? = some (.cells cs T (0, 0)) := hb
    rw [Lib.cell_of_heap this]; exact hv
  have hSD : (Builtin.unsafeSliceData_ #[52] 73 #[.slice (some ⟨g, 0, none⟩) l.length cap]).run Try.prog w.drew = .ok (.pointer (some ⟨g, 0, none⟩)) w.drew :=
    Lib.run_unsafeSliceData_row _ _ _ _ _ _ (by omega)
  have hUS : (Builtin.unsafeString_ #[73, 3] 9 #[.pointer (some ⟨g, 0, none⟩), .int .i64 l.length]).run Try.prog w.drew = .ok (.string ⟨l.toArray⟩) (w.drew.freeze ⟨g, 0, none⟩ l.length) := by
    refine Lib.run_unsafeString_row w.drew 73 3 9 5 Try.underlying73 (by kernel_rfl) g cur.size (by have hg' : w.drew.heap[g]? = some (.cells cur 5 fz) := hg; simp [World.shape?, hg']) l h0 (by omega) (by unfold maxLen at hcm; omega) ?_
    intro j x hx
    have := hown.1.cells (g := g) rfl j (.int .u8 x.toNat) (by simp [Lib.byteCells, hx])
    exact this
  have HB : Hid (Buf w.drew (.slice (some ⟨g, 0, none⟩) l.length cap) l) := hown0
  clear hown hown0 htake hcs hb hv hfz hg
  go_enter Try.func23, Try.ntmps23
  go_wp2
  go_region
  all_goals (go_wp2; go_ret; exact ⟨rfl, Keeps.freeze (S := fun k => (Value.slice (some ⟨g, 0, none⟩) l.length cap).ownBlock = some k) (Keeps.drew (Keeps.refl _ w)) (p := ⟨g, 0, none⟩) (fun _ => rfl) _, HB.out.froze, size_freeze _ _ _⟩)

set_option maxHeartbeats 1000000 in
theorem string_none (b : Nat) (T : TypeId) (cs : Array Value) (w : World) (hb : w.heap[b]? = some (.cells cs T (0, 0))) (hv : cs[1]? = some (.slice none 0 0)) (S : Nat → Prop) :
    Calls Try.prog 23 #[.pointer (some ⟨b, 0, none⟩)] w fun e w' => e = .returned (.string ⟨#[]⟩) ∧ Keeps S w w' ∧ w'.heap.size = w.heap.size := by
  have hUS : ∀ (W : World) (q : Option Addr), (Builtin.unsafeString_ #[73, 3] 9 #[.pointer q, .int .i64 0]).run Try.prog W = .ok (.string .empty) W := fun W q => Lib.run_unsafeString_none W _ _ _ q
  have c1 : w.drew.cell? ⟨b, 1, none⟩ = some (.slice none 0 0) := by
    have : w.drew.heap[b]? = some (.cells cs T (0, 0)) := hb
    rw [Lib.cell_of_heap this]; exact hv
  have hSD : (Builtin.unsafeSliceData_ #[52] 73 #[.slice none 0 0]).run Try.prog w.drew = .ok (.pointer none) w.drew := rfl
  clear hb hv
  go_enter Try.func23, Try.ntmps23
  go_wp2
  go_region
  all_goals (go_wp2; go_ret; exact ⟨rfl, Keeps.drew (Keeps.refl S w), rfl⟩)

theorem string_any (b : Nat) (T : TypeId) (cs : Array Value) (v : Value) (l : List UInt8) (w : World) (hb : w.heap[b]? = some (.cells cs T (0, 0))) (hv : cs[1]? = some v) (hown : Buf w v l) :
    Calls Try.prog 23 #[.pointer (some ⟨b, 0, none⟩)] w fun e w' => e = .returned (.string ⟨l.toArray⟩) ∧ Keeps (fun k => v.ownBlock = some k) w w' ∧ Buf w' v l ∧ w'.heap.size = w.heap.size := by
  by_cases h0 : l = []
  · subst h0
    obtain rfl := hown.2 rfl
    refine (string_none b T cs w hb hv (fun k => (Value.slice none 0 0).ownBlock = some k)).mono ?_
    rintro e w' ⟨rfl, h1, h2⟩
    exact ⟨rfl, h1, Buf.nil _, h2⟩
  · exact string_some b T cs v l w hb hv hown h0

set_option maxHeartbeats 1000000 in
theorem len_any (b : Nat) (T : TypeId) (cs : Array Value) (v : Value) (l : List UInt8) (w : World) (hb : w.heap[b]? = some (.cells cs T (0, 0))) (hv : cs[1]? = some v) (hown : Buf w v l) :
    Calls Try.prog 29 #[.pointer (some ⟨b, 0, none⟩)] w fun e w' => e = .returned (.int .i64 l.length) ∧ w' = w := by
  have c1 : w.cell? ⟨b, 1, none⟩ = some v := by rw [Lib.cell_of_heap hb]; exact hv
  obtain ⟨a, cap, rfl⟩ : ∃ a cap, v = .slice a l.length cap := by
    rcases hown.1.2 with ⟨rfl, h⟩ | ⟨g, cap, cur, fz, rfl, _⟩
    · exact ⟨none, 0, by rw [h]⟩
    · exact ⟨_, _, rfl⟩
  clear hb hv hown
  go_enter Try.func29, Try.ntmps29
  go_wp2
  go_ret
  exact ⟨rfl, rfl⟩

end Go.Proofs.Ytegbkpjcjlihmab
