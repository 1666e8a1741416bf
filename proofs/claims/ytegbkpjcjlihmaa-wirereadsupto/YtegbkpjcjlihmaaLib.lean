/-
  strings.Builder at this dump, in a block of its own (type 60) or as the first field of a line (type 62).
-/
import Derived.Test.YtegbkpjcjlihmaaProg
import Derived.Test.YtegbkpjcjlihmaaFrame
import Derived.Lib.UnsafeStr
import Derived.Lib.Walk
import Derived.Lib.Strings
import Derived.RegionTactic
namespace Go.Proofs.Ytegbkpjcjlihmaa
open Go.RowKit

/-- a block in which a builder lies first -/
def BType (T : TypeId) (cs : Array Value) : Prop := (T = 60 ∧ cs.size = 2) ∨ (T = 62 ∧ cs.size = 4)

theorem lies48 : liesAt Try.prog Try.prog.depth 60 (2 / Try.prog.cellsOf 60) 0 60 1 = true := by kernel_rfl
theorem lies50 : liesAt Try.prog Try.prog.depth 62 (4 / Try.prog.cellsOf 62) 0 60 1 = true := by kernel_rfl

theorem btype_lies {T : TypeId} {cs : Array Value} (h : BType T cs) : liesAt Try.prog Try.prog.depth T (cs.size / Try.prog.cellsOf T) 0 60 1 = true := by
  rcases h with ⟨rfl, hs⟩ | ⟨rfl, hs⟩ <;> rw [hs]
  · exact lies48
  · exact lies50

theorem btype_set {T : TypeId} {cs : Array Value} (h : BType T cs) (i : Nat) (v : Value) : BType T (cs.setIfInBounds i v) := by
  rcases h with ⟨rfl, hs⟩ | ⟨rfl, hs⟩
  · exact .inl ⟨rfl, by simpa using hs⟩
  · exact .inr ⟨rfl, by simpa using hs⟩

theorem btype_two {T : TypeId} {cs : Array Value} (h : BType T cs) : 2 ≤ cs.size := by
  rcases h with ⟨_, hs⟩ | ⟨_, hs⟩ <;> omega

theorem sizeB : (Try.prog.info? 60).map (fun i => i.size) = some 2 := by kernel_rfl

set_option maxRecDepth 20000 in
set_option maxHeartbeats 400000 in
theorem copyCheck_used (b : Nat) (w : World) (h0 : w.cell? ⟨b, 0, none⟩ = some (.pointer (some ⟨b, 0, none⟩))) :
    Calls Try.prog 60 #[.pointer (some ⟨b, 0, none⟩)] w fun e w' => e = .returned (.tuple #[]) ∧ w' = w := by
  obtain ⟨j, hj, _⟩ := Option.map_eq_some_iff.1 sizeB
  go_enter Try.func60, Try.ntmps60
  go_wp2
  rw [Lib.run_neq_ptr_same w _ Try.underlying57 hj]
  go_wp2
  go_end0
  exact ⟨rfl, rfl⟩

set_option maxRecDepth 20000 in
set_option maxHeartbeats 400000 in
theorem copyCheck_fresh (b T n : Nat) (w : World) (h0 : w.cell? ⟨b, 0, none⟩ = some (.pointer none)) (hsh : w.shape? b = some (T, n)) (h2 : 0 < n) (hl : liesAt Try.prog Try.prog.depth T (n / Try.prog.cellsOf T) 0 60 1 = true) (hfz : w.frozen? ⟨b, 0, none⟩ = false) :
    Calls Try.prog 60 #[.pointer (some ⟨b, 0, none⟩)] w fun e w' => e = .returned (.tuple #[]) ∧ w' = w.setCell ⟨b, 0, none⟩ (.pointer (some ⟨b, 0, none⟩)) := by
  obtain ⟨j, hj, hjs⟩ := Option.map_eq_some_iff.1 sizeB
  go_enter Try.func60, Try.ntmps60
  go_wp2
  rw [Lib.run_to_unsafe w ⟨b, 0, none⟩ Try.underlying57 Try.underlying118 hj (by rw [hjs]; decide) hsh h2]
  simp only [Result.andThen]
  rw [Oper.upon_value]
  go_wp2
  rw [run_callFunc_extern Try.func83 (by kernel_rfl) (by kernel_rfl) (by kernel_rfl) (e := Extern.AbiNoEscape.same) (by kernel_rfl)]
  rw [Lib.run_noEscape]
  simp only [Result.andThen]
  rw [Oper.upon_value]
  go_wp2
  rw [Lib.run_from_unsafe w ⟨b, 0, none⟩ Try.underlying118 Try.underlying57 hj hsh hl]
  simp only [Result.andThen]
  rw [Oper.upon_value]
  go_wp2
  go_end0
  exact ⟨rfl, rfl⟩

theorem heap_setCell_at {w : World} {b : Nat} {cs : Array Value} {T : TypeId} {fr : Nat × Nat} (hb : w.heap[b]? = some (.cells cs T fr)) (i : Nat) (v : Value) :
    (w.setCell ⟨b, i, none⟩ v).heap[b]? = some (.cells (cs.setIfInBounds i v) T fr) := by
  simp [World.setCell, Array.getElem?_modify, hb]

/-- 'addr' -/
def self (b : Nat) : Value := .pointer (some ⟨b, 0, none⟩)

theorem copyCheck_any (b : Nat) (T : TypeId) (cs : Array Value) (w : World) (hT : BType T cs) (hb : w.heap[b]? = some (.cells cs T (0, 0))) (hp : cs[0]? = some (.pointer none) ∨ cs[0]? = some (self b)) :
    Calls Try.prog 60 #[.pointer (some ⟨b, 0, none⟩)] w fun e w' => e = .returned (.tuple #[]) ∧ (w'.heap[b]? = some (.cells (cs.setIfInBounds 0 (self b)) T (0, 0)) ∧ Keeps (fun k => k = b) w w') := by
  have h2 := btype_two hT
  rcases hp with hp | hp
  · refine (copyCheck_fresh b T cs.size w (by rw [Lib.cell_of_heap hb]; exact hp) (by simp [World.shape?, hb]) (by omega) (btype_lies hT) (Lib.frozen_of_heap hb 0)).mono ?_
    rintro e w' ⟨rfl, rfl⟩
    exact ⟨rfl, heap_setCell_at hb 0 _, (Keeps.refl (fun k => k = b) w).setCell (p := ⟨b, 0, none⟩) (fun _ => rfl) _⟩
  · refine (copyCheck_used b w (by rw [Lib.cell_of_heap hb]; exact hp)).mono ?_
    rintro e w' ⟨rfl, rfl⟩
    refine ⟨rfl, ?_, Keeps.refl _ _⟩
    rw [hb]
    congr 2
    apply Array.ext_getElem?
    intro i
    rw [Array.getElem?_setIfInBounds]
    split
    · rename_i h; subst h; rw [hp, if_pos (by omega)]
    · rfl

theorem infoByte : (Try.prog.info? 5).map (fun i => (i.zero, i.size, i.bytes)) = some (some (.int .u8 0), 1, 1) := by kernel_rfl
theorem infoByte' : ∃ i, Try.prog.info? 5 = some i ∧ i.zero = some (.int .u8 0) ∧ i.size = 1 ∧ i.bytes = 1 := by
  obtain ⟨i, hi, h⟩ := Option.map_eq_some_iff.1 infoByte
  simp only [Prod.mk.injEq] at h
  exact ⟨i, hi, h.1, h.2.1, h.2.2⟩

/-- a buffer that holds l -/
def Buf (w : World) (base : Nat) (v : Value) (l : List UInt8) : Prop := w.ownsRow base 5 1 v l.length (Lib.byteCells l) ∧ (l = [] → v = .slice none 0 0)

theorem Buf.nil (w : World) (base : Nat) : Buf w base (.slice none 0 0) [] := ⟨World.ownsRow_nil _ _ _ _, fun _ => rfl⟩

theorem Keeps.buf {S : Nat → Prop} {w w' : World} (h : Keeps S w w') {base : Nat} {v : Value} {l : List UInt8} (hb : Buf w base v l) (hn : ∀ k, v.ownBlock = some k → ¬ S k) : Buf w' base v l := ⟨h.owns hb.1 hn, hb.2⟩

/-- where a new buffer lies, seen from an elder world -/
theorem Placed.lift {w0 w : World} {v v' : Value} (h : Placed w v v') (hs : w0.heap.size ≤ w.heap.size) : ∀ k, v'.ownBlock = some k → v.ownBlock = some k ∨ w0.heap.size ≤ k := by
  intro k hk
  rcases h with h | h
  · exact .inl (by rw [← h]; exact hk)
  · rw [h] at hk
    simp only [Option.some.injEq] at hk
    exact .inr (by omega)

/-- the value's block is the old one, or one that is new since w -/
def Newer (w : World) (v v' : Value) : Prop := ∀ k, v'.ownBlock = some k → v.ownBlock = some k ∨ w.heap.size ≤ k

set_option maxRecDepth 20000 in
set_option maxHeartbeats 1000000 in
theorem writeByte_any (B b : Nat) (T : TypeId) (cs : Array Value) (v : Value) (l : List UInt8) (c : UInt8) (w : World) (hT : BType T cs) (hb : w.heap[b]? = some (.cells cs T (0, 0))) (hp : cs[0]? = some (.pointer none) ∨ cs[0]? = some (self b)) (hv : cs[1]? = some v)
    (hown : Buf w B v l) (hne : v.ownBlock ≠ some b) (hlen : l.length + 1 ≤ 140737488355328) (hB : B ≤ w.heap.size) :
    Calls Try.prog 81 #[.pointer (some ⟨b, 0, none⟩), .int .u8 c.toNat] w fun e w' => e = .returned .nilIface ∧ ∃ v', w'.heap[b]? = some (.cells ((cs.setIfInBounds 0 (self b)).setIfInBounds 1 v') T (0, 0)) ∧ Buf w' B v' (l ++ [c]) ∧ v'.ownBlock ≠ some b ∧
      Newer w v v' ∧ Keeps (fun k => k = b ∨ v.ownBlock = some k) w w' := by
  obtain ⟨i0, hi, hz0, hz1, hz2⟩ := infoByte'
  have h2 := btype_two hT
  have hlt := heap_lt hb
  go_enter Try.func81, Try.ntmps81
  go_wp2_with (go_at_call 60; refine (copyCheck_any b T cs _ hT hb hp).mono ?_)
  rintro e w1 ⟨rfl, hb1, k1⟩
  have hsz1 := k1.size
  have c1 : w1.cell? ⟨b, 1, none⟩ = some v := by rw [Lib.cell_of_heap hb1]; simpa [Array.getElem?_setIfInBounds] using hv
  have ho1 : w1.ownsRow B 5 1 v l.length (Lib.byteCells l) := k1.owns hown.1 (fun k hk e => hne (by rw [hk, e]))
  go_wp2_with (at_builtin; refine wpList_append_placed _ rfl _ _ 58 rfl B 5 i0 (.int .u8 0) 1 1 Try.underlying58 hi hz0 hz1 hz2 rfl (by decide) _ _ _ rfl (ho1.alloc _) ⟨w1.heap.size, 0, none⟩ 1 1 [.int .u8 c.toNat] rfl rfl ?c1 ?c2 ?c3 ?c4 ?c5 ?_)
  case c1 =>
    intro j u hj
    match j, hj with
    | 0, hj => simp at hj; subst hj; simp [Addr.add]
  case c2 => intro u hu; simp at hu; subst hu; rfl
  case c3 => unfold maxLen; omega
  case c4 => omega
  case c5 => simp; omega
  intro v' w2 hown' hgrow hpl
  have hb2 : w2.heap[b]? = some (.cells (cs.setIfInBounds 0 (self b)) T (0, 0)) := by
    rw [hgrow.block b (by simp; omega) (fun e => hne e.symm), Lib.alloc_old w1 _ b (by omega)]
    exact hb1
  have d1 : w2.cell? ⟨b, 1, none⟩ = some v := by rw [Lib.cell_of_heap hb2]; simpa [Array.getElem?_setIfInBounds] using hv
  have f1 : w2.frozen? ⟨b, 1, none⟩ = false := Lib.frozen_of_heap hb2 1
  obtain ⟨g, cap, rfl⟩ : ∃ g cap, v' = .slice (some ⟨g, 0, none⟩) (l.length + 1) cap := by
    rcases hown'.2 with ⟨_, h0⟩ | ⟨g, cap, cur, hv, _⟩
    · omega
    · exact ⟨g, cap, hv⟩
  go_wp2
  go_ret
  have hnew : Newer w v (.slice (some ⟨g, 0, none⟩) (l.length + 1) cap) := by
    have := hpl.lift (w0 := w) (by simp; omega)
    exact this
  have hgb : g ≠ b := by
    rcases hpl with h | h
    · intro e; exact hne (by rw [← h]; simp [Value.ownBlock, e])
    · simp [Value.ownBlock] at h; omega
  refine ⟨rfl, .slice (some ⟨g, 0, none⟩) (l.length + 1) cap, heap_setCell_at hb2 1 _, ⟨?_, by simp⟩, by simpa [Value.ownBlock] using hgb, hnew, ?_⟩
  · have hk : Keeps (fun k => k = b) w2 (w2.setCell ⟨b, 1, none⟩ (.slice (some ⟨g, 0, none⟩) (l.length + 1) cap)) := (Keeps.refl (fun k => k = b) w2).setCell (p := ⟨b, 1, none⟩) (fun _ => rfl) _
    refine hk.owns (by simpa [Lib.byteCells_append, Lib.byteCells] using hown') (fun k hk' e => hgb (by simp [Value.ownBlock] at hk'; omega))
  · have a1 : Keeps (fun k => k = b ∨ v.ownBlock = some k) w w1 := k1.mono (fun _ _ e => .inl e)
    exact ((a1.alloc _).grown hgrow (fun k hk _ => .inr hk)).setCell (p := ⟨b, 1, none⟩) (fun _ => .inl rfl) _

end Go.Proofs.Ytegbkpjcjlihmaa
