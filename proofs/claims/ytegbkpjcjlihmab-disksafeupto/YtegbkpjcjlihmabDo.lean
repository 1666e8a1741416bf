/-
  do: a change is made, and kept. toWrite: the file that a call is for.
-/
import Derived.Test.YtegbkpjcjlihmabOpb
namespace Go.Proofs.Ytegbkpjcjlihmab
open Go.RowKit Go.Maps

section
variable {w : World} {A : Nat → Prop} {d : Nat} {σ : Dk} {mn ms : Nat} {cv : Value} {vals : List Value} {bv : Nat → Value} {K : List Text}

set_option maxHeartbeats 2000000 in
theorem do_create (h : Inner w A d K.length σ mn ms cv vals bv) {p q : Nat} {c : Chg} (hv : Caught w (.func (.func 26) #[] #[ptr p, ptr q]) c 26 #[ptr p, ptr q]) (hc : ChgAt w A (.func (.func 26) #[] #[ptr p, ptr q]) c)
    (hK : ∀ s, (c.app σ.now s).isSome = true → s ∈ K) (hKl : K.length ≤ 1099511627776) (hC : σ.chs.length ≤ 1099511627776) :
    Calls Try.prog 25 #[ptr d, .func (.func 26) #[] #[ptr p, ptr q]] w fun e w' => e = .returned (.tuple #[]) ∧ (∃ cv' vals', Inner w' (ext A w w') d K.length (σ.did c) mn ms cv' vals' bv) ∧ Keeps A w w' := by
  obtain ⟨i0, z0, hi, hz0, hz1, hz2, hz3⟩ := info67'
  have hlen : vals.length ≤ 1099511627776 := by rw [h.len]; exact hC
  have c0 := h.cell0
  have c2 := h.cell2
  have f2 := h.frozen 2
  have hca := hv.2 mn K.length σ.now h.now (by unfold maxLen; omega)
  have H : Hid (Inner w A d K.length σ mn ms cv vals bv) := h
  have HC : Hid (ChgAt w A (.func (.func 26) #[] #[ptr p, ptr q]) c) := hc
  have hrow := h.row
  clear h hc hv
  unfold ptr at *
  go_enter Try.func25, Try.ntmps25
  go_wp2_with fail
  refine hca.mono ?_
  rintro e w1 ⟨rfl, hm, k1, hs0⟩
  clear hs0
  have hs1 := k1.size
  have hm' : MapAt w1 mn K.length (c.app σ.now) := hm.within hK
  have h1 := H.out.setNow hm' k1
  have d2 : w1.cell? ⟨d, 2, none⟩ = some cv := h1.cell2
  have ho1 : w1.ownsRow 0 67 1 cv vals.length vals := h1.row
  have hcv : cv.ownBlock ≠ some d := fun e => ne_of_tag (h1.tagR e) h1.tagD (by decide) rfl
  have hb1 : Hid (w1.heap[d]? = some (.cells (headOf mn ms cv σ.left) 46 (0, 0))) := h1.head
  have H1 : Hid (Inner w1 A d K.length { σ with now := c.app σ.now } mn ms cv vals bv) := h1
  clear h1 c0 c2 f2 hrow hca hm
  go_wp2_with (at_builtin; refine wpList_append_placed _ rfl _ _ 44 rfl 0 67 i0 z0 1 8 Try.underlying44 hi hz0 hz2 hz3 hz1 (by decide) _ _ _ rfl (ho1.alloc _) ⟨w1.heap.size, 0, none⟩ 1 1 [.func (.func 26) #[] #[.pointer (some ⟨p, 0, none⟩), .pointer (some ⟨q, 0, none⟩)]] rfl rfl ?c1 ?c2 ?c3 ?c4 ?c5 ?_)
  case c1 =>
    intro j u hj
    match j, hj with
    | 0, hj => simp at hj; subst hj; simp [Addr.add]
  case c2 => intro u hu; simp at hu; subst hu; rfl
  case c3 => unfold maxLen; omega
  case c4 => omega
  case c5 => omega
  intro cv' w2 hown' hgrow hpl
  have hlt := heap_lt hb1.out
  have hb2 : w2.heap[d]? = some (.cells (headOf mn ms cv σ.left) 46 (0, 0)) := by
    rw [hgrow.block d (by simp; omega) (fun e => hcv e.symm), Lib.alloc_old w1 _ d (by omega)]
    exact hb1.out
  have e2 : w2.cell? ⟨d, 2, none⟩ = some cv := by rw [Lib.cell_of_heap hb2]; rfl
  have f2 : w2.frozen? ⟨d, 2, none⟩ = false := Lib.frozen_of_heap hb2 2
  obtain ⟨ao, n', cap, rfl⟩ : ∃ ao n' cap, cv' = .slice ao n' cap := by
    rcases hown'.2 with ⟨hv, _⟩ | ⟨g, cap, cur, hv, _⟩
    · exact ⟨_, _, _, hv⟩
    · exact ⟨_, _, _, hv⟩
  go_wp2
  go_end0
  have hsz := hgrow.size
  have ha : (w1.alloc (.cells #[.func (.func 26) #[] #[.pointer (some ⟨p, 0, none⟩), .pointer (some ⟨q, 0, none⟩)]] 67)).heap.size = w1.heap.size + 1 := by simp
  have k2 : Keeps (fun i => cv.ownBlock = some i) w1 w2 := ((Keeps.refl (fun i => cv.ownBlock = some i) w1).alloc _).grown hgrow (fun k hk _ => hk)
  have hnew : ∀ k, (Value.slice ao n' cap).ownBlock = some k → cv.ownBlock = some k ∨ (w.heap.size ≤ k ∧ k < w2.heap.size) := by
    intro k hk
    have hl := hown'.lt k hk
    rcases hpl with h' | h'
    · exact .inl (by rw [← h']; exact hk)
    · rw [h'] at hk
      simp only [Option.some.injEq] at hk
      exact .inr ⟨by omega, hl.2⟩
  have hfin := H.out.didRow HC.out hm' k1 k2 hown' hnew
  have es : (w2.setCell ⟨d, 2, none⟩ (.slice ao n' cap)).heap.size = w2.heap.size := by simp [World.setCell]
  have : ext A w (w2.setCell ⟨d, 2, none⟩ (.slice ao n' cap)) = ext A w w2 := by unfold ext; rw [es]
  rw [this]
  exact ⟨rfl, ⟨_, _, hfin.1⟩, hfin.2⟩

set_option maxHeartbeats 2000000 in
theorem do_rename (h : Inner w A d K.length σ mn ms cv vals bv) {p q r : Nat} {c : Chg} (hv : Caught w (.func (.func 30) #[] #[ptr p, ptr q, ptr r]) c 30 #[ptr p, ptr q, ptr r]) (hc : ChgAt w A (.func (.func 30) #[] #[ptr p, ptr q, ptr r]) c)
    (hK : ∀ s, (c.app σ.now s).isSome = true → s ∈ K) (hKl : K.length ≤ 1099511627776) (hC : σ.chs.length ≤ 1099511627776) :
    Calls Try.prog 25 #[ptr d, .func (.func 30) #[] #[ptr p, ptr q, ptr r]] w fun e w' => e = .returned (.tuple #[]) ∧ (∃ cv' vals', Inner w' (ext A w w') d K.length (σ.did c) mn ms cv' vals' bv) ∧ Keeps A w w' := by
  obtain ⟨i0, z0, hi, hz0, hz1, hz2, hz3⟩ := info67'
  have hlen : vals.length ≤ 1099511627776 := by rw [h.len]; exact hC
  have c0 := h.cell0
  have c2 := h.cell2
  have f2 := h.frozen 2
  have hca := hv.2 mn K.length σ.now h.now (by unfold maxLen; omega)
  have H : Hid (Inner w A d K.length σ mn ms cv vals bv) := h
  have HC : Hid (ChgAt w A (.func (.func 30) #[] #[ptr p, ptr q, ptr r]) c) := hc
  have hrow := h.row
  clear h hc hv
  unfold ptr at *
  go_enter Try.func25, Try.ntmps25
  go_wp2_with fail
  refine hca.mono ?_
  rintro e w1 ⟨rfl, hm, k1, hs0⟩
  clear hs0
  have hs1 := k1.size
  have hm' : MapAt w1 mn K.length (c.app σ.now) := hm.within hK
  have h1 := H.out.setNow hm' k1
  have d2 : w1.cell? ⟨d, 2, none⟩ = some cv := h1.cell2
  have ho1 : w1.ownsRow 0 67 1 cv vals.length vals := h1.row
  have hcv : cv.ownBlock ≠ some d := fun e => ne_of_tag (h1.tagR e) h1.tagD (by decide) rfl
  have hb1 : Hid (w1.heap[d]? = some (.cells (headOf mn ms cv σ.left) 46 (0, 0))) := h1.head
  have H1 : Hid (Inner w1 A d K.length { σ with now := c.app σ.now } mn ms cv vals bv) := h1
  clear h1 c0 c2 f2 hrow hca hm
  go_wp2_with (at_builtin; refine wpList_append_placed _ rfl _ _ 44 rfl 0 67 i0 z0 1 8 Try.underlying44 hi hz0 hz2 hz3 hz1 (by decide) _ _ _ rfl (ho1.alloc _) ⟨w1.heap.size, 0, none⟩ 1 1 [.func (.func 30) #[] #[.pointer (some ⟨p, 0, none⟩), .pointer (some ⟨q, 0, none⟩), .pointer (some ⟨r, 0, none⟩)]] rfl rfl ?c1 ?c2 ?c3 ?c4 ?c5 ?_)
  case c1 =>
    intro j u hj
    match j, hj with
    | 0, hj => simp at hj; subst hj; simp [Addr.add]
  case c2 => intro u hu; simp at hu; subst hu; rfl
  case c3 => unfold maxLen; omega
  case c4 => omega
  case c5 => omega
  intro cv' w2 hown' hgrow hpl
  have hlt := heap_lt hb1.out
  have hb2 : w2.heap[d]? = some (.cells (headOf mn ms cv σ.left) 46 (0, 0)) := by
    rw [hgrow.block d (by simp; omega) (fun e => hcv e.symm), Lib.alloc_old w1 _ d (by omega)]
    exact hb1.out
  have e2 : w2.cell? ⟨d, 2, none⟩ = some cv := by rw [Lib.cell_of_heap hb2]; rfl
  have f2 : w2.frozen? ⟨d, 2, none⟩ = false := Lib.frozen_of_heap hb2 2
  obtain ⟨ao, n', cap, rfl⟩ : ∃ ao n' cap, cv' = .slice ao n' cap := by
    rcases hown'.2 with ⟨hv, _⟩ | ⟨g, cap, cur, hv, _⟩
    · exact ⟨_, _, _, hv⟩
    · exact ⟨_, _, _, hv⟩
  go_wp2
  go_end0
  have hsz := hgrow.size
  have ha : (w1.alloc (.cells #[.func (.func 30) #[] #[.pointer (some ⟨p, 0, none⟩), .pointer (some ⟨q, 0, none⟩), .pointer (some ⟨r, 0, none⟩)]] 67)).heap.size = w1.heap.size + 1 := by simp
  have k2 : Keeps (fun i => cv.ownBlock = some i) w1 w2 := ((Keeps.refl (fun i => cv.ownBlock = some i) w1).alloc _).grown hgrow (fun k hk _ => hk)
  have hnew : ∀ k, (Value.slice ao n' cap).ownBlock = some k → cv.ownBlock = some k ∨ (w.heap.size ≤ k ∧ k < w2.heap.size) := by
    intro k hk
    have hl := hown'.lt k hk
    rcases hpl with h' | h'
    · exact .inl (by rw [← h']; exact hk)
    · rw [h'] at hk
      simp only [Option.some.injEq] at hk
      exact .inr ⟨by omega, hl.2⟩
  have hfin := H.out.didRow HC.out hm' k1 k2 hown' hnew
  have es : (w2.setCell ⟨d, 2, none⟩ (.slice ao n' cap)).heap.size = w2.heap.size := by simp [World.setCell]
  have : ext A w (w2.setCell ⟨d, 2, none⟩ (.slice ao n' cap)) = ext A w w2 := by unfold ext; rw [es]
  rw [this]
  exact ⟨rfl, ⟨_, _, hfin.1⟩, hfin.2⟩

set_option maxHeartbeats 2000000 in
theorem do_remove (h : Inner w A d K.length σ mn ms cv vals bv) {p : Nat} {c : Chg} (hv : Caught w (.func (.func 31) #[] #[ptr p]) c 31 #[ptr p]) (hc : ChgAt w A (.func (.func 31) #[] #[ptr p]) c)
    (hK : ∀ s, (c.app σ.now s).isSome = true → s ∈ K) (hKl : K.length ≤ 1099511627776) (hC : σ.chs.length ≤ 1099511627776) :
    Calls Try.prog 25 #[ptr d, .func (.func 31) #[] #[ptr p]] w fun e w' => e = .returned (.tuple #[]) ∧ (∃ cv' vals', Inner w' (ext A w w') d K.length (σ.did c) mn ms cv' vals' bv) ∧ Keeps A w w' := by
  obtain ⟨i0, z0, hi, hz0, hz1, hz2, hz3⟩ := info67'
  have hlen : vals.length ≤ 1099511627776 := by rw [h.len]; exact hC
  have c0 := h.cell0
  have c2 := h.cell2
  have f2 := h.frozen 2
  have hca := hv.2 mn K.length σ.now h.now (by unfold maxLen; omega)
  have H : Hid (Inner w A d K.length σ mn ms cv vals bv) := h
  have HC : Hid (ChgAt w A (.func (.func 31) #[] #[ptr p]) c) := hc
  have hrow := h.row
  clear h hc hv
  unfold ptr at *
  go_enter Try.func25, Try.ntmps25
  go_wp2_with fail
  refine hca.mono ?_
  rintro e w1 ⟨rfl, hm, k1, hs0⟩
  clear hs0
  have hs1 := k1.size
  have hm' : MapAt w1 mn K.length (c.app σ.now) := hm.within hK
  have h1 := H.out.setNow hm' k1
  have d2 : w1.cell? ⟨d, 2, none⟩ = some cv := h1.cell2
  have ho1 : w1.ownsRow 0 67 1 cv vals.length vals := h1.row
  have hcv : cv.ownBlock ≠ some d := fun e => ne_of_tag (h1.tagR e) h1.tagD (by decide) rfl
  have hb1 : Hid (w1.heap[d]? = some (.cells (headOf mn ms cv σ.left) 46 (0, 0))) := h1.head
  have H1 : Hid (Inner w1 A d K.length { σ with now := c.app σ.now } mn ms cv vals bv) := h1
  clear h1 c0 c2 f2 hrow hca hm
  go_wp2_with (at_builtin; refine wpList_append_placed _ rfl _ _ 44 rfl 0 67 i0 z0 1 8 Try.underlying44 hi hz0 hz2 hz3 hz1 (by decide) _ _ _ rfl (ho1.alloc _) ⟨w1.heap.size, 0, none⟩ 1 1 [.func (.func 31) #[] #[.pointer (some ⟨p, 0, none⟩)]] rfl rfl ?c1 ?c2 ?c3 ?c4 ?c5 ?_)
  case c1 =>
    intro j u hj
    match j, hj with
    | 0, hj => simp at hj; subst hj; simp [Addr.add]
  case c2 => intro u hu; simp at hu; subst hu; rfl
  case c3 => unfold maxLen; omega
  case c4 => omega
  case c5 => omega
  intro cv' w2 hown' hgrow hpl
  have hlt := heap_lt hb1.out
  have hb2 : w2.heap[d]? = some (.cells (headOf mn ms cv σ.left) 46 (0, 0)) := by
    rw [hgrow.block d (by simp; omega) (fun e => hcv e.symm), Lib.alloc_old w1 _ d (by omega)]
    exact hb1.out
  have e2 : w2.cell? ⟨d, 2, none⟩ = some cv := by rw [Lib.cell_of_heap hb2]; rfl
  have f2 : w2.frozen? ⟨d, 2, none⟩ = false := Lib.frozen_of_heap hb2 2
  obtain ⟨ao, n', cap, rfl⟩ : ∃ ao n' cap, cv' = .slice ao n' cap := by
    rcases hown'.2 with ⟨hv, _⟩ | ⟨g, cap, cur, hv, _⟩
    · exact ⟨_, _, _, hv⟩
    · exact ⟨_, _, _, hv⟩
  go_wp2
  go_end0
  have hsz := hgrow.size
  have ha : (w1.alloc (.cells #[.func (.func 31) #[] #[.pointer (some ⟨p, 0, none⟩)]] 67)).heap.size = w1.heap.size + 1 := by simp
  have k2 : Keeps (fun i => cv.ownBlock = some i) w1 w2 := ((Keeps.refl (fun i => cv.ownBlock = some i) w1).alloc _).grown hgrow (fun k hk _ => hk)
  have hnew : ∀ k, (Value.slice ao n' cap).ownBlock = some k → cv.ownBlock = some k ∨ (w.heap.size ≤ k ∧ k < w2.heap.size) := by
    intro k hk
    have hl := hown'.lt k hk
    rcases hpl with h' | h'
    · exact .inl (by rw [← h']; exact hk)
    · rw [h'] at hk
      simp only [Option.some.injEq] at hk
      exact .inr ⟨by omega, hl.2⟩
  have hfin := H.out.didRow HC.out hm' k1 k2 hown' hnew
  have es : (w2.setCell ⟨d, 2, none⟩ (.slice ao n' cap)).heap.size = w2.heap.size := by simp [World.setCell]
  have : ext A w (w2.setCell ⟨d, 2, none⟩ (.slice ao n' cap)) = ext A w w2 := by unfold ext; rw [es]
  rw [this]
  exact ⟨rfl, ⟨_, _, hfin.1⟩, hfin.2⟩

/-- a change is made -/
theorem do_any (h : Inner w A d K.length σ mn ms cv vals bv) {v : Value} {c : Chg} (hc : ChgAt w A v c)
    (hK : ∀ s, (c.app σ.now s).isSome = true → s ∈ K) (hKl : K.length ≤ 1099511627776) (hC : σ.chs.length ≤ 1099511627776) :
    Calls Try.prog 25 #[ptr d, v] w fun e w' => e = .returned (.tuple #[]) ∧ (∃ cv' vals', Inner w' (ext A w w') d K.length (σ.did c) mn ms cv' vals' bv) ∧ Keeps A w w' := by
  rcases c with ⟨s, x⟩ | ⟨a, b, x⟩ | s
  · obtain ⟨p, q, rfl, hv⟩ := ChgAt.create hc; exact do_create h ⟨rfl, hv⟩ hc hK hKl hC
  · obtain ⟨p, q, r, rfl, hv⟩ := ChgAt.rename hc; exact do_rename h ⟨rfl, hv⟩ hc hK hKl hC
  · obtain ⟨q, rfl, hv⟩ := ChgAt.remove hc; exact do_remove h ⟨rfl, hv⟩ hc hK hKl hC
end
end Go.Proofs.Ytegbkpjcjlihmab
