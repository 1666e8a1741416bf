/-
  The reference disk: Names, SyncDir, Append, Sync.
-/
import Derived.Test.YtegbkpjcjlihmaaRe
import Derived.Test.YtegbkpjcjlihmaaKeys
namespace Go.Proofs.Ytegbkpjcjlihmaa
open Go.RowKit Go.Maps

theorem info9 : (Try.prog.info? 9).map (fun i => (i.zero.map (fun z => z.cells.size), i.size, i.bytes)) = some (some 1, 1, 16) := by kernel_rfl
theorem info9' : ∃ i z, Try.prog.info? 9 = some i ∧ i.zero = some z ∧ z.cells.size = 1 ∧ i.size = 1 ∧ i.bytes = 16 := by
  obtain ⟨i, hi, h⟩ := Option.map_eq_some_iff.1 info9
  simp only [Prod.mk.injEq] at h
  obtain ⟨z, hz, h1⟩ := Option.map_eq_some_iff.1 h.1
  exact ⟨i, z, hi, hz, h1, h.2.1, h.2.2⟩

/-- one cell of a row is set -/
theorem owns_set {w : World} {base g n cap size : Nat} {e : TypeId} {xs : List Value} (h : w.ownsRow base e size (.slice (some ⟨g, 0, none⟩) n cap) n xs) (j : Nat) (u : Value) (_hj : j < n * size) : (w.setCell ⟨g, j, none⟩ u).ownsRow base e size (.slice (some ⟨g, 0, none⟩) n cap) n (xs.set j u) := by
  refine ⟨by rw [List.length_set]; exact h.1, ?_⟩
  rcases h.2 with ⟨hv, _⟩ | ⟨g', cap', cur, hv, hb, hg, h1, h2, h3, h4⟩
  · cases hv
  · injection hv with ha _ hcap
    injection ha with ha
    injection ha with hgg _ _
    subst hgg
    subst hcap
    refine .inr ⟨g, _, cur.setIfInBounds j u, rfl, hb, heap_setCell_at hg j u, h1, h2, by simpa using h3, ?_⟩
    rw [Array.toList_setIfInBounds, List.take_set, h4]

theorem owns_frozen {w : World} {base g n cap size : Nat} {e : TypeId} {xs : List Value} (h : w.ownsRow base e size (.slice (some ⟨g, 0, none⟩) n cap) n xs) (j : Nat) : w.frozen? ⟨g, j, none⟩ = false := by
  rcases h.2 with ⟨hv, _⟩ | ⟨g', cap', cur, hv, hb, hg, _⟩
  · cases hv
  · injection hv with ha _ _
    injection ha with ha
    injection ha with hgg _ _
    subst hgg
    exact Lib.frozen_of_heap hg j

theorem rowOf_set0 (l : List (Text × Nat)) : ∀ (n : Nat) (t t' : Text) (q : Nat), l[n]? = some (t, q) → rowOf (l.set n (t', q)) = (rowOf l).set (n * 2) (.string ⟨t'.toArray⟩) := by
  induction l with
  | nil => intro n t t' q h; simp at h
  | cons a l ih =>
    intro n t t' q h
    have e : rowOf (a :: l) = .string ⟨a.1.toArray⟩ :: .int .i64 a.2 :: rowOf l := rfl
    cases n with
    | zero => simp at h; subst h; rfl
    | succ n =>
      rw [show (n + 1) * 2 = n * 2 + 1 + 1 from by omega, e]
      show rowOf (a :: l.set n (t', q)) = _
      have e' : rowOf (a :: l.set n (t', q)) = .string ⟨a.1.toArray⟩ :: .int .i64 a.2 :: rowOf (l.set n (t', q)) := rfl
      rw [e', ih n t t' q (by simpa using h)]
      rfl

theorem rowOf_set1 (l : List (Text × Nat)) : ∀ (n : Nat) (t : Text) (q q' : Nat), l[n]? = some (t, q) → rowOf (l.set n (t, q')) = (rowOf l).set (n * 2 + 1) (.int .i64 q') := by
  induction l with
  | nil => intro n t q q' h; simp at h
  | cons a l ih =>
    intro n t q q' h
    have e : rowOf (a :: l) = .string ⟨a.1.toArray⟩ :: .int .i64 a.2 :: rowOf l := rfl
    cases n with
    | zero => simp at h; subst h; rfl
    | succ n =>
      rw [show (n + 1) * 2 + 1 = n * 2 + 1 + 1 + 1 from by omega, e]
      show rowOf (a :: l.set n (t, q')) = _
      have e' : rowOf (a :: l.set n (t, q')) = .string ⟨a.1.toArray⟩ :: .int .i64 a.2 :: rowOf (l.set n (t, q')) := rfl
      rw [e', ih n t q q' (by simpa using h)]
      rfl

section
variable {w : World} {A : Nat → Prop} {r : Nat} {ρ : Rf} {fv lv : Value} {vals : List Value}

/-- a file is set -/
theorem RefIn.setFiles (h : RefIn w A r ρ fv lv vals) {w' : World} {files : List (Text × Nat)} (hf : w'.ownsRow 0 112 2 fv files.length (rowOf files)) (k : Keeps (fun i => fv.ownBlock = some i) w w') : RefIn w' A r { ρ with files := files } fv lv vals where
  head := k.heap h.head (fun e => ne_of_tag h.tagR (h.tagF e) (by decide) rfl)
  files := hf
  log := k.owns h.log (fun i hi e => ne_of_tag (h.tagL hi) (h.tagF e) (by decide) rfl)
  len := h.len
  ents := fun i v l hv hl => k.owns (h.ents i v l hv hl) (fun j hj e => ne_of_tag (h.tagE hv hj) (h.tagF e) (by decide) rfl)
  ownR := h.ownR
  ownF := h.ownF
  ownL := h.ownL
  ownE := h.ownE

set_option maxHeartbeats 2000000 in
set_option maxRecDepth 100000 in
theorem rnames_any (h : RefIn w A r ρ fv lv vals) {m : Nat} {l : List Ent} (hm : ρ.log.length = m + 1) (hl : ρ.log[m]? = some l) (hll : l.length ≤ 1099511627) :
    Calls Try.prog 53 #[ptr r] w fun e w' => ∃ v, e = .returned v ∧ Row9 w' w.heap.size v (l.map (·.1)) ∧ Fresh w w' := by
  obtain ⟨i9, z9, hi9, hz0, hz1, hz2, hz3⟩ := info9'
  have hvl : vals.length = m + 1 := by rw [h.len]; exact hm
  obtain ⟨v, hv⟩ : ∃ v, vals[m]? = some v := ⟨vals[m]'(by omega), List.getElem?_eq_getElem _⟩
  have hE := h.ents m v l hv hl
  have hn := rnow_any h hvl hv w (Keeps.refl _ w)
  obtain ⟨ao, cap, rfl, hc1, hc2, hao⟩ := own_form' hE
  unfold maxLen at hc1
  have HE : Hid (EntsAt w 0 (.slice ao l.length cap) l) := hE
  clear h hv hE
  unfold ptr at *
  go_enter Try.func53, Try.ntmps53
  go_wp2_with fail
  refine hn.mono ?_
  rintro e w1 ⟨rfl, f1⟩
  clear hn
  go_wp2_with fail
  go_loopw [3, 5] (fun t3 t5 wr => ∃ i : Nat, i ≤ l.length ∧ t5 = .int .i64 i ∧ Fresh w wr ∧ Row9 wr w.heap.size t3 ((l.take i).map (·.1))) (fun _ t5 _ => l.length - (intOf t5).toNat)
  case atStart => exact ⟨0, Nat.zero_le _, rfl, f1, World.ownsRow_nil _ _ _ _⟩
  case round =>
    obtain ⟨i, hi, rfl, hf, hrow⟩ := hrel
    by_cases hlt : i < l.length
    · obtain ⟨g, rfl⟩ := hao (by omega)
      obtain ⟨e, he⟩ : ∃ e, l[i]? = some e := ⟨l[i], List.getElem?_eq_getElem hlt⟩
      have c0 : wr.cell? ⟨g, i * 2, none⟩ = some (.string ⟨e.1.toArray⟩) := hf.cellOf (own_cell' HE.out _ _ (rowOf_get l i e he).1) (fun e => e)
      obtain ⟨N0, hN0⟩ : ∃ N0, N0 = (l.take i).map (·.1) := ⟨_, rfl⟩
      have HT : Hid ((l.take (i + 1)).map (·.1) = N0 ++ [e.1]) := by
        show (l.take (i + 1)).map (·.1) = N0 ++ [e.1]
        rw [hN0, List.take_add_one, he]; simp
      have hNl : N0.length ≤ 1099511627 := by rw [hN0]; simp; omega
      rw [← hN0] at hrow
      have z1 : (0 : Int) ≤ (i : Int) := by omega
      have z2 : (i : Int) < (l.length : Int) := by omega
      have hsz := hf.size
      clear he hN0
      go_wp2_with (at_builtin; refine wpList_append_placed _ rfl _ _ 22 rfl w.heap.size 9 i9 z9 1 16 Try.underlying22 hi9 hz0 hz2 hz3 hz1 (by decide) _ N0.length (N0.map encStr) rfl (hrow.alloc _) ⟨wr.heap.size, 0, none⟩ 1 1 [.string ⟨e.1.toArray⟩] rfl rfl ?c1 ?c2 ?c3 ?c4 ?c5 ?_)
      case c1 =>
        intro j u hj
        match j, hj with
        | 0, hj => simp at hj; subst hj; simp [Addr.add]
      case c2 => intro u hu; simp at hu; subst hu; rfl
      case c3 => unfold maxLen; omega
      case c4 => omega
      case c5 => simp; omega
      intro v' w2 hown hgrow hpl
      have kS : Fresh w w2 := ((hf.alloc _).grown hgrow (fun k hk hlt' => by have := (hrow.lt k hk).1; omega))
      have row2 : Hid (Row9 w2 w.heap.size v' ((l.take (i + 1)).map (·.1))) := by
        show Row9 w2 w.heap.size v' ((l.take (i + 1)).map (·.1))
        rw [HT.out]
        unfold Row9
        rw [List.map_append, List.length_append]
        exact hown
      clear hown hgrow hpl hrow
      go_wp2_with fail
      go_roundw
      case rel => exact ⟨i + 1, by omega, by go_num, kS, row2.out⟩
      case measure => simp [intOf]; omega
    · have z2 : ¬ (i : Int) < (l.length : Int) := by omega
      have HG : Hid (Row9 wr w.heap.size u3 (l.map (·.1))) := by
        show Row9 wr w.heap.size u3 (l.map (·.1))
        rw [List.take_of_length_le (by omega)] at hrow
        exact hrow
      clear hrow
      go_wp2
      go_ret
      exact ⟨_, rfl, HG.out, hf⟩

/-- a call that writes: what it answers -/
def RSyncDir (ρ : Rf) (l : List Ent) (e : Int) (ρ' : Rf) : Prop := (ρ.left = 0 ∧ e = 6 ∧ ρ' = ρ.tick) ∨ (ρ.left ≠ 0 ∧ e = 0 ∧ ρ' = { ρ.tick with log := [l] })

set_option maxHeartbeats 2000000 in
theorem rsyncDir_any (h : RefIn w A r ρ fv lv vals) (hlf : -1 ≤ ρ.left ∧ ρ.left < 9223372036854775808) {m : Nat} {l : List Ent} (hm : ρ.log.length = m + 1) (hl : ρ.log[m]? = some l) :
    Calls Try.prog 49 #[ptr r] w fun e w' => ∃ k ρ', e = .returned (.int .i64 k) ∧ RSyncDir ρ l k ρ' ∧ RefAt w' (ext A w w') r ρ' ∧ Keeps A w w' := by
  have hd := rdead_any h hlf
  have H : Hid (RefIn w A r ρ fv lv vals) := h
  have hvl : vals.length = m + 1 := by rw [h.len]; exact hm
  clear h
  unfold ptr at *
  cases hb : (ρ.left == 0)
  · rw [hb] at hd
    have HB : Hid (ρ.left ≠ 0) := by
      show ρ.left ≠ 0
      simpa using hb
    clear hb
    go_enter Try.func49, Try.ntmps49
    go_wp2_with fail
    refine hd.mono ?_
    rintro e w1 ⟨rfl, h1, k1, _⟩
    have kA : Keeps A w w1 := k1.mono (fun i _ e => by subst e; exact H.out.ownR)
    obtain ⟨v, hv⟩ : ∃ v, vals[m]? = some v := ⟨vals[m]'(by omega), List.getElem?_eq_getElem _⟩
    have hn := rnow_any h1 hvl hv w1 (Keeps.refl _ w1)
    have H1 : Hid (RefIn w1 A r ρ.tick fv lv vals) := h1
    have HV : Hid (vals[m]? = some v) := hv
    clear hd h1 hv
    unfold ptr at hn
    go_wp2_with fail
    refine hn.mono ?_
    rintro e w2 ⟨rfl, f2⟩
    obtain ⟨va, vn, vc, rfl⟩ : ∃ va vn vc, v = .slice va vn vc := by
      obtain ⟨l', _, hE⟩ := H1.out.get HV.out
      obtain ⟨a, c, rfl, _⟩ := own_form' hE
      exact ⟨a, _, c, rfl⟩
    have h2 := H1.out.kept (A' := A) f2 (fun _ _ e => e) (fun _ h => h)
    have k3 : Fresh w2 (w2.alloc (.cells #[.slice va vn vc] 109)) := (Keeps.refl _ w2).alloc _
    have h3 := h2.kept (A' := A) k3 (fun _ _ e => e) (fun _ h => h)
    obtain ⟨_, c1, _, fz⟩ := h3.cells _ rfl
    have f1 := fz 1
    have H3 : Hid (RefIn (w2.alloc (.cells #[.slice va vn vc] 109)) A r ρ.tick fv lv vals) := h3
    have s1 := k1.size
    have s2 := f2.size
    clear hn h2 h3 fz
    go_wp2
    go_ret
    have hrow : (w2.alloc (.cells #[.slice va vn vc] 109)).heap[w2.heap.size]? = some (.cells #[.slice va vn vc] 109 (0, 0)) := heap_alloc_new w2 _
    have k4 : Keeps (fun i => i = r) (w2.alloc (.cells #[.slice va vn vc] 109)) ((w2.alloc (.cells #[.slice va vn vc] 109)).setCell ⟨r, 1, none⟩ (.slice (some ⟨w2.heap.size, 0, none⟩) 1 1)) := (Keeps.refl (fun i => i = r) _).setCell (p := ⟨r, 1, none⟩) (fun _ => rfl) _
    have hrr : r < w2.heap.size := by have := heap_lt H1.out.head; omega
    refine ⟨0, { ρ.tick with log := [l] }, rfl, .inr ⟨HB.out, rfl, rfl⟩, ⟨fv, .slice (some ⟨w2.heap.size, 0, none⟩) 1 1, [.slice va vn vc], ?_⟩, ((kA.then f2 (fun _ _ e => e.elim)).then k3 (fun _ _ e => e.elim)).then k4 (fun i _ e => by subst e; exact H.out.ownR)⟩
    refine H3.out.setLog ?_ (k4.mono (fun _ _ e => .inl e)) (fun _ h => .inl h) ?_ rfl ?_ ?_ ?_
    · rw [heap_setCell_at H3.out.head]; rfl
    · exact ⟨rfl, .inr ⟨w2.heap.size, 1, #[.slice va vn vc], rfl, Nat.zero_le _, k4.heap hrow (fun e => by omega), Nat.le_refl _, by unfold maxLen; omega, rfl, rfl⟩⟩
    · intro i v' l' hv' hl'
      match i, hv', hl' with
      | 0, hv', hl' =>
        simp at hv' hl'
        subst hv' hl'
        exact H3.out.entKept k4 (fun j hj e => ne_of_tag hj H3.out.tagR (by decide) e) HV.out hl
    · intro k hk
      simp [Value.ownBlock] at hk
      subst hk
      exact .inr ⟨by omega, by simp [World.setCell]⟩
    · intro i v' hv' k hk
      match i, hv' with
      | 0, hv' => simp at hv'; subst hv'; exact .inl (H1.out.ownE m _ HV.out k hk)
  · rw [hb] at hd
    have HB : Hid (ρ.left = 0) := by
      show ρ.left = 0
      simpa using hb
    clear hb
    go_enter Try.func49, Try.ntmps49
    go_wp2_with fail
    refine hd.mono ?_
    rintro e w1 ⟨rfl, h1, k1, _⟩
    have kA : Keeps A w w1 := k1.mono (fun i _ e => by subst e; exact H.out.ownR)
    clear hd
    go_wp2
    go_ret
    exact ⟨6, ρ.tick, rfl, .inl ⟨HB.out, rfl, rfl⟩, ⟨fv, lv, vals, h1.kept (S := fun _ => False) (Keeps.refl _ _) (fun _ _ e => e) (fun _ h => .inl h)⟩, kA⟩
end
end Go.Proofs.Ytegbkpjcjlihmaa
