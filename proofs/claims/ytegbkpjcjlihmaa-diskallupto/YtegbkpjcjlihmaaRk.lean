/-
  The reference disk: Create.
-/
import Derived.Test.YtegbkpjcjlihmaaRj
import Derived.Deep.RegionHeld3
namespace Go.Proofs.Ytegbkpjcjlihmaa
open Go.RowKit Go.Maps

theorem info112 : (Try.prog.info? 112).map (fun i => (i.zero.map (fun z => z.cells.size), i.size, i.bytes)) = some (some 2, 2, 24) := by kernel_rfl
theorem info112' : ∃ i z, Try.prog.info? 112 = some i ∧ i.zero = some z ∧ z.cells.size = 2 ∧ i.size = 2 ∧ i.bytes = 24 := by
  obtain ⟨i, hi, h⟩ := Option.map_eq_some_iff.1 info112
  simp only [Prod.mk.injEq] at h
  obtain ⟨z, hz, h1⟩ := Option.map_eq_some_iff.1 h.1
  exact ⟨i, z, hi, hz, h1, h.2.1, h.2.2⟩

theorem rowOf_snoc (l : List (Text × Nat)) (t : Text) (q : Nat) : rowOf (l ++ [(t, q)]) = rowOf l ++ [.string ⟨t.toArray⟩, .int .i64 q] := by
  unfold rowOf
  simp [pairCells]

section
variable {w : World} {A : Nat → Prop} {r : Nat} {ρ : Rf} {fv lv : Value} {vals : List Value}

/-- its files have grown; what is still to be stored -/
theorem RefIn.filed (h : RefIn w A r ρ fv lv vals) {w4 : World} {v4 : Value} {t : Text} {q : Nat} {b : Obj} (o4 : w4.ownsRow 0 112 2 v4 (ρ.files.length + 1) (rowOf ρ.files ++ [.string ⟨t.toArray⟩, .int .i64 q])) (g4 : (w.alloc b).grownBy w4 fv.ownBlock) (p4 : Placed (w.alloc b) fv v4) :
    w4.heap[r]? = some (.cells #[fv, lv, .int .i64 ρ.left] 84 (0, 0)) ∧ ∀ W, W = w4.setCell ⟨r, 0, none⟩ v4 → RefIn W (ext A w W) r { ρ with files := ρ.files ++ [(t, q)] } v4 lv vals ∧ Keeps A w W := by
  have k4 : Keeps (fun i => fv.ownBlock = some i) w w4 := ((Keeps.refl (fun i => fv.ownBlock = some i) w).alloc _).grown g4 (fun k hk _ => hk)
  have hh : w4.heap[r]? = some (.cells #[fv, lv, .int .i64 ρ.left] 84 (0, 0)) := k4.heap h.head (fun e => ne_of_tag h.tagR (h.tagF e) (by decide) rfl)
  refine ⟨hh, fun W hW => ?_⟩
  have k5 : Keeps (fun i => i = r) w4 W := by rw [hW]; exact (Keeps.refl (fun i => i = r) w4).setCell (p := ⟨r, 0, none⟩) (fun _ => rfl) _
  have s4 := k4.size
  have s5 := k5.size
  have k45 : Keeps (fun i => i = r ∨ fv.ownBlock = some i) w W := (k4.mono (fun _ _ e => .inr e)).then k5 (fun _ _ e => .inl e)
  have hla := g4.size
  have hls : (w.alloc b).heap.size = w.heap.size + 1 := by simp
  have no : ∀ {j : Nat} {y : TypeId}, tag w j = some y → y ≠ 84 → y ≠ 112 → ¬ (j = r ∨ fv.ownBlock = some j) := fun hj h1 h2 e => e.elim (fun e => ne_of_tag hj h.tagR h1 e) (fun e => ne_of_tag hj (h.tagF e) h2 rfl)
  refine ⟨?_, k45.mono (fun i _ e => ?_)⟩
  · exact {
      head := by rw [hW, heap_setCell_at hh]; rfl
      files := by
        simp only [List.length_append, List.length_singleton, rowOf_snoc]
        exact k5.owns o4 (fun k hk e => ne_of_tag (owns_tag o4 hk) (tag_cells hh) (by decide) e)
      log := k45.owns h.log (fun k hk => no (h.tagL hk) (by decide) (by decide))
      len := h.len
      ents := fun i v l hv hl => k45.owns (h.ents i v l hv hl) (fun k hk => no (h.tagE hv hk) (by decide) (by decide))
      ownR := .inl h.ownR
      ownF := fun k hk => by
        have hl := (o4.lt k hk).2
        rcases p4 with p | p
        · exact .inl (h.ownF k (by rw [← p]; exact hk))
        · rw [p] at hk
          simp only [Option.some.injEq] at hk
          exact .inr ⟨by omega, by omega⟩
      ownL := fun k hk => .inl (h.ownL k hk)
      ownE := fun i v hv k hk => .inl (h.ownE i v hv k hk) }
  · rcases e with rfl | e
    · exact h.ownR
    · exact h.ownF i e

def RCreate (ρ : Rf) (l : List Ent) (s : Text) (e : Int) (ρ' : Rf) : Prop :=
  (ρ.left = 0 ∧ e = 6 ∧ ρ' = ρ.tick) ∨ (ρ.left ≠ 0 ∧ (∃ n, (s, n) ∈ l) ∧ e = 5 ∧ ρ' = ρ.tick) ∨ (ρ.left ≠ 0 ∧ (∀ n, (s, n) ∉ l) ∧ e = 0 ∧ ρ' = { ρ.tick with files := ρ.files ++ [([], 0)], log := ρ.log ++ [withE l (s, ρ.files.length)] })

set_option maxHeartbeats 8000000 in
set_option maxRecDepth 100000 in
theorem rcreate_any (h : RefIn w A r ρ fv lv vals) (hlf : -1 ≤ ρ.left ∧ ρ.left < 9223372036854775808) {m : Nat} {l : List Ent} (hm : ρ.log.length = m + 1) (hl : ρ.log[m]? = some l) (hll : l.length ≤ 1099511627) (hlog : ρ.log.length ≤ 1099511627) (hfl : ρ.files.length ≤ 1099511627) (s : ByteArray) :
    Calls Try.prog 44 #[ptr r, .string s] w fun e w' => ∃ k ρ', e = .returned (.int .i64 k) ∧ RCreate ρ l s.data.toList k ρ' ∧ RefAt w' (ext A w w') r ρ' ∧ Keeps A w w' := by
  obtain ⟨i0, z0', hi0, hz0, hz1, hz2, hz3⟩ := info112'
  have hd := rdead_any h hlf
  have H : Hid (RefIn w A r ρ fv lv vals) := h
  have hvl : vals.length = m + 1 := by rw [h.len]; exact hm
  have hvb : vals.length ≤ 1099511627776 := by rw [h.len]; omega
  have HVL : Hid (vals.length = m + 1) := hvl
  clear h hvl
  unfold ptr at *
  cases hb : (ρ.left == 0)
  · rw [hb] at hd
    have HB : Hid (ρ.left ≠ 0) := by
      show ρ.left ≠ 0
      simpa using hb
    clear hb
    go_enter Try.func44, Try.ntmps44
    go_wp2_with fail
    refine hd.mono ?_
    rintro e w1 ⟨rfl, h1, k1, hs1⟩
    have Hs1 : Hid (w1.heap.size = w.heap.size) := hs1
    have kA : Keeps A w w1 := k1.mono (fun i _ e => by subst e; exact H.out.ownR)
    obtain ⟨v, hv⟩ : ∃ v, vals[m]? = some v := ⟨vals[m]'(by have := HVL.out; omega), List.getElem?_eq_getElem _⟩
    have hE1 := h1.ents m v l hv hl
    have hnow := rnow_any h1 HVL.out hv w1 (Keeps.refl _ w1)
    have H1 : Hid (RefIn w1 A r ρ.tick fv lv vals) := h1
    have HV : Hid (vals[m]? = some v) := hv
    clear hd h1 hs1 hv
    unfold ptr at hnow
    go_wp2_with fail
    refine hnow.mono ?_
    rintro e w2a ⟨rfl, f2a⟩
    clear hnow
    go_wp2_with fail
    refine (find_any 0 _ l s _ (f2a.owns hE1 (fun _ _ e => e)) (by omega)).mono ?_
    rintro e w2 ⟨k, rfl, hk, f2b⟩
    have f2 : Fresh w1 w2 := f2a.trans f2b
    have h2 := H1.out.kept (A' := A) f2 (fun _ _ e => e) (fun _ h => h)
    have k2 : Keeps A w w2 := kA.then f2 (fun _ _ e => e.elim)
    have H2 : Hid (RefIn w2 A r ρ.tick fv lv vals) := h2
    clear hE1
    rcases hk with ⟨i, n, rfl, hin⟩ | ⟨rfl, hno⟩
    · have HN : Hid (∃ n, (s.data.toList, n) ∈ l) := ⟨n, List.mem_of_getElem? hin⟩
      have z0 : (0 : Int) ≤ (i : Int) := by omega
      clear hin h2
      go_wp2
      go_ret
      exact ⟨5, ρ.tick, rfl, .inr (.inl ⟨HB.out, HN.out, rfl, rfl⟩), ⟨fv, lv, vals, H2.out.kept (S := fun _ => False) (Keeps.refl _ _) (fun _ _ e => e) (fun _ h => .inl h)⟩, k2⟩
    · have HN : Hid (∀ n, (s.data.toList, n) ∉ l) := hno
      have hlf2 : w2.ownsRow 0 112 2 fv ρ.files.length (rowOf ρ.files) := h2.files
      obtain ⟨c0, _, _, fz⟩ := h2.cells w2 rfl
      obtain ⟨c0', _, _, _⟩ := h2.cells (w2.alloc (.cells #[.string ⟨#[]⟩, .int .i64 0] 112)) (Lib.alloc_old _ _ _ (heap_lt h2.head))
      obtain ⟨ao, cap, rfl, hc1, hc2, hao⟩ := own_form' hlf2
      have hs0 := w2.heap.size
      clear h2 hno fz hao
      go_wp2_with (at_builtin; refine wpList_append_placed _ rfl _ _ 82 rfl 0 112 i0 z0' 2 24 Try.underlying82 hi0 hz0 hz2 hz3 hz1 (by decide) _ ρ.files.length (rowOf ρ.files) rfl (hlf2.alloc _) ⟨w2.heap.size, 0, none⟩ 1 1 [.string ⟨#[]⟩, .int .i64 0] rfl rfl ?c1 ?c2 ?c3 ?c4 ?c5 ?_)
      case c1 =>
        intro j u hj
        match j, hj with
        | 0, hj => simp at hj; subst hj; simp [Addr.add]
        | 1, hj => simp at hj; subst hj; simp [Addr.add]
      case c2 => intro u hu; simp at hu; rcases hu with rfl | rfl <;> rfl
      case c3 => unfold maxLen; omega
      case c4 => omega
      case c5 => exact Nat.zero_le _
      intro v3 w3 o3 g3 p3
      obtain ⟨a3, ca3, rfl, hc3, _, _⟩ := own_form' o3
      have hfd := H2.out.filed (t := []) (q := 0) o3 g3 p3
      have c3 : w3.cell? ⟨r, 0, none⟩ = some (.slice ao ρ.files.length cap) := by rw [Lib.cell_of_heap hfd.1]; rfl
      have z3 : w3.frozen? ⟨r, 0, none⟩ = false := Lib.frozen_of_heap hfd.1 0
      obtain ⟨h5, k5⟩ := hfd.2 _ rfl
      have H5 : Hid (RefIn (w3.setCell ⟨r, 0, none⟩ (.slice a3 (ρ.files.length + 1) ca3)) (ext A w2 (w3.setCell ⟨r, 0, none⟩ (.slice a3 (ρ.files.length + 1) ca3))) r { ρ.tick with files := ρ.files ++ [([], 0)] } (.slice a3 (ρ.files.length + 1) ca3) lv vals) := h5
      have K5 : Hid (Keeps A w2 (w3.setCell ⟨r, 0, none⟩ (.slice a3 (ρ.files.length + 1) ca3))) := k5
      clear hfd h5 k5 o3 g3 p3 hlf2
      go_wp2_with fail
      have sW : (w3.setCell ⟨r, 0, none⟩ (.slice a3 (ρ.files.length + 1) ca3)).heap.size = w3.heap.size := by simp [World.setCell]
      generalize hw5 : w3.setCell ⟨r, 0, none⟩ (.slice a3 (ρ.files.length + 1) ca3) = w5 at *
      have h5 := H5.out
      have k5 : Keeps A w w5 := k2.then K5.out (fun _ _ e => e)
      have hE := h5.ents m v l HV.out hl
      have hnow := rnow_any h5 HVL.out HV.out w5.drew (Keeps.drew (Keeps.refl _ w5))
      have hcell : ∀ W, Fresh w5 W → W.cell? ⟨r, 1, none⟩ = some lv := fun W f => (h5.kept f (fun _ _ e => e) (fun _ h => h)).cells W rfl |>.2.1
      have hcell0 : ∀ W, Fresh w5 W → W.cell? ⟨r, 0, none⟩ = some (.slice a3 (ρ.files.length + 1) ca3) := fun W f => (h5.kept f (fun _ _ e => e) (fun _ h => h)).cells W rfl |>.1
      have hown : ∀ W, Fresh w5 W → W.ownsRow 0 109 1 lv vals.length vals := fun W f => f.owns h5.log (fun _ _ e => e)
      have hents : ∀ W, Fresh w5 W → EntsAt W 0 v l := fun W f => f.owns hE (fun _ _ e => e)
      have b1 : w5.drew.cell? ⟨r, 1, none⟩ = some lv := hcell w5.drew (Keeps.drew (Keeps.refl _ w5))
      have b0 : w5.drew.cell? ⟨r, 0, none⟩ = some (.slice a3 (ρ.files.length + 1) ca3) := hcell0 w5.drew (Keeps.drew (Keeps.refl _ w5))
      obtain ⟨la, ln, lc, rfl⟩ : ∃ a n c, lv = .slice a n c := by
        obtain ⟨a, c, h', _⟩ := own_form' h5.log
        exact ⟨a, _, c, h'⟩
      have ZZ : Hid (IntKind.i64.wrap ((ρ.files.length : Nat) : Int) = (ρ.files.length : Int)) := IntWalk.i64_in _ ⟨by omega, by omega⟩
      clear h5 hE
      unfold ptr at hnow
      go_region_law (first | (refine step_append_log rfl (.tmp 26) (.tmp 38) rfl (.slice la ln lc) vals va _ vc (by simp [Act.eval]) (hown _ (f6.trans f7)) (by simp [Act.eval]) hvb ?_; intro v8 w8 o8 g8 p8; obtain ⟨a8, c8a, rfl, _⟩ := own_form' o8; have hlg := H5.out.logged (f6.trans f7) (owns_base e7 (fun k hk => Nat.le_trans f6.size (e7.lt k hk).1)) o8 g8 p8; have c8 : w8.cell? ⟨r, 1, none⟩ = some (.slice la ln lc) := (by rw [Lib.cell_of_heap hlg.1]; rfl); have z8 : w8.frozen? ⟨r, 1, none⟩ = false := Lib.frozen_of_heap hlg.1 1) | (go_simp; go_wp2_with (first | (go_at_call 75; refine hnow.mono ?_; rintro e w6 ⟨rfl, f6'⟩; have f6 : Fresh w5 w6 := ⟨f6'.os, f6'.tape, f6'.output, f6'.size, f6'.block⟩; have c6 := hcell w6 f6; have c6' := hcell0 w6 f6) | (go_at_call 76; rw [ZZ.out]; refine (with_any _ _ l s ρ.files.length _ (hents _ f6) hll).mono ?_; rintro e w7 ⟨v7, rfl, e7, f7⟩; obtain ⟨va, vc, rfl, _⟩ := own_form' e7; have c7 := hcell w7 (f6.trans f7); have c7' := hcell (w7.alloc (.cells #[.slice va (withE l (s.data.toList, ρ.files.length)).length vc] 109)) ((f6.trans f7).alloc _)))))
      all_goals
        refine (by assumption : ∀ (a : Act) (w : World), Code.wp Try.prog _ _ a w → _) _ _ ?_
        have hG := hlg.2 _ rfl
        have sW := hG.2.size
        have s2 := k2.size
        have s5 := k5.size
        have HG : Hid _ := hG
        clear hlg hG
        go_wp2
        go_ret
        refine ⟨0, rfl, { ρ.tick with files := ρ.files ++ [([], 0)], log := ρ.log ++ [withE l (s.data.toList, ρ.files.length)] }, .inr (.inr ⟨HB.out, HN.out, rfl, rfl⟩), RefAt.grow HG.out.1 ?_, k5.then HG.out.2 ?_⟩
        · intro i hi
          rcases hi with (hi | hi) | hi
          · exact .inl hi
          · exact .inr ⟨by omega, by omega⟩
          · exact .inr ⟨by omega, hi.2⟩
        · intro i hi e
          rcases e with e | e
          · exact e
          · omega
  · rw [hb] at hd
    have HB : Hid (ρ.left = 0) := by
      show ρ.left = 0
      simpa using hb
    clear hb
    go_enter Try.func44, Try.ntmps44
    go_wp2_with fail
    refine hd.mono ?_
    rintro e w1 ⟨rfl, h1, k1, _⟩
    have kA : Keeps A w w1 := k1.mono (fun i _ e => by subst e; exact H.out.ownR)
    clear hd
    go_wp2
    go_ret
    exact ⟨6, ρ.tick, rfl, .inl ⟨HB.out, rfl, rfl⟩, ⟨fv, lv, vals, h1.kept (S := fun _ => False) (Keeps.refl _ _) (fun _ _ e => e) (fun _ h => .inl h)⟩, kA⟩
end
end Go.Proofs.Ytegbkpjcjlihmaa
