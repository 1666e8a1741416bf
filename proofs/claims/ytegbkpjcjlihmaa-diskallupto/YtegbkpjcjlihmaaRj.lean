/-
  The reference disk: Rename.
-/
import Derived.Test.YtegbkpjcjlihmaaRi
namespace Go.Proofs.Ytegbkpjcjlihmaa
open Go.RowKit Go.Maps

section
variable {w : World} {A : Nat → Prop} {r : Nat} {ρ : Rf} {fv lv : Value} {vals : List Value}

def RRename (ρ : Rf) (l : List Ent) (s t : Text) (e : Int) (ρ' : Rf) : Prop :=
  (ρ.left = 0 ∧ e = 6 ∧ ρ' = ρ.tick) ∨ (ρ.left ≠ 0 ∧ (∀ n, (s, n) ∉ l) ∧ e = 4 ∧ ρ' = ρ.tick) ∨ (ρ.left ≠ 0 ∧ ∃ n, (s, n) ∈ l ∧ e = 0 ∧ ρ' = { ρ.tick with log := ρ.log ++ [withE (withoutE l s) (t, n)] })

set_option maxHeartbeats 8000000 in
set_option maxRecDepth 100000 in
theorem rrename_any (h : RefIn w A r ρ fv lv vals) (hlf : -1 ≤ ρ.left ∧ ρ.left < 9223372036854775808) {m : Nat} {l : List Ent} (hm : ρ.log.length = m + 1) (hl : ρ.log[m]? = some l) (hll : l.length ≤ 1099511627) (hlog : ρ.log.length ≤ 1099511627) (s t : ByteArray) :
    Calls Try.prog 47 #[ptr r, .string s, .string t] w fun e w' => ∃ k ρ', e = .returned (.int .i64 k) ∧ RRename ρ l s.data.toList t.data.toList k ρ' ∧ RefAt w' (ext A w w') r ρ' ∧ Keeps A w w' := by
  have hd := rdead_any h hlf
  have H : Hid (RefIn w A r ρ fv lv vals) := h
  have hvl : vals.length = m + 1 := by rw [h.len]; exact hm
  have hvb : vals.length ≤ 1099511627776 := by rw [h.len]; omega
  have HVL : Hid (vals.length = m + 1) := hvl
  clear h hvl
  unfold ptr at *
  cases hb : (ρ.left == 0)
  · rw [hb] at hd
    have HB : Hid (ρ.left ≠ 0) := by
      show ρ.left ≠ 0
      simpa using hb
    clear hb
    go_enter Try.func47, Try.ntmps47
    go_wp2_with fail
    refine hd.mono ?_
    rintro e w1 ⟨rfl, h1, k1, hs1⟩
    have Hs1 : Hid (w1.heap.size = w.heap.size) := hs1
    have kA : Keeps A w w1 := k1.mono (fun i _ e => by subst e; exact H.out.ownR)
    have hat := rat_any h1 hm hl hll s w1 (Keeps.refl _ w1)
    have H1 : Hid (RefIn w1 A r ρ.tick fv lv vals) := h1
    clear hd h1 hs1
    unfold ptr at hat
    go_wp2_with fail
    refine hat.mono ?_
    rintro e w2 ⟨k, rfl, hk, f2⟩
    have h2 := H1.out.kept (A' := A) f2 (fun _ _ e => e) (fun _ h => h)
    have k2 : Keeps A w w2 := kA.then f2 (fun _ _ e => e.elim)
    have H2 : Hid (RefIn w2 A r ρ.tick fv lv vals) := h2
    clear hat
    rcases hk with ⟨n, rfl, hn⟩ | ⟨rfl, hno⟩
    · have HM : Hid ((s.data.toList, n) ∈ l) := hn
      obtain ⟨v, hv⟩ : ∃ v, vals[m]? = some v := ⟨vals[m]'(by have := HVL.out; omega), List.getElem?_eq_getElem _⟩
      have hE := h2.ents m v l hv hl
      have hnow := rnow_any h2 HVL.out hv w2.drew (Keeps.drew (Keeps.refl _ w2))
      have hcell : ∀ W, Fresh w2 W → W.cell? ⟨r, 1, none⟩ = some lv := fun W f => (h2.kept (A' := A) f (fun _ _ e => e) (fun _ h => h)).cells W rfl |>.2.1
      have hown : ∀ W, Fresh w2 W → W.ownsRow 0 109 1 lv vals.length vals := fun W f => f.owns h2.log (fun _ _ e => e)
      have hents : ∀ W, Fresh w2 W → EntsAt W 0 v l := fun W f => f.owns hE (fun _ _ e => e)
      have c1 : w2.drew.cell? ⟨r, 1, none⟩ = some lv := hcell w2.drew (Keeps.drew (Keeps.refl _ w2))
      obtain ⟨la, ln, lc, rfl⟩ : ∃ a n c, lv = .slice a n c := by
        obtain ⟨a, c, h', _⟩ := own_form' h2.log
        exact ⟨a, _, c, h'⟩
      have z0 : ¬ ((n : Int) < 0) := by omega
      clear h2 hn hv hE
      unfold ptr at hnow
      go_wp2_with fail
      go_region_law (first | (refine step_append_log rfl (.tmp 19) (.tmp 28) rfl (.slice la ln lc) vals va _ vc (by simp [Act.eval]) (hown _ ((f3.trans f4).trans f5)) (by simp [Act.eval]) hvb ?_; intro v6 w6 o6 g6 p6; obtain ⟨a6, c6a, rfl, _⟩ := own_form' o6; have hlg := H2.out.logged ((f3.trans f4).trans f5) (owns_base e5 (fun k hk => Nat.le_trans (f3.trans f4).size (e5.lt k hk).1)) o6 g6 p6; have c6 : w6.cell? ⟨r, 1, none⟩ = some (.slice la ln lc) := (by rw [Lib.cell_of_heap hlg.1]; rfl); have z6 : w6.frozen? ⟨r, 1, none⟩ = false := Lib.frozen_of_heap hlg.1 1) | (go_simp; go_wp2_with (first | (go_at_call 75; refine hnow.mono ?_; rintro e w3 ⟨rfl, f3'⟩; have f3 : Fresh w2 w3 := ⟨f3'.os, f3'.tape, f3'.output, f3'.size, f3'.block⟩; have c3 := hcell w3 f3) | (go_at_call 78; refine (without_any 0 _ l s _ (hents _ f3) (by omega)).mono ?_; rintro e w4 ⟨v4, rfl, e4, f4⟩; have c4 := hcell w4 (f3.trans f4)) | (go_at_call 76; refine (with_any _ _ (withoutE l s.data.toList) t n _ e4 (Nat.le_trans (List.length_filter_le _ _) hll)).mono ?_; rintro e w5 ⟨v5, rfl, e5, f5⟩; obtain ⟨va, vc, rfl, _⟩ := own_form' e5; have c5 := hcell w5 ((f3.trans f4).trans f5); have c5' := hcell (w5.alloc (.cells #[.slice va (withE (withoutE l s.data.toList) (t.data.toList, n)).length vc] 109)) (((f3.trans f4).trans f5).alloc _)))))
      all_goals
        refine (by assumption : ∀ (a : Act) (w : World), Code.wp Try.prog _ _ a w → _) _ _ ?_
        have hG := hlg.2 _ rfl
        have sW := hG.2.size
        have s2 := k2.size
        have HG : Hid _ := hG
        clear hlg hG
        go_wp2
        go_ret
        exact ⟨0, _, rfl, .inr (.inr ⟨HB.out, n, HM.out, rfl, rfl⟩), HG.out.1.grow (fun i hi => hi.elim .inl (fun hi => .inr ⟨by omega, hi.2⟩)), k2.then HG.out.2 (fun _ _ e => e)⟩
    · have HN : Hid (∀ n, (s.data.toList, n) ∉ l) := hno
      clear hno h2
      go_wp2
      go_ret
      exact ⟨4, ρ.tick, rfl, .inr (.inl ⟨HB.out, HN.out, rfl, rfl⟩), ⟨fv, lv, vals, H2.out.kept (S := fun _ => False) (Keeps.refl _ _) (fun _ _ e => e) (fun _ h => .inl h)⟩, k2⟩
  · rw [hb] at hd
    have HB : Hid (ρ.left = 0) := by
      show ρ.left = 0
      simpa using hb
    clear hb
    go_enter Try.func47, Try.ntmps47
    go_wp2_with fail
    refine hd.mono ?_
    rintro e w1 ⟨rfl, h1, k1, _⟩
    have kA : Keeps A w w1 := k1.mono (fun i _ e => by subst e; exact H.out.ownR)
    clear hd
    go_wp2
    go_ret
    exact ⟨6, ρ.tick, rfl, .inl ⟨HB.out, rfl, rfl⟩, ⟨fv, lv, vals, h1.kept (S := fun _ => False) (Keeps.refl _ _) (fun _ _ e => e) (fun _ h => .inl h)⟩, kA⟩
end
end Go.Proofs.Ytegbkpjcjlihmaa
