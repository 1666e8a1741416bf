/-
  The reference disk: Append, Sync.
-/
import Derived.Test.YtegbkpjcjlihmaaRg
namespace Go.Proofs.Ytegbkpjcjlihmaa
open Go.RowKit Go.Maps

section
variable {w : World} {A : Nat → Prop} {r : Nat} {ρ : Rf} {fv lv : Value} {vals : List Value}

def RAppend (ρ : Rf) (l : List Ent) (s t : Text) (e : Int) (ρ' : Rf) : Prop :=
  (ρ.left = 0 ∧ e = 6 ∧ ρ' = ρ.tick) ∨ (ρ.left ≠ 0 ∧ (∀ n, (s, n) ∉ l) ∧ e = 4 ∧ ρ' = ρ.tick) ∨ (ρ.left ≠ 0 ∧ ∃ n d q, (s, n) ∈ l ∧ ρ.files[n]? = some (d, q) ∧ e = 0 ∧ ρ' = { ρ.tick with files := ρ.files.set n (d ++ t, q) })

def RSync (ρ : Rf) (l : List Ent) (s : Text) (e : Int) (ρ' : Rf) : Prop :=
  (ρ.left = 0 ∧ e = 6 ∧ ρ' = ρ.tick) ∨ (ρ.left ≠ 0 ∧ (∀ n, (s, n) ∉ l) ∧ e = 4 ∧ ρ' = ρ.tick) ∨ (ρ.left ≠ 0 ∧ ∃ n d q, (s, n) ∈ l ∧ ρ.files[n]? = some (d, q) ∧ e = 0 ∧ ρ' = { ρ.tick with files := ρ.files.set n (d, d.length) })

theorem cat_text (t : Text) (b : ByteArray) : (⟨t.toArray⟩ : ByteArray) ++ b = ⟨(t ++ b.data.toList).toArray⟩ := by
  apply ByteArray.ext
  apply Array.toList_inj.1
  simp

set_option maxHeartbeats 4000000 in
set_option maxRecDepth 100000 in
theorem rappend_any (h : RefIn w A r ρ fv lv vals) (hlf : -1 ≤ ρ.left ∧ ρ.left < 9223372036854775808) {m : Nat} {l : List Ent} (hm : ρ.log.length = m + 1) (hl : ρ.log[m]? = some l) (hll : l.length ≤ 1099511627) (hin : ∀ s n, (s, n) ∈ l → n < ρ.files.length) (s t : ByteArray) (hsz : ∀ f ∈ ρ.files, f.1.length + t.size ≤ 1099511627776) :
    Calls Try.prog 45 #[ptr r, .string s, .string t] w fun e w' => ∃ k ρ', e = .returned (.int .i64 k) ∧ RAppend ρ l s.data.toList t.data.toList k ρ' ∧ RefAt w' (ext A w w') r ρ' ∧ Keeps A w w' := by
  have hd := rdead_any h hlf
  have H : Hid (RefIn w A r ρ fv lv vals) := h
  clear h
  unfold ptr at *
  cases hb : (ρ.left == 0)
  · rw [hb] at hd
    have HB : Hid (ρ.left ≠ 0) := by
      show ρ.left ≠ 0
      simpa using hb
    clear hb
    go_enter Try.func45, Try.ntmps45
    go_wp2_with fail
    refine hd.mono ?_
    rintro e w1 ⟨rfl, h1, k1, hs1⟩
    have Hs1 : Hid (w1.heap.size = w.heap.size) := hs1
    have kA : Keeps A w w1 := k1.mono (fun i _ e => by subst e; exact H.out.ownR)
    have hat := rat_any h1 hm hl hll s w1 (Keeps.refl _ w1)
    have H1 : Hid (RefIn w1 A r ρ.tick fv lv vals) := h1
    clear hd h1 hs1
    unfold ptr at hat
    go_wp2_with fail
    refine hat.mono ?_
    rintro e w2 ⟨k, rfl, hk, f2⟩
    have h2 := H1.out.kept (A' := A) f2 (fun _ _ e => e) (fun _ h => h)
    have k2 : Keeps A w w2 := kA.then f2 (fun _ _ e => e.elim)
    clear hat
    rcases hk with ⟨n, rfl, hn⟩ | ⟨rfl, hno⟩
    · have hlt := hin _ n hn
      obtain ⟨⟨d, q⟩, hf⟩ : ∃ f, ρ.files[n]? = some f := ⟨ρ.files[n], List.getElem?_eq_getElem hlt⟩
      have H2 : Hid (RefIn w2 A r ρ.tick fv lv vals) := h2
      obtain ⟨c0, _, _, _⟩ := h2.cells w2.drew rfl
      obtain ⟨ao, cap, rfl, hc1, hc2, hao⟩ := own_form' h2.files
      have e0 : ρ.tick.files.length = ρ.files.length := rfl
      rw [e0] at c0 hc2 hao
      obtain ⟨g, rfl⟩ := hao (by omega)
      have hfr : w2.ownsRow 0 112 2 (.slice (some ⟨g, 0, none⟩) ρ.files.length cap) ρ.files.length (rowOf ρ.files) := h2.files
      have cf : w2.drew.cell? ⟨g, n * 2, none⟩ = some (.string ⟨d.toArray⟩) := own_cell' hfr _ _ (rowOf_get _ n _ hf).1
      have ff : w2.drew.frozen? ⟨g, n * 2, none⟩ = false := owns_frozen hfr _
      unfold maxLen at hc1
      have HR : Hid ((s.data.toList, n) ∈ l ∧ ρ.files[n]? = some (d, q)) := ⟨hn, hf⟩
      have HFR : Hid (w2.ownsRow 0 112 2 (.slice (some ⟨g, 0, none⟩) ρ.files.length cap) ρ.files.length (rowOf ρ.files)) := hfr
      have z0 : ¬ ((n : Int) < 0) := by omega
      have z1 : (0 : Int) ≤ (n : Int) := by omega
      have z2 : (n : Int) < (ρ.files.length : Int) := by omega
      have z3 : ¬ (9223372036854775807 < List.length d + t.size) := by have := hsz _ (List.mem_of_getElem? hf); simp only at this; omega
      clear h2 hn hf hao hfr e0
      go_wp2_with fail
      go_region
      all_goals
        go_wp2
        go_ret
        have k3 : Keeps (fun i => (Value.slice (some ⟨g, 0, none⟩) ρ.files.length cap).ownBlock = some i) w2 (w2.drew.setCell ⟨g, n * 2, none⟩ (.string (⟨d.toArray⟩ ++ t))) := Keeps.setCell (S := fun i => (Value.slice (some ⟨g, 0, none⟩) ρ.files.length cap).ownBlock = some i) (Keeps.drew (Keeps.refl _ w2)) (p := ⟨g, n * 2, none⟩) (fun _ => rfl) _
        refine ⟨0, _, rfl, .inr (.inr ⟨HB.out, n, d, q, HR.out.1, HR.out.2, rfl, rfl⟩), ⟨.slice (some ⟨g, 0, none⟩) ρ.files.length cap, lv, vals, ?_⟩, k2.then k3 (fun i _ e => H.out.ownF i e)⟩
        refine RefIn.kept (S := fun _ => False) (A := A) ?_ (Keeps.refl _ _) (fun _ _ e => e) (fun _ h => .inl h)
        refine H2.out.setFiles (files := ρ.files.set n (d ++ t.data.toList, q)) ?_ k3
        rw [rowOf_set0 ρ.files n d _ q HR.out.2, List.length_set, ← cat_text]
        exact owns_set (w := w2.drew) HFR.out (n * 2) _ (by omega)
    · have HN : Hid (∀ n, (s.data.toList, n) ∉ l) := hno
      have H2 : Hid (RefIn w2 A r ρ.tick fv lv vals) := h2
      clear hno h2
      go_wp2
      go_ret
      exact ⟨4, ρ.tick, rfl, .inr (.inl ⟨HB.out, HN.out, rfl, rfl⟩), ⟨fv, lv, vals, H2.out.kept (S := fun _ => False) (Keeps.refl _ _) (fun _ _ e => e) (fun _ h => .inl h)⟩, k2⟩
  · rw [hb] at hd
    have HB : Hid (ρ.left = 0) := by
      show ρ.left = 0
      simpa using hb
    clear hb
    go_enter Try.func45, Try.ntmps45
    go_wp2_with fail
    refine hd.mono ?_
    rintro e w1 ⟨rfl, h1, k1, _⟩
    have kA : Keeps A w w1 := k1.mono (fun i _ e => by subst e; exact H.out.ownR)
    clear hd
    go_wp2
    go_ret
    exact ⟨6, ρ.tick, rfl, .inl ⟨HB.out, rfl, rfl⟩, ⟨fv, lv, vals, h1.kept (S := fun _ => False) (Keeps.refl _ _) (fun _ _ e => e) (fun _ h => .inl h)⟩, kA⟩

set_option maxHeartbeats 4000000 in
set_option maxRecDepth 100000 in
theorem rsync_any (h : RefIn w A r ρ fv lv vals) (hlf : -1 ≤ ρ.left ∧ ρ.left < 9223372036854775808) {m : Nat} {l : List Ent} (hm : ρ.log.length = m + 1) (hl : ρ.log[m]? = some l) (hll : l.length ≤ 1099511627) (hin : ∀ s n, (s, n) ∈ l → n < ρ.files.length) (s : ByteArray) :
    Calls Try.prog 46 #[ptr r, .string s] w fun e w' => ∃ k ρ', e = .returned (.int .i64 k) ∧ RSync ρ l s.data.toList k ρ' ∧ RefAt w' (ext A w w') r ρ' ∧ Keeps A w w' := by
  have hd := rdead_any h hlf
  have H : Hid (RefIn w A r ρ fv lv vals) := h
  clear h
  unfold ptr at *
  cases hb : (ρ.left == 0)
  · rw [hb] at hd
    have HB : Hid (ρ.left ≠ 0) := by
      show ρ.left ≠ 0
      simpa using hb
    clear hb
    go_enter Try.func46, Try.ntmps46
    go_wp2_with fail
    refine hd.mono ?_
    rintro e w1 ⟨rfl, h1, k1, hs1⟩
    have kA : Keeps A w w1 := k1.mono (fun i _ e => by subst e; exact H.out.ownR)
    have hat := rat_any h1 hm hl hll s w1 (Keeps.refl _ w1)
    have H1 : Hid (RefIn w1 A r ρ.tick fv lv vals) := h1
    clear hd h1 hs1
    unfold ptr at hat
    go_wp2_with fail
    refine hat.mono ?_
    rintro e w2 ⟨k, rfl, hk, f2⟩
    have h2 := H1.out.kept (A' := A) f2 (fun _ _ e => e) (fun _ h => h)
    have k2 : Keeps A w w2 := kA.then f2 (fun _ _ e => e.elim)
    clear hat
    rcases hk with ⟨n, rfl, hn⟩ | ⟨rfl, hno⟩
    · have hlt := hin _ n hn
      obtain ⟨⟨d, q⟩, hf⟩ : ∃ f, ρ.files[n]? = some f := ⟨ρ.files[n], List.getElem?_eq_getElem hlt⟩
      have H2 : Hid (RefIn w2 A r ρ.tick fv lv vals) := h2
      obtain ⟨c0, _, _, _⟩ := h2.cells w2.drew rfl
      obtain ⟨ao, cap, rfl, hc1, hc2, hao⟩ := own_form' h2.files
      have e0 : ρ.tick.files.length = ρ.files.length := rfl
      rw [e0] at c0 hc2 hao
      obtain ⟨g, rfl⟩ := hao (by omega)
      have hfr : w2.ownsRow 0 112 2 (.slice (some ⟨g, 0, none⟩) ρ.files.length cap) ρ.files.length (rowOf ρ.files) := h2.files
      obtain ⟨D, hD⟩ : ∃ D : ByteArray, D = ⟨d.toArray⟩ := ⟨_, rfl⟩
      have cf : w2.drew.cell? ⟨g, n * 2, none⟩ = some (.string D) := by rw [hD]; exact own_cell' hfr _ _ (rowOf_get _ n _ hf).1
      have cg : w2.drew.cell? ⟨g, n * 2 + 1, none⟩ = some (.int .i64 q) := own_cell' hfr _ _ (rowOf_get _ n _ hf).2
      have ff : w2.drew.frozen? ⟨g, n * 2 + 1, none⟩ = false := owns_frozen hfr _
      unfold maxLen at hc1
      have HD : Hid (D.size = d.length) := by
        show D.size = d.length
        rw [hD]; simp [ByteArray.size]
      have HR : Hid ((s.data.toList, n) ∈ l ∧ ρ.files[n]? = some (d, q)) := ⟨hn, hf⟩
      have HFR : Hid (w2.ownsRow 0 112 2 (.slice (some ⟨g, 0, none⟩) ρ.files.length cap) ρ.files.length (rowOf ρ.files)) := hfr
      have z0 : ¬ ((n : Int) < 0) := by omega
      have z1 : (0 : Int) ≤ (n : Int) := by omega
      have z2 : (n : Int) < (ρ.files.length : Int) := by omega
      clear h2 hn hf hao hfr e0 hD
      go_wp2_with fail
      go_region
      all_goals
        go_wp2
        go_ret
        have k3 : Keeps (fun i => (Value.slice (some ⟨g, 0, none⟩) ρ.files.length cap).ownBlock = some i) w2 (w2.drew.setCell ⟨g, n * 2 + 1, none⟩ (.int .i64 D.size)) := Keeps.setCell (S := fun i => (Value.slice (some ⟨g, 0, none⟩) ρ.files.length cap).ownBlock = some i) (Keeps.drew (Keeps.refl _ w2)) (p := ⟨g, n * 2 + 1, none⟩) (fun _ => rfl) _
        refine ⟨0, _, rfl, .inr (.inr ⟨HB.out, n, d, q, HR.out.1, HR.out.2, rfl, rfl⟩), ⟨.slice (some ⟨g, 0, none⟩) ρ.files.length cap, lv, vals, ?_⟩, k2.then k3 (fun i _ e => H.out.ownF i e)⟩
        refine RefIn.kept (S := fun _ => False) (A := A) ?_ (Keeps.refl _ _) (fun _ _ e => e) (fun _ h => .inl h)
        refine H2.out.setFiles (files := ρ.files.set n (d, d.length)) ?_ k3
        rw [rowOf_set1 ρ.files n d q _ HR.out.2, List.length_set, ← HD.out]
        exact owns_set (w := w2.drew) HFR.out (n * 2 + 1) _ (by omega)
    · have HN : Hid (∀ n, (s.data.toList, n) ∉ l) := hno
      have H2 : Hid (RefIn w2 A r ρ.tick fv lv vals) := h2
      clear hno h2
      go_wp2
      go_ret
      exact ⟨4, ρ.tick, rfl, .inr (.inl ⟨HB.out, HN.out, rfl, rfl⟩), ⟨fv, lv, vals, H2.out.kept (S := fun _ => False) (Keeps.refl _ _) (fun _ _ e => e) (fun _ h => .inl h)⟩, k2⟩
  · rw [hb] at hd
    have HB : Hid (ρ.left = 0) := by
      show ρ.left = 0
      simpa using hb
    clear hb
    go_enter Try.func46, Try.ntmps46
    go_wp2_with fail
    refine hd.mono ?_
    rintro e w1 ⟨rfl, h1, k1, _⟩
    have kA : Keeps A w w1 := k1.mono (fun i _ e => by subst e; exact H.out.ownR)
    clear hd
    go_wp2
    go_ret
    exact ⟨6, ρ.tick, rfl, .inl ⟨HB.out, rfl, rfl⟩, ⟨fv, lv, vals, h1.kept (S := fun _ => False) (Keeps.refl _ _) (fun _ _ e => e) (fun _ h => .inl h)⟩, kA⟩
end
end Go.Proofs.Ytegbkpjcjlihmaa
