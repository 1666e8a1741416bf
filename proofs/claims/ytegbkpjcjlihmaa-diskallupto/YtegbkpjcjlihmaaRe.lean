/-
  The reference disk: at, Read, Names, SyncDir, Append, Sync.
-/
import Derived.Test.YtegbkpjcjlihmaaRd
import Derived.RegionTactic
namespace Go.Proofs.Ytegbkpjcjlihmaa
open Go.RowKit Go.Maps

/-- what 'at' answers -/
def Ats (l : List Ent) (s : Text) (k : Int) : Prop := (∃ n : Nat, k = (n : Int) ∧ (s, n) ∈ l) ∨ (k = -1 ∧ ∀ n, (s, n) ∉ l)

section
variable {w : World} {A : Nat → Prop} {r : Nat} {ρ : Rf} {fv lv : Value} {vals : List Value}

set_option maxHeartbeats 2000000 in
set_option maxRecDepth 100000 in
theorem rat_any (h : RefIn w A r ρ fv lv vals) {m : Nat} {l : List Ent} (hm : ρ.log.length = m + 1) (hl : ρ.log[m]? = some l) (hll : l.length ≤ 1099511627) (s : ByteArray) (W : World) (hF : Fresh w W) :
    Calls Try.prog 77 #[ptr r, .string s] W fun e w' => ∃ k, e = .returned (.int .i64 k) ∧ Ats l s.data.toList k ∧ Fresh W w' := by
  have hvl : vals.length = m + 1 := by rw [h.len]; exact hm
  obtain ⟨v, hv⟩ : ∃ v, vals[m]? = some v := ⟨vals[m]'(by omega), List.getElem?_eq_getElem _⟩
  have hE := h.ents m v l hv hl
  have hn := rnow_any h hvl hv W hF
  obtain ⟨ao, cap, rfl, hc1, hc2, hao⟩ := own_form' hE
  unfold maxLen at hc1
  have HE : Hid (EntsAt w 0 (.slice ao l.length cap) l) := hE
  clear h hv hE
  unfold ptr at *
  go_enter Try.func77, Try.ntmps77
  go_wp2_with fail
  refine hn.mono ?_
  rintro e w1 ⟨rfl, f1⟩
  have E1 : EntsAt w1 0 (.slice ao l.length cap) l := (hF.trans f1).owns HE.out (fun _ _ e => e)
  have hfd := find_any 0 _ l s w1 E1 (by omega)
  go_wp2_with fail
  refine hfd.mono ?_
  rintro e w2 ⟨k, rfl, hk, f2⟩
  have E2 : EntsAt w2 0 (.slice ao l.length cap) l := f2.owns E1 (fun _ _ e => e)
  clear hfd E1 hn
  rcases hk with ⟨i, n, rfl, hi⟩ | ⟨rfl, hno⟩
  · have hlt : i < l.length := (List.getElem?_eq_some_iff.1 hi).1
    obtain ⟨g, rfl⟩ := hao (by omega)
    have c1 := own_cell' E2 _ _ (rowOf_get l i _ hi).2
    have HM : Hid ((s.data.toList, n) ∈ l) := List.mem_of_getElem? hi
    have z0 : ¬ ((i : Int) < 0) := by omega
    have z1 : (0 : Int) ≤ (i : Int) := by omega
    have z2 : (i : Int) < (l.length : Int) := by omega
    clear E2 hi
    go_wp2
    go_ret
    exact ⟨_, rfl, .inl ⟨n, rfl, HM.out⟩, f1.trans f2⟩
  · have HN : Hid (∀ n, (s.data.toList, n) ∉ l) := hno
    clear hno E2
    go_wp2
    go_ret
    exact ⟨_, rfl, .inr ⟨rfl, HN.out⟩, f1.trans f2⟩

/-- what 'Read' answers -/
def Reads (ρ : Rf) (l : List Ent) (s : Text) (t : Text) (b : Bool) : Prop := (∃ n k, (s, n) ∈ l ∧ ρ.files[n]? = some (t, k) ∧ b = true) ∨ ((∀ n, (s, n) ∉ l) ∧ t = [] ∧ b = false)

set_option maxHeartbeats 2000000 in
theorem rread_any (h : RefIn w A r ρ fv lv vals) {m : Nat} {l : List Ent} (hm : ρ.log.length = m + 1) (hl : ρ.log[m]? = some l) (hll : l.length ≤ 1099511627) (hin : ∀ s n, (s, n) ∈ l → n < ρ.files.length) (s : ByteArray) (W : World) (hF : Fresh w W) :
    Calls Try.prog 55 #[ptr r, .string s] W fun e w' => ∃ t b, e = .returned (.tuple #[.string ⟨t.toArray⟩, .bool b]) ∧ Reads ρ l s.data.toList t b ∧ Fresh W w' := by
  have hat := rat_any h hm hl hll s W hF
  have H : Hid (RefIn w A r ρ fv lv vals) := h
  clear h
  unfold ptr at *
  go_enter Try.func55, Try.ntmps55
  go_wp2_with fail
  refine hat.mono ?_
  rintro e w1 ⟨k, rfl, hk, f1⟩
  have hI := H.out.kept (A' := A) (hF.trans f1) (fun _ _ e => e) (fun _ h => h)
  rcases hk with ⟨n, rfl, hn⟩ | ⟨rfl, hno⟩
  · have hlt := hin _ n hn
    obtain ⟨⟨t, q⟩, hf⟩ : ∃ f, ρ.files[n]? = some f := ⟨ρ.files[n], List.getElem?_eq_getElem hlt⟩
    obtain ⟨c0, _, _, _⟩ := hI.cells w1 rfl
    obtain ⟨ao, cap, rfl, hc1, hc2, hao⟩ := own_form' hI.files
    obtain ⟨g, rfl⟩ := hao (by omega)
    have cf := own_cell' hI.files _ _ (rowOf_get _ n _ hf).1
    unfold maxLen at hc1
    have HR : Hid (Reads ρ l s.data.toList t true) := .inl ⟨n, q, hn, hf, rfl⟩
    have z0 : ¬ ((n : Int) < 0) := by omega
    have z1 : (0 : Int) ≤ (n : Int) := by omega
    have z2 : (n : Int) < (ρ.files.length : Int) := by omega
    clear hI hn hf hat hao
    go_wp2
    go_ret2
    exact ⟨_, _, rfl, HR.out, f1⟩
  · have HR : Hid (Reads ρ l s.data.toList [] false) := .inr ⟨hno, rfl, rfl⟩
    clear hno hI hat
    go_wp2
    go_ret2
    exact ⟨[], false, rfl, HR.out, f1⟩

end
end Go.Proofs.Ytegbkpjcjlihmaa
