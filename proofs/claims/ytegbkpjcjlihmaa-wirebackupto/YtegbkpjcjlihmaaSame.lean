/-
  The law's own 'same', at two lists of the same lines.
-/
import Derived.Test.YtegbkpjcjlihmaaRefb
namespace Go.Proofs.Ytegbkpjcjlihmaa
open Go.RowKit

theorem flat_get (most : Nat) (ls : List (List UInt8)) : ∀ (k : Nat) (l : List UInt8), ls[k]? = some l →
    (ls.flatMap (lineCells most))[k * 2]? = some (.string ⟨(lineOf most l).1.toArray⟩) ∧ (ls.flatMap (lineCells most))[k * 2 + 1]? = some (.int .i64 (lineOf most l).2) := by
  induction ls with
  | nil => intro k l h; simp at h
  | cons a ls ih =>
    intro k l h
    have e : (a :: ls).flatMap (lineCells most) = .string ⟨(lineOf most a).1.toArray⟩ :: .int .i64 (lineOf most a).2 :: ls.flatMap (lineCells most) := rfl
    rw [e]
    cases k with
    | zero => simp at h; subst h; exact ⟨rfl, rfl⟩
    | succ k =>
      have := ih k l (by simpa using h)
      rw [show (k + 1) * 2 = k * 2 + 1 + 1 from by omega]
      exact this

set_option maxHeartbeats 2000000 in
set_option maxRecDepth 100000 in
theorem same_any (most ba bb : Nat) (va vb : Value) (ls : List (List UInt8)) (_hn : ls.length < 1099511627776) (w : World) (ha : LinesAt w ba most va ls) (hb : RLinesAt w bb most vb ls) :
    Calls Try.prog 12 #[va, vb] w fun e w' => e = .returned (.bool true) ∧ Fresh w w' := by
  obtain ⟨ao, ca, rfl, hca, hcal, hao⟩ := own_form ha
  obtain ⟨bo, cb, rfl, hcb, hcbl, hbo⟩ := own_form hb
  unfold maxLen at hca hcb
  have Ha : Hid (LinesAt w ba most (.slice ao ls.length ca) ls) := ha
  have Hb : Hid (RLinesAt w bb most (.slice bo ls.length cb) ls) := hb
  clear ha hb
  go_enter Try.func12, Try.ntmps12
  go_wp2_with fail
  go_loopw [5] (fun t5 wr => ∃ k : Nat, k ≤ ls.length ∧ t5 = .int .i64 k ∧ Fresh w wr) (fun t5 _ => ls.length - (intOf t5).toNat)
  case atStart => exact ⟨0, Nat.zero_le _, rfl, Keeps.refl _ _⟩
  case round =>
    obtain ⟨k, hk, rfl, hf⟩ := hrel
    by_cases hlt : k < ls.length
    · obtain ⟨ga, rfl⟩ := hao (by omega)
      obtain ⟨gb, rfl⟩ := hbo (by omega)
      obtain ⟨l, hl⟩ : ∃ l, ls[k]? = some l := ⟨ls[k], List.getElem?_eq_getElem hlt⟩
      have hg := flat_get most ls k l hl
      have ha1 : LinesAt wr ba most (.slice (some ⟨ga, 0, none⟩) ls.length ca) ls := hf.owns Ha.out (fun _ _ e => e)
      have hb1 : RLinesAt wr bb most (.slice (some ⟨gb, 0, none⟩) ls.length cb) ls := hf.owns Hb.out (fun _ _ e => e)
      have a0 := own_cell ha1 _ _ hg.1
      have a1 := own_cell ha1 _ _ hg.2
      have b0 := own_cell hb1 _ _ hg.1
      have b1 := own_cell hb1 _ _ hg.2
      clear hg hl ha1 hb1 hao hbo
      have z1 : (0 : Int) ≤ (k : Int) := by omega
      have z2 : (k : Int) < (ls.length : Int) := by omega
      go_wp2_with fail
      go_quiet (fail)
      go_wp2_with fail
      go_roundw
      case rel => exact ⟨k + 1, by omega, by go_num, hf.drewN _⟩
      case measure => simp [intOf]; omega
    · have z2 : ¬ (k : Int) < (ls.length : Int) := by omega
      go_wp2
      go_ret
      exact ⟨rfl, hf⟩

end Go.Proofs.Ytegbkpjcjlihmaa
