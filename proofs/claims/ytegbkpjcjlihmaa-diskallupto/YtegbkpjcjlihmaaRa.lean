/-
  The reference in memory; its small calls.
-/
import Derived.Test.YtegbkpjcjlihmaaRp
import Derived.Test.YtegbkpjcjlihmaaDsk
import Derived.BigQuiet
import Derived.Sort.Walk0
namespace Go.Proofs.Ytegbkpjcjlihmaa
open Go.RowKit Go.Maps

def pairCells (e : Text × Nat) : List Value := [.string ⟨e.1.toArray⟩, .int .i64 e.2]
/-- a row of pairs -/
def rowOf (l : List (Text × Nat)) : List Value := l.flatMap pairCells

theorem rowOf_get (ls : List (Text × Nat)) : ∀ (k : Nat) (e : Text × Nat), ls[k]? = some e → (rowOf ls)[k * 2]? = some (.string ⟨e.1.toArray⟩) ∧ (rowOf ls)[k * 2 + 1]? = some (.int .i64 e.2) := by
  induction ls with
  | nil => intro k l h; simp at h
  | cons a ls ih =>
    intro k l h
    have e : rowOf (a :: ls) = .string ⟨a.1.toArray⟩ :: .int .i64 a.2 :: rowOf ls := rfl
    rw [e]
    cases k with
    | zero => simp at h; subst h; exact ⟨rfl, rfl⟩
    | succ k =>
      have := ih k l (by simpa using h)
      rw [show (k + 1) * 2 = k * 2 + 1 + 1 from by omega]
      exact this

theorem rowOf_length (l : List (Text × Nat)) : (rowOf l).length = l.length * 2 := by
  induction l with
  | nil => rfl
  | cons a l ih =>
    have e : rowOf (a :: l) = .string ⟨a.1.toArray⟩ :: .int .i64 a.2 :: rowOf l := rfl
    rw [e]
    simp only [List.length_cons, ih]
    omega

theorem rowOf_append (l m : List (Text × Nat)) : rowOf (l ++ m) = rowOf l ++ rowOf m := by unfold rowOf; simp

/-- a list of names in memory -/
def EntsAt (w : World) (base : Nat) (v : Value) (l : List Ent) : Prop := w.ownsRow base 115 2 v l.length (rowOf l)

theorem own_form' {w : World} {base : Nat} {e : TypeId} {size : Nat} {v : Value} {n : Nat} {xs : List Value} (h : w.ownsRow base e size v n xs) : ∃ ao cap, v = .slice ao n cap ∧ cap ≤ maxLen ∧ n ≤ cap ∧ (n ≠ 0 → ∃ g, ao = some ⟨g, 0, none⟩) := by
  rcases h.2 with ⟨rfl, rfl⟩ | ⟨g, cap, cur, rfl, _, _, h1, h2, _⟩
  · exact ⟨none, 0, rfl, by unfold maxLen; omega, Nat.le_refl _, fun h => absurd rfl h⟩
  · exact ⟨_, cap, rfl, h2, h1, fun _ => ⟨g, rfl⟩⟩

theorem own_cell' {w : World} {base : Nat} {e : TypeId} {size g n cap : Nat} {xs : List Value} (h : w.ownsRow base e size (.slice (some ⟨g, 0, none⟩) n cap) n xs) (j : Nat) (u : Value) (hu : xs[j]? = some u) : w.cell? ⟨g, j, none⟩ = some u := by
  have := h.cells (g := g) rfl j u hu
  have hadd : (⟨g, 0, none⟩ : Addr).add j = ⟨g, j, none⟩ := by unfold Addr.add; split <;> simp_all
  rwa [hadd] at this

theorem Keeps.cellOf {S : Nat → Prop} {w w' : World} (h : Keeps S w w') {b i : Nat} {u : Value} (hc : w.cell? ⟨b, i, none⟩ = some u) (hn : ¬ S b) : w'.cell? ⟨b, i, none⟩ = some u := by
  have hlt : b < w.heap.size := by
    rcases Nat.lt_or_ge b w.heap.size with h' | h'
    · exact h'
    · simp [World.cell?, Array.getElem?_eq_none h'] at hc
  have hb := h.block b hlt hn
  simpa [World.cell?, hb] using hc

/-- what find answers -/
def Finds (l : List Ent) (s : Text) (k : Int) : Prop := (∃ i n, k = ((i : Nat) : Int) ∧ l[i]? = some (s, n)) ∨ (k = -1 ∧ ∀ n, (s, n) ∉ l)

theorem beq_text (a : Text) (s : ByteArray) : ((⟨a.toArray⟩ : ByteArray).toList == s.toList) = decide (a = s.data.toList) := by
  rw [ByteArray.toList_eq, ByteArray.toList_eq]
  by_cases h : a = s.data.toList
  · simp [h]
  · simp [h]

set_option maxHeartbeats 2000000 in
set_option maxRecDepth 100000 in
theorem find_any (base : Nat) (v : Value) (l : List Ent) (s : ByteArray) (w : World) (h : EntsAt w base v l) (_hl : l.length ≤ 1099511627776) :
    Calls Try.prog 74 #[v, .string s] w fun e w' => ∃ k, e = .returned (.int .i64 k) ∧ Finds l s.data.toList k ∧ Fresh w w' := by
  obtain ⟨ao, cap, rfl, hc1, hc2, hao⟩ := own_form' h
  unfold maxLen at hc1
  have H : Hid (EntsAt w base (.slice ao l.length cap) l) := h
  clear h
  go_enter Try.func74, Try.ntmps74
  go_wp2_with fail
  go_loopw [5] (fun t5 wr => ∃ i : Nat, i ≤ l.length ∧ t5 = .int .i64 i ∧ Fresh w wr ∧ ∀ j e, j < i → l[j]? = some e → e.1 ≠ s.data.toList) (fun t5 _ => l.length - (intOf t5).toNat)
  case atStart => exact ⟨0, Nat.zero_le _, rfl, Keeps.refl _ _, fun j e hj => absurd hj (Nat.not_lt_zero _)⟩
  case round =>
    obtain ⟨i, hi, rfl, hf, hno⟩ := hrel
    have HN : Hid (∀ j e, j < i → l[j]? = some e → e.1 ≠ s.data.toList) := hno
    clear hno
    by_cases hlt : i < l.length
    · obtain ⟨g, rfl⟩ := hao (by omega)
      obtain ⟨e, he⟩ : ∃ e, l[i]? = some e := ⟨l[i], List.getElem?_eq_getElem hlt⟩
      have c0 : wr.cell? ⟨g, i * 2, none⟩ = some (.string ⟨e.1.toArray⟩) := hf.cellOf (own_cell' H.out _ _ (rowOf_get l i e he).1) (fun e => e)
      have HE : Hid (l[i]? = some e) := he
      have z1 : (0 : Int) ≤ (i : Int) := by omega
      have z2 : (i : Int) < (l.length : Int) := by omega
      have hbt := beq_text e.1 s
      clear he
      by_cases hq : e.1 = s.data.toList
      · have hb : ((⟨e.1.toArray⟩ : ByteArray).toList == s.toList) = true := by rw [hbt]; simpa using hq
        have HQ : Hid (e.1 = s.data.toList) := hq
        have hq' : (e.1 == s.toList) = true := by rw [ByteArray.toList_eq]; simpa using hq
        clear hq hbt
        go_wp2
        go_ret
        exact ⟨_, rfl, .inl ⟨i, e.2, rfl, by rw [HE.out, ← HQ.out]⟩, hf⟩
      · have hb : ((⟨e.1.toArray⟩ : ByteArray).toList == s.toList) = false := by rw [hbt]; simpa using hq
        have HQ : Hid (¬ e.1 = s.data.toList) := hq
        have hq' : (e.1 == s.toList) = false := by rw [ByteArray.toList_eq]; simpa using hq
        clear hq hbt
        go_wp2_with fail
        go_roundw
        case rel =>
          refine ⟨i + 1, by omega, by go_num, hf, fun j e' hj he' => ?_⟩
          rcases Nat.lt_succ_iff_lt_or_eq.1 hj with h1 | h1
          · exact HN.out j e' h1 he'
          · subst h1
            rw [HE.out] at he'
            rw [← Option.some.inj he']
            exact HQ.out
        case measure => simp [intOf]; omega
    · have z2 : ¬ (i : Int) < (l.length : Int) := by omega
      have HG : Hid (l.length ≤ i) := (by omega : l.length ≤ i)
      go_wp2
      go_ret
      refine ⟨-1, rfl, .inr ⟨rfl, fun n hn => ?_⟩, hf⟩
      obtain ⟨j, hj, he⟩ := List.getElem_of_mem hn
      exact HN.out j _ (Nat.lt_of_lt_of_le hj HG.out) (by rw [List.getElem?_eq_getElem hj, he]) rfl

end Go.Proofs.Ytegbkpjcjlihmaa
