/-
  The player of boxes: names; what Open and Put leave of letters: plain. | The player of boxes: step.
-/
import Derived.Test.YtegbkpjcjlihmabGreatDoorGs
import Derived.Test.YtegbkpjcjlihmabGreatDoorGw
import Derived.Test.YtegbkpjcjlihmabGreatDoorGp
namespace Go.Proofs.YtegbkpjcjlihmabGreatDoor
open Go.RowKit Go.Maps Go.Sort Go.Lib

def boxT : Text := [98, 111, 120]

theorem numberOf_pre {s k : Text} {n : Int} (h : numberOf s k = some n) : k.isPrefixOf s = true := by
  unfold numberOf at h
  split at h
  · assumption
  · cases h

theorem wt_len (xs : List Text) (h : ∀ x ∈ xs, x.length ≤ 1099511627776) : (wt xs).length ≤ (xs.map (fun x => x.length + 22)).sum := by
  induction xs with
  | nil => simp [wt, wtext]
  | cons x xs ih =>
    rw [wt_cons]
    have := ih (fun y hy => h y (by simp [hy]))
    have h1 := Lib.itoa_length_le (x.length : Int) (by omega) (by have := h x (by simp); omega)
    simp only [List.length_append, List.length_cons, List.map_cons, List.sum_cons]
    omega

/-- the names that can come up in t steps, beside those of B -/
def KK (B : List Text) (t : Nat) : List Text := B ++ (List.range (t + 1)).flatMap (fun (i : Nat) => [lName (i : Int), mName (i : Int)])

structure BOk (B : List Text) : Prop where
  fresh : freshT ∈ B
  box : boxT ∈ B
  new : newT ∈ B
  nol : ∀ s ∈ B, lastT.isPrefixOf s = false
  size : ∀ s ∈ B, s.length < 4294967281
  canon : CanonK B
  len : B.length ≤ 1000000000

theorem mem_KK {B : List Text} {t : Nat} {s : Text} : s ∈ KK B t ↔ s ∈ B ∨ ∃ i : Nat, i ≤ t ∧ (s = lName (i : Int) ∨ s = mName (i : Int)) := by
  unfold KK
  rw [List.mem_append, List.mem_flatMap]
  refine or_congr Iff.rfl ⟨?_, ?_⟩
  · rintro ⟨i, hi, hs⟩
    simp at hs
    exact ⟨i, by have := List.mem_range.1 hi; omega, hs⟩
  · rintro ⟨i, hi, hs⟩
    exact ⟨i, List.mem_range.2 (by omega), by simpa using hs⟩

theorem KK_len (B : List Text) (t : Nat) : (KK B t).length = B.length + 2 * (t + 1) := by
  unfold KK
  rw [List.length_append]
  congr 1
  induction t with
  | zero => rfl
  | succ t ih => rw [List.range_succ, List.flatMap_append, List.length_append, ih]; simp; omega

theorem KK_sub {B : List Text} {t : Nat} {s : Text} (h : s ∈ KK B t) : s ∈ KK B (t + 1) := by
  rw [mem_KK] at *
  rcases h with h | ⟨i, hi, h⟩
  · exact .inl h
  · exact .inr ⟨i, by omega, h⟩

theorem letterOf_box {s : Text} {x : Ltr} (h : letterOf s = some x) : ∃ r, s = 98 :: 111 :: 120 :: 47 :: r := by
  unfold letterOf at h
  split at h
  · rename_i hp
    match s, hp with
    | a :: b :: c :: d :: r, hp =>
      simp [boxPre, List.isPrefixOf] at hp
      obtain ⟨rfl, rfl, rfl, rfl⟩ := hp
      exact ⟨r, rfl⟩
    | [], hp => simp [boxPre] at hp
    | [_], hp => simp [boxPre, List.isPrefixOf] at hp
    | [_, _], hp => simp [boxPre, List.isPrefixOf] at hp
    | [_, _, _], hp => simp [boxPre, List.isPrefixOf] at hp
  · cases h

theorem BOk.names {B : List Text} (h : BOk B) (t : Nat) (ht : t ≤ 1000000) : NamesOk (KK B t) where
  len := by rw [KK_len]; have := h.len; omega
  size := fun s hs => by
    rcases mem_KK.1 hs with hs | ⟨i, hi, rfl | rfl⟩
    · exact h.size s hs
    · have := Lib.itoa_length_le (i : Int) (by omega) (by omega)
      simp [lName, numName, lastT]; omega
    · have := Lib.itoa_length_le (i : Int) (by omega) (by omega)
      simp [mName, numName, mailT]; omega
  canon := fun s hs x hx => by
    rcases mem_KK.1 hs with hs | ⟨i, hi, rfl | rfl⟩
    · exact h.canon s hs x hx
    · obtain ⟨r, e⟩ := letterOf_box hx
      simp [lName, numName, lastT] at e
    · obtain ⟨r, e⟩ := letterOf_box hx
      simp [mName, numName, mailT] at e
  fresh := mem_KK.2 (.inl h.fresh)

theorem BOk.last {B : List Text} (h : BOk B) {t : Nat} (ht : t ≤ 1000000) {s : Text} (hs : s ∈ KK B t) {n : Int} (hn : numberOf s lastT = some n) : ∃ i : Nat, i ≤ t ∧ n = i := by
  have hp := numberOf_pre hn
  rcases mem_KK.1 hs with hs | ⟨i, hi, rfl | rfl⟩
  · rw [h.nol s hs] at hp; cases hp
  · refine ⟨i, hi, ?_⟩
    unfold numberOf at hn
    rw [if_pos hp] at hn
    have e : (lName (i : Int)).drop lastT.length = Lib.itoa (i : Int) := by unfold lName numName; rw [List.drop_left]
    rw [e, itoa_nat, atoiAll_digits i (by omega)] at hn
    exact (Option.some.inj hn).symm
  · simp [mName, numName, mailT, lastT, List.isPrefixOf] at hp

theorem Bst.more {K K' : List Text} {D : Text → Text} {σ : Dk} {l : List Lt3} {stop maybe : Bool} {x : Lt3} (h : Bst K D σ l stop maybe x) : Bst K' D σ l stop maybe x := ⟨h.up, h.boxed, h.stay, h.gone, h.may, h.left⟩

end Go.Proofs.YtegbkpjcjlihmabGreatDoor

namespace Go.Proofs.YtegbkpjcjlihmabGreatDoor
open Go.RowKit Go.Maps Go.Sort Go.Lib

def PAny (w : World) (K : List Text) (p d C L n : Nat) (wr : World) : Prop := ∃ stop, PNext w K p d C L n stop wr

section
variable {w wr : World} {K : List Text} {p d C L n C' L' n' : Nat} {A : Nat → Prop} {σ : Dk} {D : Text → Text} {l : List Lt3} {stop maybe : Bool} {x1 x2 x3 : ByteArray} {v : Value}

theorem PSt.mono (h : PSt w K p d C L n A σ D l stop maybe x1 x2 x3 v wr) (hC : C ≤ C') (hL : L ≤ L') (hn : n ≤ n') : PSt w K p d C' L' n' A σ D l stop maybe x1 x2 x3 v wr :=
  ⟨h.live.mono hC hL, h.cell, h.pA, h.pw, h.ls, h.st, by have := h.ln; omega, h.sz, h.sx⟩

theorem PSt.any (h : PSt w K p d C L n A σ D l stop maybe x1 x2 x3 v wr) (hC : C ≤ C') (hL : L ≤ L') (hn : n ≤ n') : PAny w K p d C' L' n' wr := ⟨stop, A, σ, D, l, maybe, x1, x2, x3, v, h.mono hC hL hn⟩

end

theorem Ints.fresh {w w' : World} {A : Nat → Prop} {v : Value} {ts : List Int} (h : Ints w A v ts) (k : Fresh w w') : Ints w' A v ts := by
  obtain ⟨ao, cap, e, h1, h2, h3⟩ := h
  refine ⟨ao, cap, e, h1, h2, fun hn => ?_⟩
  obtain ⟨b, off, e1, e2, e3⟩ := h3 hn
  exact ⟨b, off, e1, e2, fun j t ht => cell_keeps k (e3 j t ht) (fun e => e)⟩

section
variable {w wr : World} {B : List Text} {p d C L n t : Nat} {A : Nat → Prop} {σ : Dk} {D : Text → Text} {l : List Lt3} {stop maybe : Bool} {x1 x2 x3 : ByteArray} {v : Value}

end
end Go.Proofs.YtegbkpjcjlihmabGreatDoor
