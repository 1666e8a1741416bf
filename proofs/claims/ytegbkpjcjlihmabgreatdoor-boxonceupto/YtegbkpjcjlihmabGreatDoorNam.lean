/-
  A letter's name, plain: read back, it is the letter.
-/
import Derived.Lib.AtoiTie
import Derived.Lib.AtoiAllCases
import Derived.Lib.ItoaNum
import Derived.Lib.IndexMore
namespace Go.Proofs.YtegbkpjcjlihmabGreatDoor
open Go.Lib

theorem digit_ofNat {d : Nat} (h : d < 10) : digitVal (UInt8.ofNat (48 + d)) = some d := by
  have e : (UInt8.ofNat (48 + d)).toNat = 48 + d := by simp; omega
  unfold digitVal
  rw [e, if_pos (by omega)]
  congr 1; omega

theorem decFrom_snoc : ∀ (l : List UInt8) (a m d : Nat) (b : UInt8), decFrom a l = some m → digitVal b = some d → decFrom a (l ++ [b]) = some (m * 10 + d)
  | [], a, m, d, b, h, hd => by
    simp only [decFrom] at h
    obtain rfl := Option.some.inj h
    simp [decFrom, hd]
  | c :: l, a, m, d, b, h, hd => by
    simp only [decFrom, List.cons_append] at h ⊢
    cases hc : digitVal c with
    | none => rw [hc] at h; cases h
    | some y =>
      rw [hc] at h
      exact decFrom_snoc l _ m d b h hd

theorem decFrom_digits (n : Nat) : decFrom 0 (decDigits n) = some n := by
  induction n using Nat.strongRecOn with
  | _ n ih =>
    rw [decDigits]
    split
    · rename_i h
      simp only [decFrom, digit_ofNat h]
      simp
    · rename_i h
      have := decFrom_snoc _ 0 _ _ _ (ih (n / 10) (by omega)) (digit_ofNat (d := n % 10) (by omega))
      rw [this]
      congr 1; omega

theorem digits_are (n : Nat) : ∀ b ∈ decDigits n, 48 ≤ b.toNat ∧ b.toNat ≤ 57 := by
  induction n using Nat.strongRecOn with
  | _ n ih =>
    intro b hb
    rw [decDigits] at hb
    have one : ∀ d, d < 10 → b = UInt8.ofNat (48 + d) → 48 ≤ b.toNat ∧ b.toNat ≤ 57 := fun d hd e => by
      have e1 : (UInt8.ofNat (48 + d)).toNat = 48 + d := by simp; omega
      rw [e, e1]; omega
    split at hb
    · rename_i h
      simp at hb
      exact one n h (by rw [hb]; simp)
    · rename_i h
      rcases List.mem_append.1 hb with hb | hb
      · exact ih (n / 10) (by omega) b hb
      · exact one (n % 10) (by omega) (by simpa using hb)

theorem digits_ne (n : Nat) : decDigits n ≠ [] := by
  rw [decDigits]
  split <;> simp

theorem digits_len : ∀ (k n : Nat), n < 10 ^ (k + 1) → (decDigits n).length ≤ k + 1
  | 0, n, h => by
    rw [decDigits, dif_pos (by omega)]
    simp
  | k + 1, n, h => by
    rw [decDigits]
    split
    · simp
    · have := digits_len k (n / 10) (by rw [Nat.div_lt_iff_lt_mul (by omega)]; rw [Nat.pow_succ] at h; exact h)
      simp only [List.length_append, List.length_cons, List.length_nil]
      omega

theorem atoi_digits (n : Nat) : atoi (decDigits n) = some (n : Int) := by
  have h1 := digits_are n
  have h2 := decFrom_digits n
  have h3 := digits_ne n
  cases h : decDigits n with
  | nil => exact absurd h h3
  | cons b r =>
    rw [h] at h1 h2
    have hb := h1 b (by simp)
    have n45 : (b == 45) = false := by
      rw [beq_eq_false_iff_ne]; intro e; rw [e] at hb; simp at hb
    have n43 : (b == 43) = false := by
      rw [beq_eq_false_iff_ne]; intro e; rw [e] at hb; simp at hb
    simp only [atoi, n45, n43, Bool.false_eq_true, if_false]
    have : decNat (b :: r) = some n := by
      unfold decNat
      rw [if_neg (by simp)]; exact h2
    rw [this]; rfl

theorem atoiAll_digits (n : Nat) (h : n < 1000000000000000000) : atoiAll (decDigits n) = .ok (n : Int) := by
  rw [atoiAll_short _ (digits_len 17 n (by omega)), atoi_digits]
  rfl

theorem itoa_nat (n : Nat) : itoa (n : Int) = decDigits n := by
  unfold itoa
  rw [if_neg (by omega), Int.toNat_natCast]

/-- a text cut at the first of a byte -/
theorem cut_at (l r : List UInt8) (c : UInt8) (h : ∀ b ∈ l, b ≠ c) : cut (l ++ c :: r) [c] = (l, r, true) := by
  have hi : index (l ++ c :: r) [c] = (l.length : Int) := by
    refine index_first (by simp) ?_ (fun j hj => ?_)
    · unfold occAt
      rw [List.drop_left]
      simp [List.isPrefixOf]
    · unfold occAt
      rw [List.drop_append_of_le_length (by omega)]
      have : l.drop j = l[j] :: l.drop (j + 1) := List.drop_eq_getElem_cons hj
      rw [this]
      have hn := h l[j] (List.getElem_mem hj)
      simp only [List.cons_append, List.isPrefixOf, Bool.and_true]
      rw [beq_eq_false_iff_ne]
      exact fun e => hn e.symm
  unfold cut
  rw [hi, if_pos (by omega)]
  simp

theorem cut_none (l : List UInt8) (c : UInt8) (h : ∀ b ∈ l, b ≠ c) : cut l [c] = (l, [], false) := by
  have hi : index l [c] = -1 := by
    refine index_none (fun j hj => ?_)
    unfold occAt
    rcases Nat.lt_or_ge j l.length with hj | hj
    · have : l.drop j = l[j] :: l.drop (j + 1) := List.drop_eq_getElem_cons hj
      rw [this]
      have hn := h l[j] (List.getElem_mem hj)
      simp only [List.isPrefixOf, Bool.and_true]
      rw [beq_eq_false_iff_ne]
      exact fun e => hn e.symm
    · rw [List.drop_of_length_le hj]; rfl
  unfold cut
  rw [hi, if_neg (by omega)]

def boxPre : List UInt8 := [98, 111, 120, 47]
def freshT : List UInt8 := [98, 111, 120, 47, 110, 101, 119]

/-- a letter's name -/
def nameOf (u k : List UInt8) : List UInt8 := boxPre ++ (decDigits u.length ++ 58 :: (u ++ k))

/-- the letter of a name -/
def letterOf (s : List UInt8) : Option (List UInt8 × List UInt8) :=
  if boxPre.isPrefixOf s = true then
    if (cut (s.drop 4) [58]).2.2 = true then
      match atoiAll (cut (s.drop 4) [58]).1 with
      | .ok n => if 0 ≤ n ∧ n ≤ ((cut (s.drop 4) [58]).2.1).length then some ((cut (s.drop 4) [58]).2.1.take n.toNat, (cut (s.drop 4) [58]).2.1.drop n.toNat) else none
      | _ => none
    else none
  else none

theorem letterOf_nameOf (u k : List UInt8) (h : u.length < 1000000000000000000) : letterOf (nameOf u k) = some (u, k) := by
  have hp : boxPre.isPrefixOf (nameOf u k) = true := by simp [nameOf, List.isPrefixOf_iff_prefix]
  have hd : (nameOf u k).drop 4 = decDigits u.length ++ 58 :: (u ++ k) := by simp [nameOf, boxPre]
  have hc : cut (decDigits u.length ++ 58 :: (u ++ k)) [58] = (decDigits u.length, u ++ k, true) :=
    cut_at _ _ _ (fun b hb e => by have := digits_are u.length b hb; rw [e] at this; simp at this)
  unfold letterOf
  rw [if_pos hp, hd, hc]
  simp only [if_true, atoiAll_digits u.length h]
  rw [if_pos ⟨by omega, by simp only [List.length_append]; omega⟩]
  simp

theorem letterOf_fresh : letterOf freshT = none := by
  have hc : cut (freshT.drop 4) [58] = (freshT.drop 4, [], false) := cut_none _ _ (by decide)
  unfold letterOf
  rw [hc]
  simp

theorem nameOf_ne_fresh (u k : List UInt8) (h : u.length < 1000000000000000000) : nameOf u k ≠ freshT := fun e => by
  have h1 := letterOf_nameOf u k h
  rw [e, letterOf_fresh] at h1
  cases h1

theorem nameOf_inj {u k u' k' : List UInt8} (h : u.length < 1000000000000000000) (h' : u'.length < 1000000000000000000) (e : nameOf u k = nameOf u' k') : u = u' ∧ k = k' := by
  have h1 := letterOf_nameOf u k h
  have h2 := letterOf_nameOf u' k' h'
  rw [e, h2] at h1
  have := Option.some.inj h1
  simp only [Prod.mk.injEq] at this
  exact ⟨this.1.symm, this.2.symm⟩

theorem nameOf_len (u k : List UInt8) (h : u.length < 1000000000000000000) : (nameOf u k).length ≤ u.length + k.length + 23 := by
  have := digits_len 17 u.length (by omega)
  simp [nameOf, boxPre]
  omega

end Go.Proofs.YtegbkpjcjlihmabGreatDoor
