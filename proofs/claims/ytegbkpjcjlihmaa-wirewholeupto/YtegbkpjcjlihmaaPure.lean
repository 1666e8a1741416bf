/-
  Lines of a stream, in plain lists: no program is named here.
-/
namespace Go.Proofs.Ytegbkpjcjlihmaa

/-- a CR or a LF -/
def hasCL (l : List UInt8) : Bool := l.any (fun c => c == 13 || c == 10)

/-- B2, of a line -/
def lineOf (most : Nat) (l : List UInt8) : List UInt8 × Int := if l.length ≤ most then (if hasCL l then (l, 1) else (l, 0)) else ([], 2)

/-- the lines so far, and what stands behind the last one; the next byte -/
def step (st : List (List UInt8) × List UInt8) (c : UInt8) : List (List UInt8) × List UInt8 :=
  if c = 10 ∧ st.2.getLast? = some 13 then (st.1 ++ [st.2.dropLast], []) else (st.1, st.2 ++ [c])

def runFrom (st : List (List UInt8) × List UInt8) (s : List UInt8) : List (List UInt8) × List UInt8 := s.foldl step st

/-- cut, behind what stands already -/
def cutFrom (cur s : List UInt8) : List (List UInt8) × List UInt8 := runFrom ([], cur) s

theorem runFrom_nil (st : List (List UInt8) × List UInt8) : runFrom st [] = st := rfl
theorem runFrom_cons (st : List (List UInt8) × List UInt8) (c : UInt8) (s : List UInt8) : runFrom st (c :: s) = runFrom (step st c) s := rfl
theorem runFrom_append (st : List (List UInt8) × List UInt8) (a b : List UInt8) : runFrom st (a ++ b) = runFrom (runFrom st a) b := by
  simp [runFrom]
theorem runFrom_snoc (st : List (List UInt8) × List UInt8) (a : List UInt8) (c : UInt8) : runFrom st (a ++ [c]) = step (runFrom st a) c := by
  simp [runFrom]

theorem step_lines (ls : List (List UInt8)) (st : List (List UInt8) × List UInt8) (c : UInt8) : step (ls ++ st.1, st.2) c = (ls ++ (step st c).1, (step st c).2) := by
  unfold step
  split <;> simp

theorem runFrom_lines (ls : List (List UInt8)) (s : List UInt8) : ∀ st : List (List UInt8) × List UInt8, runFrom (ls ++ st.1, st.2) s = (ls ++ (runFrom st s).1, (runFrom st s).2) := by
  induction s with
  | nil => intro st; rfl
  | cons c s ih =>
    intro st
    rw [runFrom_cons, runFrom_cons, step_lines]
    exact ih (step st c)

theorem runFrom_eq (ls : List (List UInt8)) (cur s : List UInt8) : runFrom (ls, cur) s = (ls ++ (cutFrom cur s).1, (cutFrom cur s).2) := by
  have := runFrom_lines ls s ([], cur)
  simpa [cutFrom] using this

theorem cutFrom_append (cur a b : List UInt8) : cutFrom cur (a ++ b) = ((cutFrom cur a).1 ++ (cutFrom (cutFrom cur a).2 b).1, (cutFrom (cutFrom cur a).2 b).2) := by
  unfold cutFrom
  rw [runFrom_append]
  have := runFrom_eq (runFrom ([], cur) a).1 (runFrom ([], cur) a).2 b
  simpa [cutFrom] using this

/-- a CR stands at the end -/
def crOf (cur : List UInt8) : Bool := cur.getLast? == some 13
/-- what belongs to the line, whatever comes -/
def bodyOf (cur : List UInt8) : List UInt8 := if crOf cur then cur.dropLast else cur

theorem body_cr {cur : List UInt8} (h : crOf cur = true) : bodyOf cur ++ [13] = cur := by
  unfold bodyOf
  rw [if_pos h]
  unfold crOf at h
  have h' := beq_iff_eq.1 h
  obtain ⟨l, rfl⟩ := List.getLast?_eq_some_iff.1 h'
  simp

theorem body_plain {cur : List UInt8} (h : crOf cur = false) : bodyOf cur = cur := by
  unfold bodyOf
  simp [h]

theorem cr_snoc (cur : List UInt8) (c : UInt8) : crOf (cur ++ [c]) = (c == 13) := by
  simp [crOf]

theorem body_snoc (cur : List UInt8) (c : UInt8) : bodyOf (cur ++ [c]) = if c = 13 then cur else cur ++ [c] := by
  unfold bodyOf
  rw [cr_snoc]
  by_cases h : c = 13 <;> simp [h]

theorem body_length_le (cur : List UInt8) : (bodyOf cur).length ≤ cur.length := by
  unfold bodyOf
  split
  · simp
  · exact Nat.le_refl _

theorem rest_length (cur : List UInt8) : (bodyOf cur).length + (if crOf cur then 1 else 0) = cur.length := by
  cases h : crOf cur
  · simp [body_plain h]
  · have := congrArg List.length (body_cr h)
    simp at this ⊢
    omega

theorem step_end {ls : List (List UInt8)} {cur : List UInt8} (h : crOf cur = true) : step (ls, cur) 10 = (ls ++ [bodyOf cur], []) := by
  have h' := beq_iff_eq.1 h
  unfold step bodyOf
  simp [h', h]

theorem step_more {ls : List (List UInt8)} {cur : List UInt8} {c : UInt8} (h : ¬ (crOf cur = true ∧ c = 10)) : step (ls, cur) c = (ls, cur ++ [c]) := by
  unfold step
  rw [if_neg]
  rintro ⟨h1, h2⟩
  exact h ⟨beq_iff_eq.2 h2, h1⟩

/-- what the reader keeps of a line -/
def txt (most : Nat) (body : List UInt8) : List UInt8 := if body.length ≤ most then body else []

theorem txt_keep {most : Nat} {body : List UInt8} (c : UInt8) (h : body.length + 1 ≤ most) : txt most (body ++ [c]) = txt most body ++ [c] := by
  unfold txt
  rw [if_pos (by simpa using h), if_pos (by omega)]

theorem txt_reset {most : Nat} {body : List UInt8} (c : UInt8) (h : ¬ body.length + 1 ≤ most) : txt most (body ++ [c]) = [] := by
  unfold txt
  rw [if_neg (by simpa using h)]

theorem txt_length_le (most : Nat) (body : List UInt8) : (txt most body).length ≤ most := by
  unfold txt
  split <;> simp_all

theorem cut_lengths (s : List UInt8) : ∀ cur : List UInt8, (cutFrom cur s).2.length ≤ cur.length + s.length ∧ (cutFrom cur s).1.length ≤ s.length := by
  induction s with
  | nil => intro cur; simp [cutFrom, runFrom]
  | cons c s ih =>
    intro cur
    have e : cutFrom cur (c :: s) = _ := cutFrom_append cur [c] s
    rw [e]
    have h1 : (cutFrom cur [c]).2.length ≤ cur.length + 1 ∧ (cutFrom cur [c]).1.length ≤ 1 := by
      unfold cutFrom runFrom
      simp only [List.foldl]
      unfold step
      split <;> simp
    have := ih (cutFrom cur [c]).2
    simp only [List.length_append, List.length_cons]
    omega

theorem cut_mem (s : List UInt8) : ∀ cur : List UInt8, ∀ l ∈ (cutFrom cur s).1, l.length ≤ cur.length + s.length := by
  induction s with
  | nil => intro cur l hl; simp [cutFrom, runFrom] at hl
  | cons c s ih =>
    intro cur l hl
    have e : cutFrom cur (c :: s) = _ := cutFrom_append cur [c] s
    rw [e] at hl
    simp only [List.mem_append] at hl
    have h1 : (cutFrom cur [c]).2.length ≤ cur.length + 1 ∧ ∀ l ∈ (cutFrom cur [c]).1, l.length ≤ cur.length := by
      unfold cutFrom runFrom
      simp only [List.foldl]
      unfold step
      split
      · refine ⟨by simp, ?_⟩
        intro l hl
        simp at hl
        subst hl
        simp
      · exact ⟨by simp, by intro l hl; simp at hl⟩
    simp only [List.length_cons]
    rcases hl with hl | hl
    · have := h1.2 l hl
      omega
    · have := ih (cutFrom cur [c]).2 l hl
      omega

theorem cut_snoc (cur0 pre : List UInt8) (c : UInt8) : cutFrom cur0 (pre ++ [c]) = step (cutFrom cur0 pre) c := runFrom_snoc _ _ _

/-- no CR LF in it -/
def NoEnd (l : List UInt8) : Prop := ∀ j : Nat, ¬ (l[j]? = some (13 : UInt8) ∧ l[j + 1]? = some (10 : UInt8))

/-- no CR LF in it: no line ends in it -/
theorem cut_none (l : List UInt8) (h : NoEnd l) : cutFrom [] l = ([], l) := by
  have key : ∀ k, k ≤ l.length → cutFrom [] (l.take k) = ([], l.take k) := by
    intro k
    induction k with
    | zero => intro _; rfl
    | succ k ih =>
      intro hk
      have hg : l[k]? = some l[k] := List.getElem?_eq_getElem (by omega)
      have ht : l.take (k + 1) = l.take k ++ [l[k]] := by
        rw [List.take_add_one, hg]; rfl
      rw [ht, cut_snoc, ih (by omega)]
      unfold step
      simp only []
      rw [if_neg]
      rintro ⟨h1, h2⟩
      cases k with
      | zero => simp at h2
      | succ k =>
        rw [List.getLast?_eq_getElem?] at h2
        simp only [List.length_take, Nat.min_eq_left (show k + 1 ≤ l.length by omega), Nat.add_sub_cancel, List.getElem?_take, if_pos (Nat.lt_succ_self k)] at h2
        exact h k ⟨h2, by rw [hg, h1]⟩
  have := key l.length (Nat.le_refl _)
  rwa [List.take_length] at this

theorem cut_first (a b : List UInt8) (h : NoEnd (a ++ [13])) : cutFrom [] (a ++ [13, 10] ++ b) = (a :: (cutFrom [] b).1, (cutFrom [] b).2) := by
  have e : a ++ [13, 10] ++ b = (a ++ [13]) ++ ([10] ++ b) := by simp
  rw [e, cutFrom_append, cut_none _ h]
  have e2 : cutFrom (a ++ [13]) ([10] ++ b) = _ := cutFrom_append (a ++ [13]) [10] b
  rw [e2]
  have e3 : cutFrom (a ++ [13]) [10] = ([a], []) := by
    simp [cutFrom, runFrom, step]
  rw [e3]
  simp

/-- B3: the pieces of data -/
def pieces (d : List UInt8) : List (List UInt8) := if (cutFrom [] d).2 = [] then (cutFrom [] d).1 else (cutFrom [] d).1 ++ [(cutFrom [] d).2]

theorem pieces_nil : pieces [] = [] := rfl

theorem pieces_first (a b : List UInt8) (h : NoEnd (a ++ [13])) : pieces (a ++ [13, 10] ++ b) = a :: pieces b := by
  unfold pieces
  rw [cut_first a b h]
  simp only []
  split <;> simp

theorem pieces_last (d : List UInt8) (h0 : d ≠ []) (h : NoEnd d) : pieces d = [d] := by
  unfold pieces
  rw [cut_none d h]
  simp [h0]

/-- a piece, as it is sent -/
def stuffed (l : List UInt8) : List UInt8 := (if l.head? = some 46 then [46] else []) ++ l ++ [13, 10]

/-- B3: Stuff -/
def stuffL (d : List UInt8) : List UInt8 := (pieces d).flatMap stuffed ++ [46, 13, 10]

/-- a line, without its dot -/
def plainOf (l : List UInt8) : List UInt8 := if l.head? = some 46 then l.drop 1 else l

/-- B3: Plain -/
def plainL (ls : List (List UInt8)) : List UInt8 := ls.flatMap (fun l => plainOf l ++ [13, 10])

end Go.Proofs.Ytegbkpjcjlihmaa
