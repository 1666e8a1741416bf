/-
  What is sent is read as it was, in plain lists.
-/
import Derived.Test.YtegbkpjcjlihmaaPure
namespace Go.Proofs.Ytegbkpjcjlihmaa

/-- lines, each with CR LF behind it -/
def joinL (ls : List (List UInt8)) : List UInt8 := ls.flatMap (fun l => l ++ [13, 10])

/-- a line, with another dot ahead of its dot -/
def dotted (l : List UInt8) : List UInt8 := if l.head? = some 46 then 46 :: l else l

theorem hasCL_cons (c : UInt8) (l : List UInt8) : hasCL (c :: l) = (c == 13 || c == 10 || hasCL l) := by simp [hasCL]

theorem hasCL_get {l : List UInt8} (h : hasCL l = false) {j : Nat} {x : UInt8} (hj : l[j]? = some x) : x ≠ 13 ∧ x ≠ 10 := by
  unfold hasCL at h
  rw [List.any_eq_false] at h
  have := h x (List.mem_of_getElem? hj)
  simp only [Bool.or_eq_true, beq_iff_eq, not_or] at this
  exact this

theorem noEnd_of {l : List UInt8} (h : hasCL l = false) : NoEnd (l ++ [13]) := by
  intro j hj
  have hlt : j + 1 < (l ++ [13]).length := (List.getElem?_eq_some_iff.1 hj.2).1
  rw [List.length_append, List.length_cons, List.length_nil] at hlt
  have h1 : l[j]? = some 13 := by
    have := hj.1
    rwa [List.getElem?_append_left (by omega)] at this
  exact (hasCL_get h h1).1 rfl

theorem cut_join (ls : List (List UInt8)) (h : ∀ l ∈ ls, hasCL l = false) (t : List UInt8) : cutFrom [] (joinL ls ++ t) = (ls ++ (cutFrom [] t).1, (cutFrom [] t).2) := by
  induction ls with
  | nil => rfl
  | cons a l ih =>
    have e : joinL (a :: l) ++ t = a ++ [13, 10] ++ (joinL l ++ t) := by simp [joinL]
    rw [e, cut_first a _ (noEnd_of (h a (by simp))), ih (fun x hx => h x (by simp [hx]))]
    rfl

theorem cut_join_all (ls : List (List UInt8)) (h : ∀ l ∈ ls, hasCL l = false) : cutFrom [] (joinL ls) = (ls, []) := by
  have := cut_join ls h []
  rw [List.append_nil] at this
  rw [this]
  show (ls ++ [], []) = (ls, [])
  rw [List.append_nil]

theorem pieces_join (ls : List (List UInt8)) (h : ∀ l ∈ ls, hasCL l = false) : pieces (joinL ls) = ls := by
  unfold pieces
  rw [cut_join_all ls h]
  rfl

theorem stuffed_dotted (l : List UInt8) : stuffed l = dotted l ++ [13, 10] := by
  unfold stuffed dotted
  split <;> simp

theorem dotted_cl {l : List UInt8} (h : hasCL l = false) : hasCL (dotted l) = false := by
  unfold dotted
  split
  · rw [hasCL_cons, h]; rfl
  · exact h

theorem dotted_ne (l : List UInt8) : dotted l ≠ [46] := by
  unfold dotted
  split
  · rename_i hh
    intro e
    simp only [List.cons.injEq, true_and] at e
    rw [e] at hh
    simp at hh
  · rename_i hh
    intro e
    exact hh (by rw [e]; rfl)

theorem dotted_len (l : List UInt8) : (dotted l).length ≤ l.length + 1 := by
  unfold dotted
  split <;> simp

theorem plain_dotted (l : List UInt8) : plainOf (dotted l) = l := by
  unfold dotted
  split
  · unfold plainOf
    simp
  · rename_i hh
    unfold plainOf
    rw [if_neg hh]

theorem plainL_dotted (ls : List (List UInt8)) : plainL (ls.map dotted) = joinL ls := by
  induction ls with
  | nil => rfl
  | cons a l ih =>
    have e1 : plainL ((a :: l).map dotted) = (plainOf (dotted a) ++ [13, 10]) ++ plainL (l.map dotted) := rfl
    have e2 : joinL (a :: l) = (a ++ [13, 10]) ++ joinL l := rfl
    rw [e1, e2, ih, plain_dotted]

theorem flat_dotted (ls : List (List UInt8)) : ls.flatMap stuffed = joinL (ls.map dotted) := by
  induction ls with
  | nil => rfl
  | cons a l ih =>
    have e1 : (a :: l).flatMap stuffed = stuffed a ++ l.flatMap stuffed := rfl
    have e2 : joinL ((a :: l).map dotted) = (dotted a ++ [13, 10]) ++ joinL (l.map dotted) := rfl
    rw [e1, e2, ih, stuffed_dotted]

/-- what is sent: the lines with their dots, and a dot -/
theorem stuff_join (ls : List (List UInt8)) (h : ∀ l ∈ ls, hasCL l = false) : stuffL (joinL ls) = joinL (ls.map dotted ++ [[46]]) := by
  unfold stuffL
  rw [pieces_join ls h, flat_dotted]
  simp [joinL]

theorem sent_cl (ls : List (List UInt8)) (h : ∀ l ∈ ls, hasCL l = false) : ∀ l ∈ ls.map dotted ++ [[46]], hasCL l = false := by
  intro l hl
  rw [List.mem_append] at hl
  rcases hl with hl | hl
  · obtain ⟨x, hx, rfl⟩ := List.mem_map.1 hl
    exact dotted_cl (h x hx)
  · simp at hl
    subst hl
    decide

theorem cut_sent (ls : List (List UInt8)) (h : ∀ l ∈ ls, hasCL l = false) : cutFrom [] (stuffL (joinL ls)) = (ls.map dotted ++ [[46]], []) := by
  rw [stuff_join ls h]
  exact cut_join_all _ (sent_cl ls h)

/-- a line that may stand in data -/
def goodL (l : List UInt8) : Prop := l.length ≤ 1000 ∧ hasCL l = false

theorem lineOf_good {l : List UInt8} (h : (lineOf 1000 l).2 = 0) : goodL l := by
  unfold lineOf at h
  split at h
  · rename_i h1
    split at h
    · simp at h
    · rename_i h2
      exact ⟨h1, by simpa using h2⟩
  · simp at h

theorem lineOf_dotted {l : List UInt8} (h : goodL l) : lineOf 1001 (dotted l) = (dotted l, 0) := by
  have hl := dotted_len l
  have hg := h.1
  unfold lineOf
  rw [if_pos (by omega), dotted_cl h.2]
  rfl

theorem joinL_snoc (ls : List (List UInt8)) (k : Nat) (l : List UInt8) (h : ls[k]? = some l) : joinL (ls.take (k + 1)) = (joinL (ls.take k) ++ l) ++ [13, 10] := by
  unfold joinL
  rw [List.take_add_one, h]
  simp

theorem joinL_le (ls : List (List UInt8)) (k : Nat) : (joinL (ls.take k)).length ≤ (joinL ls).length := by
  conv => rhs; rw [← List.take_append_drop k ls]
  unfold joinL
  rw [List.flatMap_append, List.length_append]
  omega

end Go.Proofs.Ytegbkpjcjlihmaa
