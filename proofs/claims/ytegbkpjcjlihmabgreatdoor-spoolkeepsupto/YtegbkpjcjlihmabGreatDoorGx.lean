/-
  The player of boxes: names; what Open and Put leave of letters: plain. | The player of boxes: step.
-/
import Derived.Test.YtegbkpjcjlihmabGreatDoorGs
import Derived.Test.YtegbkpjcjlihmabGreatDoorGw
import Derived.Test.YtegbkpjcjlihmabGreatDoorGp
namespace Go.Proofs.YtegbkpjcjlihmabGreatDoor
open Go.RowKit Go.Maps Go.Sort Go.Lib

def boxT : Text := [98, 111, 120]

theorem ltrN_pre {s : Text} (h : LtrN s) : ∃ r, s = 98 :: 111 :: 120 :: 47 :: r := by
  obtain ⟨p, _, rfl⟩ := h
  exact ⟨_, rfl⟩

theorem pre_spool {k s : Text} (hk : k.head? = some 115) (h : k.isPrefixOf s = true) : ¬ LtrN s := fun hl => by
  obtain ⟨r, rfl⟩ := ltrN_pre hl
  match k, hk with
  | a :: k, hk =>
    simp at hk
    subst hk
    simp [List.isPrefixOf] at h

theorem newT_not : ¬ LtrN newT := fun hl => by
  obtain ⟨r, h⟩ := ltrN_pre hl
  simp [newT] at h

theorem numName_not {k : Text} (hk : k.head? = some 115) (n : Int) : ¬ LtrN (numName k n) := fun hl => by
  obtain ⟨r, h⟩ := ltrN_pre hl
  match k, hk with
  | a :: k, hk =>
    simp at hk
    subst hk
    simp [numName] at h

theorem numberOf_pre {s k : Text} {n : Int} (h : numberOf s k = some n) : k.isPrefixOf s = true := by
  unfold numberOf at h
  split at h
  · assumption
  · cases h

theorem off_open {K ks : List Text} (h0 : numName lastT 0 ∈ K) : Off LtrN K (openW ks) := by
  intro x hx
  unfold openW at hx
  rw [List.mem_append, List.mem_append] at hx
  rcases hx with (hx | hx) | hx
  · unfold findW at hx
    obtain ⟨t, _, ht⟩ := List.mem_filterMap.1 hx
    unfold findW1 at ht
    split at ht
    · rename_i ht0
      rw [← Option.some.inj ht]
      refine ⟨fun s e => e.elim, fun s e => ?_⟩
      rcases e with e | e
      · have e : s = t := e
        rw [e, ht0]; exact newT_not
      · exact e.elim
    · split at ht
      · cases ht
      · split at ht
        · rename_i h3
          rw [← Option.some.inj ht]
          refine ⟨fun s e => e.elim, fun s e => ?_⟩
          rcases e with e | e
          · exact e.elim
          · have e : s = t := e
            rw [e]
            obtain ⟨n, hn⟩ := Option.isSome_iff_exists.1 h3
            exact pre_spool rfl (numberOf_pre hn)
        · cases ht
  · split at hx
    · cases hx
    · simp at hx
      subst hx
      refine ⟨fun s e => ?_, fun s e => by rcases e with e | e <;> exact e.elim⟩
      have e : s = numName lastT 0 := e
      rw [e]
      exact ⟨h0, numName_not rfl 0⟩
  · simp at hx
    subst hx
    exact ⟨fun s e => e.elim, fun s e => by rcases e with e | e <;> exact e.elim⟩

theorem off_put {K : List Text} {T : Text} {lv : Int} (hn : newT ∈ K) (h1 : lName (lv + 1) ∈ K) (h2 : mName (lv + 1) ∈ K) : Off LtrN K (putWs T (lName lv) (lName (lv + 1)) (mName (lv + 1))) := by
  intro x hx
  have hl : ∀ n, ¬ LtrN (lName n) := fun n => numName_not rfl n
  have hm : ∀ n, ¬ LtrN (mName n) := fun n => numName_not rfl n
  simp only [putWs, List.mem_cons, List.mem_nil_iff, or_false] at hx
  rcases hx with rfl | rfl | rfl | rfl | rfl | rfl
  · exact ⟨fun s (e : s = newT) => by rw [e]; exact ⟨hn, newT_not⟩, fun s e => by rcases e with e | e <;> exact e.elim⟩
  · exact ⟨fun s e => e.elim, fun s e => by
      rcases e with e | e
      · exact e.elim
      · have e : s = newT := e
        rw [e]; exact newT_not⟩
  · exact ⟨fun s e => e.elim, fun s e => by
      rcases e with e | e
      · exact e.elim
      · have e : s = newT := e
        rw [e]; exact newT_not⟩
  · exact ⟨fun s (e : s = lName (lv + 1)) => by rw [e]; exact ⟨h1, hl _⟩, fun s e => by
      rcases e with e | e
      · have e : s = lName lv := e
        rw [e]; exact hl _
      · exact e.elim⟩
  · exact ⟨fun s (e : s = mName (lv + 1)) => by rw [e]; exact ⟨h2, hm _⟩, fun s e => by
      rcases e with e | e
      · have e : s = newT := e
        rw [e]; exact newT_not
      · exact e.elim⟩
  · exact ⟨fun s e => e.elim, fun s e => by rcases e with e | e <;> exact e.elim⟩

theorem last_mem (ks : List Text) : ∀ (acc : Option Int) n, ks.foldl last1 acc = some n → acc = some n ∨ ∃ s ∈ ks, numberOf s lastT = some n := by
  induction ks with
  | nil => intro acc n h; exact .inl h
  | cons s ks ih =>
    intro acc n h
    rw [List.foldl_cons] at h
    rcases ih _ n h with h | ⟨t, ht, h⟩
    · unfold last1 at h
      split at h
      · exact .inl h
      · split at h
        · rename_i m hm
          exact .inr ⟨s, by simp, by rw [hm]; exact h⟩
        · exact .inl h
    · exact .inr ⟨t, by simp [ht], h⟩

theorem findLast_mem {ks : List Text} {n : Int} (h : findLast ks = some n) : ∃ s ∈ ks, numberOf s lastT = some n := (last_mem ks none n h).resolve_left (fun e => by cases e)

theorem wt_len (xs : List Text) (h : ∀ x ∈ xs, x.length ≤ 1099511627776) : (wt xs).length ≤ (xs.map (fun x => x.length + 22)).sum := by
  induction xs with
  | nil => simp [wt, wtext]
  | cons x xs ih =>
    rw [wt_cons]
    have := ih (fun y hy => h y (by simp [hy]))
    have h1 := Lib.itoa_length_le (x.length : Int) (by omega) (by have := h x (by simp); omega)
    simp only [List.length_append, List.length_cons, List.map_cons, List.sum_cons]
    omega

theorem mail_len (u k d : Text) (hu : u.length ≤ 1048576) (hk : k.length ≤ 1048576) (hd : d.length ≤ 1048576) : (wt ([(u, k)].flatMap twoOf)).length ≤ u.length + k.length + 44 ∧ (mailText [] [] [(u, k)] d).length ≤ u.length + k.length + d.length + 132 := by
  have h1 : (wt ([(u, k)].flatMap twoOf)).length ≤ u.length + k.length + 44 := by
    have := wt_len [u, k] (fun x hx => by simp at hx; rcases hx with rfl | rfl <;> omega)
    simp only [List.map_cons, List.map_nil, List.sum_cons, List.sum_nil] at this
    have e : [(u, k)].flatMap twoOf = [u, k] := rfl
    rw [e]
    omega
  refine ⟨h1, ?_⟩
  unfold mailText
  have := wt_len [[], [], wt ([(u, k)].flatMap twoOf), d] (fun x hx => by
    simp only [List.mem_cons, List.mem_nil_iff, or_false] at hx
    rcases hx with rfl | rfl | rfl | rfl
    · simp
    · simp
    · omega
    · omega)
  simp only [List.map_cons, List.map_nil, List.sum_cons, List.sum_nil, List.length_nil] at this
  omega

/-- the names that can come up in t steps, beside those of B -/
def KK (B : List Text) (t : Nat) : List Text := B ++ (List.range (t + 1)).flatMap (fun (i : Nat) => [lName (i : Int), mName (i : Int)])

structure BOk (B : List Text) : Prop where
  fresh : freshT ∈ B
  box : boxT ∈ B
  new : newT ∈ B
  nol : ∀ s ∈ B, lastT.isPrefixOf s = false
  size : ∀ s ∈ B, s.length < 4294967281
  canon : CanonK B
  len : B.length ≤ 1000000000

theorem mem_KK {B : List Text} {t : Nat} {s : Text} : s ∈ KK B t ↔ s ∈ B ∨ ∃ i : Nat, i ≤ t ∧ (s = lName (i : Int) ∨ s = mName (i : Int)) := by
  unfold KK
  rw [List.mem_append, List.mem_flatMap]
  refine or_congr Iff.rfl ⟨?_, ?_⟩
  · rintro ⟨i, hi, hs⟩
    simp at hs
    exact ⟨i, by have := List.mem_range.1 hi; omega, hs⟩
  · rintro ⟨i, hi, hs⟩
    exact ⟨i, List.mem_range.2 (by omega), by simpa using hs⟩

theorem KK_len (B : List Text) (t : Nat) : (KK B t).length = B.length + 2 * (t + 1) := by
  unfold KK
  rw [List.length_append]
  congr 1
  induction t with
  | zero => rfl
  | succ t ih => rw [List.range_succ, List.flatMap_append, List.length_append, ih]; simp; omega

theorem KK_sub {B : List Text} {t : Nat} {s : Text} (h : s ∈ KK B t) : s ∈ KK B (t + 1) := by
  rw [mem_KK] at *
  rcases h with h | ⟨i, hi, h⟩
  · exact .inl h
  · exact .inr ⟨i, by omega, h⟩

theorem letterOf_box {s : Text} {x : Ltr} (h : letterOf s = some x) : ∃ r, s = 98 :: 111 :: 120 :: 47 :: r := by
  unfold letterOf at h
  split at h
  · rename_i hp
    match s, hp with
    | a :: b :: c :: d :: r, hp =>
      simp [boxPre, List.isPrefixOf] at hp
      obtain ⟨rfl, rfl, rfl, rfl⟩ := hp
      exact ⟨r, rfl⟩
    | [], hp => simp [boxPre] at hp
    | [_], hp => simp [boxPre, List.isPrefixOf] at hp
    | [_, _], hp => simp [boxPre, List.isPrefixOf] at hp
    | [_, _, _], hp => simp [boxPre, List.isPrefixOf] at hp
  · cases h

theorem BOk.names {B : List Text} (h : BOk B) (t : Nat) (ht : t ≤ 1000000) : NamesOk (KK B t) where
  len := by rw [KK_len]; have := h.len; omega
  size := fun s hs => by
    rcases mem_KK.1 hs with hs | ⟨i, hi, rfl | rfl⟩
    · exact h.size s hs
    · have := Lib.itoa_length_le (i : Int) (by omega) (by omega)
      simp [lName, numName, lastT]; omega
    · have := Lib.itoa_length_le (i : Int) (by omega) (by omega)
      simp [mName, numName, mailT]; omega
  canon := fun s hs x hx => by
    rcases mem_KK.1 hs with hs | ⟨i, hi, rfl | rfl⟩
    · exact h.canon s hs x hx
    · obtain ⟨r, e⟩ := letterOf_box hx
      simp [lName, numName, lastT] at e
    · obtain ⟨r, e⟩ := letterOf_box hx
      simp [mName, numName, mailT] at e
  fresh := mem_KK.2 (.inl h.fresh)

theorem BOk.last {B : List Text} (h : BOk B) {t : Nat} (ht : t ≤ 1000000) {s : Text} (hs : s ∈ KK B t) {n : Int} (hn : numberOf s lastT = some n) : ∃ i : Nat, i ≤ t ∧ n = i := by
  have hp := numberOf_pre hn
  rcases mem_KK.1 hs with hs | ⟨i, hi, rfl | rfl⟩
  · rw [h.nol s hs] at hp; cases hp
  · refine ⟨i, hi, ?_⟩
    unfold numberOf at hn
    rw [if_pos hp] at hn
    have e : (lName (i : Int)).drop lastT.length = Lib.itoa (i : Int) := by unfold lName numName; rw [List.drop_left]
    rw [e, itoa_nat, atoiAll_digits i (by omega)] at hn
    exact (Option.some.inj hn).symm
  · simp [mName, numName, mailT, lastT, List.isPrefixOf] at hp

theorem Bst.more {K K' : List Text} {D : Text → Text} {σ : Dk} {l : List Lt3} {stop maybe : Bool} {x : Lt3} (h : Bst K D σ l stop maybe x) : Bst K' D σ l stop maybe x := ⟨h.up, h.boxed, h.stay, h.gone, h.may, h.left⟩

end Go.Proofs.YtegbkpjcjlihmabGreatDoor

namespace Go.Proofs.YtegbkpjcjlihmabGreatDoor
open Go.RowKit Go.Maps Go.Sort Go.Lib

def PAny (w : World) (K : List Text) (p d C L n : Nat) (wr : World) : Prop := ∃ stop, PNext w K p d C L n stop wr

/-- what a step returns -/
def Stepped (w : World) (K : List Text) (p d C L n : Nat) (e : Ending) (w' : World) : Prop := e = .returned (.bool true) ∧ PAny w K p d C L n w'

section
variable {w wr : World} {K : List Text} {p d C L n C' L' n' : Nat} {A : Nat → Prop} {σ : Dk} {D : Text → Text} {l : List Lt3} {stop maybe : Bool} {x1 x2 x3 : ByteArray} {v : Value}

theorem PSt.mono (h : PSt w K p d C L n A σ D l stop maybe x1 x2 x3 v wr) (hC : C ≤ C') (hL : L ≤ L') (hn : n ≤ n') : PSt w K p d C' L' n' A σ D l stop maybe x1 x2 x3 v wr :=
  ⟨h.live.mono hC hL, h.cell, h.pA, h.pw, h.ls, h.st, by have := h.ln; omega, h.sz, h.sx⟩

theorem PSt.any (h : PSt w K p d C L n A σ D l stop maybe x1 x2 x3 v wr) (hC : C ≤ C') (hL : L ≤ L') (hn : n ≤ n') : PAny w K p d C' L' n' wr := ⟨stop, A, σ, D, l, maybe, x1, x2, x3, v, h.mono hC hL hn⟩

theorem PSt.moreK {K' : List Text} (h : PSt w K p d C L n A σ D l stop maybe x1 x2 x3 v wr) (hs : ∀ s ∈ K, s ∈ K') (hl : K.length ≤ K'.length) : PSt w K' p d C L n A σ D l stop maybe x1 x2 x3 v wr :=
  ⟨h.live.more hs hl, h.cell, h.pA, h.pw, h.ls, h.st.more, h.ln, h.sz, h.sx⟩

end

/-- what a step of the player is asked -/
structure OpOk (w : World) (K : List Text) (kind : Int) (u k d : ByteArray) (nn : Int) (tv : Value) (ts : List Int) : Prop where
  us : u.size ≤ 1048576
  ke : k.size ≤ 1048576
  da : d.size ≤ 1048576
  nm : nameOf u.data.toList k.data.toList ∈ K
  other : kind = 5 → u.data.toList ∈ K ∧ ¬ LtrN u.data.toList
  num : nn < 9223372036854775808
  ints : ∀ A : Nat → Prop, (∀ i, A i → w.heap.size ≤ i) → Ints w A tv ts
  kd : -9223372036854775808 ≤ kind ∧ kind ≤ 9223372036854775807

theorem Ints.fresh {w w' : World} {A : Nat → Prop} {v : Value} {ts : List Int} (h : Ints w A v ts) (k : Fresh w w') : Ints w' A v ts := by
  obtain ⟨ao, cap, e, h1, h2, h3⟩ := h
  refine ⟨ao, cap, e, h1, h2, fun hn => ?_⟩
  obtain ⟨b, off, e1, e2, e3⟩ := h3 hn
  exact ⟨b, off, e1, e2, fun j t ht => cell_keeps k (e3 j t ht) (fun e => e)⟩

section
variable {w wr : World} {B : List Text} {p d C L n t : Nat} {A : Nat → Prop} {σ : Dk} {D : Text → Text} {l : List Lt3} {stop maybe : Bool} {x1 x2 x3 : ByteArray} {v : Value}

set_option maxHeartbeats 8000000 in
set_option maxRecDepth 100000 in
theorem step_other (h0 : PSt w (KK B t) p d C L n A σ D l stop maybe x1 x2 x3 v wr) (hG : Gl w) (_h8 : 8 ≤ w.heap.size) (hB : BOk B) (ht : t < 1000000) (hn : n < 1000000) (kind : Int) (us ke da : ByteArray) (nn : Int) (tv : Value) (ts : List Int) (o : OpOk w (KK B (t + 1)) kind us ke da nn tv ts) (_hC : C + 8 ≤ 1000000000) (_hL : L + 4000000 ≤ 1000000000) (k0 : kind ≠ 0) (k1 : kind ≠ 1) (k2 : kind ≠ 2) (k3 : kind ≠ 3) (k4 : kind ≠ 4) (k5 : kind ≠ 5) :
    Calls Tryz.prog 25 #[ptr p, opV kind us ke da nn tv] wr (Stepped w (KK B (t + 1)) p d (C + 8) (L + (us.size + ke.size + da.size + 132)) (n + 1)) := by
  have HF0 : Hid (Fits (KK B t) C L σ) := h0.live.2.2.1
  have h := h0.moreK (K' := KK B (t + 1)) (fun s hs => KK_sub hs) (by rw [KK_len, KK_len]; omega)
  have hK := hB.names (t + 1) (by omega)
  obtain ⟨hus, hke, hda, hnm, hother, hnn, hints, hkd⟩ := o
  clear h0
  have fa : Fresh wr (wr.alloc (.cells #[.int .i64 kind, .string us, .string ke, .string da, .int .i64 nn, tv] 71)) := (Keeps.refl _ _).alloc _
  have ho := heap_new wr (.cells #[.int .i64 kind, .string us, .string ke, .string da, .int .i64 nn, tv] 71)
  have HA : Hid (PSt w (KK B (t + 1)) p d C L n A σ D l stop maybe x1 x2 x3 v (wr.alloc (.cells #[.int .i64 kind, .string us, .string ke, .string da, .int .i64 nn, tv] 71))) := h.freshen fa
  have hpl := h.lt
  have hAw : ∀ i, A i → i < wr.heap.size := fun i hi => (h.live.1 i hi).2
  have Hsz1 : Hid ((wr.alloc (.cells #[.int .i64 kind, .string us, .string ke, .string da, .int .i64 nn, tv] 71)).heap.size = wr.heap.size + 1) := by
    show _ = _
    simp
  have HO : Hid ((wr.alloc (.cells #[.int .i64 kind, .string us, .string ke, .string da, .int .i64 nn, tv] 71)).heap[wr.heap.size]? = some (.cells #[.int .i64 kind, .string us, .string ke, .string da, .int .i64 nn, tv] 71)) := ho
  have c0 := HA.out.at 0 _ rfl
  have c1 := HA.out.at 1 _ rfl
  have c2 := HA.out.at 2 _ rfl
  have c3 := HA.out.at 3 _ rfl
  have c4 := HA.out.at 4 _ rfl
  have c5 := HA.out.at 5 _ rfl
  have c6 := HA.out.at 6 _ rfl
  have f1 := HA.out.fz 1
  have f2 := HA.out.fz 2
  have f3 := HA.out.fz 3
  clear h fa ho
  unfold opV ptr at *
  go_enter Tryz.func25, Tryz.ntmps25
  have e0 := beq_eq_false_iff_ne.2 k0
  have e1 := beq_eq_false_iff_ne.2 k1
  have e2 := beq_eq_false_iff_ne.2 k2
  have e3 := beq_eq_false_iff_ne.2 k3
  have e4 := beq_eq_false_iff_ne.2 k4
  have e5 := beq_eq_false_iff_ne.2 k5
  go_wp2_with fail
  generalize (wr.alloc (.cells #[.int .i64 kind, .string us, .string ke, .string da, .int .i64 nn, tv] 71)) = W at *
  have hlook := (HA.out.freshen ((Keeps.refl _ W).drew)).look hG hK (by omega)
  have q0 := HA.out.at 0 _ rfl
  unfold ptr at hlook
  go_region_held3 (fun w' => w'.cell? ⟨p, 0, none⟩ = some (.pointer (some ⟨d, 0, none⟩))) (first | exact q0 | exact hs7.at 0 _ rfl | exact hs6.at 0 _ rfl) (first | (go_at_call 32; refine hlook.mono ?_; rintro e w6 ⟨v6, rfl, hv6, hs6, k6⟩) | (go_at_call 33; refine (hs6.shows hG hK (by omega) hv6).mono ?_; rintro e w7 ⟨rfl, hs7, k7⟩))
  have HS7 : Hid (PAny w (KK B (t + 1)) p d (C + 8) (L + (us.size + ke.size + da.size + 132)) (n + 1) w7) := hs7.any (by omega) (by omega) (by omega)
  clear hs7 hs6 hv6 hlook k6 k7
  go_wp2_with fail
  go_ret
  exact ⟨rfl, HS7.out⟩


set_option maxHeartbeats 8000000 in
set_option maxRecDepth 100000 in
theorem step_clean (h0 : PSt w (KK B t) p d C L n A σ D l stop maybe x1 x2 x3 v wr) (hG : Gl w) (_h8 : 8 ≤ w.heap.size) (hB : BOk B) (ht : t < 1000000) (hn : n < 1000000) (us ke da : ByteArray) (nn : Int) (tv : Value) (ts : List Int) (o : OpOk w (KK B (t + 1)) 1 us ke da nn tv ts) (hC : C + 8 ≤ 1000000000) (hL : L + 4000000 ≤ 1000000000) :
    Calls Tryz.prog 25 #[ptr p, opV 1 us ke da nn tv] wr (Stepped w (KK B (t + 1)) p d (C + 8) (L + (us.size + ke.size + da.size + 132)) (n + 1)) := by
  have HF0 : Hid (Fits (KK B t) C L σ) := h0.live.2.2.1
  have h := h0.moreK (K' := KK B (t + 1)) (fun s hs => KK_sub hs) (by rw [KK_len, KK_len]; omega)
  have hK := hB.names (t + 1) (by omega)
  obtain ⟨hus, hke, hda, hnm, hother, hnn, hints, hkd⟩ := o
  clear h0
  have fa : Fresh wr (wr.alloc (.cells #[.int .i64 1, .string us, .string ke, .string da, .int .i64 nn, tv] 71)) := (Keeps.refl _ _).alloc _
  have ho := heap_new wr (.cells #[.int .i64 1, .string us, .string ke, .string da, .int .i64 nn, tv] 71)
  have HA : Hid (PSt w (KK B (t + 1)) p d C L n A σ D l stop maybe x1 x2 x3 v (wr.alloc (.cells #[.int .i64 1, .string us, .string ke, .string da, .int .i64 nn, tv] 71))) := h.freshen fa
  have hpl := h.lt
  have hAw : ∀ i, A i → i < wr.heap.size := fun i hi => (h.live.1 i hi).2
  have Hsz1 : Hid ((wr.alloc (.cells #[.int .i64 1, .string us, .string ke, .string da, .int .i64 nn, tv] 71)).heap.size = wr.heap.size + 1) := by
    show _ = _
    simp
  have HO : Hid ((wr.alloc (.cells #[.int .i64 1, .string us, .string ke, .string da, .int .i64 nn, tv] 71)).heap[wr.heap.size]? = some (.cells #[.int .i64 1, .string us, .string ke, .string da, .int .i64 nn, tv] 71)) := ho
  have c0 := HA.out.at 0 _ rfl
  have c1 := HA.out.at 1 _ rfl
  have c2 := HA.out.at 2 _ rfl
  have c3 := HA.out.at 3 _ rfl
  have c4 := HA.out.at 4 _ rfl
  have c5 := HA.out.at 5 _ rfl
  have c6 := HA.out.at 6 _ rfl
  have f1 := HA.out.fz 1
  have f2 := HA.out.fz 2
  have f3 := HA.out.fz 3
  clear h fa ho
  unfold opV ptr at *
  go_enter Tryz.func25, Tryz.ntmps25
  have hcl := clean_any HA.out.live (by have := hK.len; omega) (by omega) (by omega)
  unfold ptr at hcl
  go_wp2_with fail
  generalize (wr.alloc (.cells #[.int .i64 1, .string us, .string ke, .string da, .int .i64 nn, tv] 71)) = W at *
  refine hcl.mono ?_
  rintro e w3 ⟨k', σ', rfl, hcl', h3, k3⟩
  obtain ⟨hb, hk⟩ := HA.out.st.clean HA.out.live.2.2.1 hcl'
  have HP3 : Hid (PSt w (KK B (t + 1)) p d (C + 6) L n (ext A W w3) σ' D l stop maybe x1 x2 x3 v w3) := HA.out.disk h3 k3 (fun i hi => hi.elim .inl (fun e => .inr e.1)) hb
  have d2 := HP3.out.at 2 _ rfl
  have hnum := fun w' => num_any k' w'
  clear hcl hcl' h3 k3 hb
  rcases hk with ⟨rfl, hst⟩ | ⟨rfl, _⟩
  · subst hst
    go_wp2_with (go_at_call 29; refine (hnum _).mono ?_; rintro e w' ⟨rfl, hw⟩; have hw := hw.symm; subst hw)
    have hlook := (HP3.out.freshen ((Keeps.refl _ w3).drew)).look hG hK (by omega)
    have q0 := HP3.out.at 0 _ rfl
    unfold ptr at hlook
    go_region_held3 (fun w' => w'.cell? ⟨p, 0, none⟩ = some (.pointer (some ⟨d, 0, none⟩))) (first | exact q0 | exact hs7.at 0 _ rfl | exact hs6.at 0 _ rfl) (first | (go_at_call 32; refine hlook.mono ?_; rintro e w6 ⟨v6, rfl, hv6, hs6, k6⟩) | (go_at_call 33; refine (hs6.shows hG hK (by omega) hv6).mono ?_; rintro e w7 ⟨rfl, hs7, k7⟩))
    have HS7 : Hid (PAny w (KK B (t + 1)) p d (C + 8) (L + (us.size + ke.size + da.size + 132)) (n + 1) w7) := hs7.any (by omega) (by omega) (by omega)
    clear hs7 hs6 hv6 hlook k6 k7
    go_wp2_with fail
    go_ret
    exact ⟨rfl, HS7.out⟩
  · go_wp2_with (go_at_call 29; refine (hnum _).mono ?_; rintro e w' ⟨rfl, hw⟩; have hw := hw.symm; subst hw)
    have hlook := (HP3.out.freshen ((Keeps.refl _ w3).drew)).look hG hK (by omega)
    have q0 := HP3.out.at 0 _ rfl
    unfold ptr at hlook
    go_region_held3 (fun w' => w'.cell? ⟨p, 0, none⟩ = some (.pointer (some ⟨d, 0, none⟩))) (first | exact q0 | exact hs7.at 0 _ rfl | exact hs6.at 0 _ rfl) (first | (go_at_call 32; refine hlook.mono ?_; rintro e w6 ⟨v6, rfl, hv6, hs6, k6⟩) | (go_at_call 33; refine (hs6.shows hG hK (by omega) hv6).mono ?_; rintro e w7 ⟨rfl, hs7, k7⟩))
    have HS7 : Hid (PAny w (KK B (t + 1)) p d (C + 8) (L + (us.size + ke.size + da.size + 132)) (n + 1) w7) := hs7.any (by omega) (by omega) (by omega)
    clear hs7 hs6 hv6 hlook k6 k7
    go_wp2_with fail
    go_ret
    exact ⟨rfl, HS7.out⟩


end
end Go.Proofs.YtegbkpjcjlihmabGreatDoor
