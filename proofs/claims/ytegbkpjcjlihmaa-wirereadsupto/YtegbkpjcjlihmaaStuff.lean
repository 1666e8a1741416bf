/-
  wire.Stuff, wire.Plain.
-/
import Derived.Test.YtegbkpjcjlihmaaSame
namespace Go.Proofs.Ytegbkpjcjlihmaa
open Go.RowKit

/-- a builder in block b, all its memory from base on -/
def Bd (w : World) (base b : Nat) (acc : List UInt8) : Prop :=
  base ≤ b ∧ ∃ p v, (p = .pointer none ∨ p = self b) ∧ w.heap[b]? = some (.cells #[p, v] 60 (0, 0)) ∧ Buf w base v acc ∧ v.ownBlock ≠ some b

theorem Bd.fresh (w : World) : Bd (w.alloc (.cells #[.pointer none, .slice none 0 0] 60)) w.heap.size w.heap.size [] :=
  ⟨Nat.le_refl _, .pointer none, .slice none 0 0, .inl rfl, heap_alloc_new w _, Buf.nil _ _, by simp [Value.ownBlock]⟩

theorem Bd.lt {w : World} {base b : Nat} {acc : List UInt8} (h : Bd w base b acc) : base ≤ w.heap.size := by
  obtain ⟨hb, p, v, hp, hh, _⟩ := h
  exact Nat.le_trans hb (Nat.le_of_lt (heap_lt hh))

theorem Keeps.bd {S : Nat → Prop} {w w' : World} (h : Keeps S w w') {base b : Nat} {acc : List UInt8} (hb : Bd w base b acc) (hn : ∀ k, base ≤ k → ¬ S k) : Bd w' base b acc := by
  obtain ⟨h1, p, v, hp, hh, hbuf, hne⟩ := hb
  exact ⟨h1, p, v, hp, h.heap hh (hn b h1), h.buf hbuf (fun k hk => hn k (hbuf.1.lt k hk).1), hne⟩

theorem bd_write (base b : Nat) (acc : List UInt8) (s : ByteArray) (w : World) (h : Bd w base b acc) (hlen : acc.length + s.size ≤ 140737488355328) :
    Calls Try.prog 32 #[.pointer (some ⟨b, 0, none⟩), .string s] w fun e w' => e = .returned (.tuple #[.int .i64 s.size, .nilIface]) ∧ Bd w' base b (acc ++ s.data.toList) ∧ Keeps (fun k => base ≤ k) w w' := by
  have hlt := h.lt
  obtain ⟨hb, p, v, hp, hh, hbuf, hne⟩ := h
  refine (writeString_any base b 60 #[p, v] v acc s w (.inl ⟨rfl, rfl⟩) hh (by rcases hp with rfl | rfl <;> simp) rfl hbuf hne hlen hlt).mono ?_
  rintro e w' ⟨rfl, v', hh', hbuf', hne', hnew, hk⟩
  refine ⟨rfl, ⟨hb, self b, v', .inr rfl, hh', hbuf', hne'⟩, hk.mono ?_⟩
  rintro i _ (rfl | e)
  · exact hb
  · exact (hbuf.1.lt i e).1

theorem bd_string (base b : Nat) (acc : List UInt8) (w : World) (h : Bd w base b acc) :
    Calls Try.prog 33 #[.pointer (some ⟨b, 0, none⟩)] w fun e w' => e = .returned (.string ⟨acc.toArray⟩) ∧ Keeps (fun k => base ≤ k) w w' := by
  obtain ⟨hb, p, v, hp, hh, hbuf, hne⟩ := h
  refine (string_any base b 60 #[p, v] v acc w hh rfl hbuf).mono ?_
  rintro e w' ⟨rfl, hk⟩
  exact ⟨rfl, hk.mono (fun i _ e => (hbuf.1.lt i e).1)⟩

/-- the length of a text in a slot -/
def strLen : Value → Nat
  | .string s => s.size
  | _ => 0

theorem Fresh.beyond {w w1 w2 : World} (h : Fresh w w1) (k : Keeps (fun k => w.heap.size ≤ k) w1 w2) : Fresh w w2 :=
  h.then k (fun i hi e => by omega)

theorem Fresh.cell {w w1 : World} (h : Fresh w w1) {a : Addr} {v : Value} (hc : w.cell? a = some v) : w1.cell? a = some v := by
  rw [World.cell?_of_block (w := w) (h.block a.block (World.block_lt_of_cell? w a hc) (fun e => e))]
  exact hc

/-- what a cut text gives -/
theorem pieces_cut (d : List UInt8) (h0 : d ≠ []) : pieces d = (Lib.cut d [13, 10]).1 :: pieces (Lib.cut d [13, 10]).2.1 ∧ (Lib.cut d [13, 10]).2.1.length < d.length ∧ (Lib.cut d [13, 10]).1.length ≤ d.length := by
  have hocc : ∀ (l : List UInt8) (j : Nat), Lib.occAt l [13, 10] j = true ↔ l[j]? = some 13 ∧ l[j + 1]? = some 10 := by
    intro l j
    unfold Lib.occAt
    have e0 : l[j]? = (l.drop j)[0]? := by simp
    have e1 : l[j + 1]? = (l.drop j)[1]? := by simp
    rw [e0, e1]
    match l.drop j with
    | [] => simp
    | [x] => simp
    | x :: y :: t =>
      show ((13 : UInt8) == x && ((10 : UInt8) == y && true)) = true ↔ some x = some 13 ∧ some y = some 10
      simp only [Bool.and_eq_true, beq_iff_eq, and_true, Option.some.injEq]
      exact ⟨fun h => ⟨h.1.symm, h.2.symm⟩, fun h => ⟨h.1.symm, h.2.symm⟩⟩
  rcases Lib.index_spec d [13, 10] with ⟨h1, h2⟩ | ⟨i, h1, h2, h3, h4⟩
  · have hc : Lib.cut d [13, 10] = (d, [], false) := by
      unfold Lib.cut
      rw [h1]; rfl
    rw [hc]
    refine ⟨?_, by simpa using List.length_pos_iff.2 h0, Nat.le_refl _⟩
    refine pieces_last d h0 (fun j hj => ?_)
    have hlt : j < d.length := (List.getElem?_eq_some_iff.1 hj.1).1
    have := h2 j (by omega)
    rw [(hocc d j).2 hj] at this
    cases this
  · have hc : Lib.cut d [13, 10] = (d.take i, d.drop (i + 2), true) := by
      unfold Lib.cut
      rw [h1, if_pos (by omega)]
      rfl
    have ho := (hocc d i).1 h3
    have hlt : i + 1 < d.length := (List.getElem?_eq_some_iff.1 ho.2).1
    have hd : d = d.take i ++ [13, 10] ++ d.drop (i + 2) := by
      have e1 : d.drop i = 13 :: d.drop (i + 1) := by
        rw [List.drop_eq_getElem_cons (by omega)]
        congr 1
        have := (List.getElem?_eq_some_iff.1 ho.1).2
        exact this
      have e2 : d.drop (i + 1) = 10 :: d.drop (i + 2) := by
        rw [List.drop_eq_getElem_cons (by omega)]
        congr 1
        have := (List.getElem?_eq_some_iff.1 ho.2).2
        exact this
      conv => lhs; rw [← List.take_append_drop i d, e1, e2]
      simp
    rw [hc]
    refine ⟨?_, by simp; omega, by simp; omega⟩
    conv => lhs; rw [hd]
    refine pieces_first _ _ (fun j hj => ?_)
    have hpre : ∀ m : Nat, m ≤ i → (d.take i ++ [13])[m]? = d[m]? := by
      intro m hm
      have e3 : d.take i ++ [13] = d.take (i + 1) := by
        rw [List.take_add_one, ho.1]; rfl
      rw [e3, List.getElem?_take, if_pos (by omega)]
    have hj1 : j + 1 < (d.take i ++ [13]).length := (List.getElem?_eq_some_iff.1 hj.2).1
    rw [List.length_append, List.length_take] at hj1
    simp at hj1
    have hji : j < i := by omega
    rw [hpre j (by omega), hpre (j + 1) (by omega)] at hj
    have := h4 j hji
    rw [(hocc d j).2 hj] at this
    cases this

/-- how long what is sent can be -/
theorem stuffed_len (l : List UInt8) : (stuffed l).length ≤ l.length + 3 := by
  unfold stuffed
  split <;> simp <;> omega

theorem flat_stuffed (ls : List (List UInt8)) : (ls.flatMap stuffed).length ≤ (ls.map (fun l => l.length + 3)).sum := by
  induction ls with
  | nil => simp
  | cons a l ih =>
    have := stuffed_len a
    simp only [List.flatMap_cons, List.length_append, List.map_cons, List.sum_cons]
    omega

theorem cut_weight (s : List UInt8) : ∀ cur : List UInt8, ((cutFrom cur s).1.map (fun l => l.length + 3)).sum + 4 * (cutFrom cur s).2.length ≤ 4 * (cur.length + s.length) := by
  induction s with
  | nil => intro cur; simp [cutFrom, runFrom]
  | cons c s ih =>
    intro cur
    have e : cutFrom cur (c :: s) = _ := cutFrom_append cur [c] s
    rw [e]
    have h1 : ((cutFrom cur [c]).1.map (fun l => l.length + 3)).sum + 4 * (cutFrom cur [c]).2.length ≤ 4 * (cur.length + 1) := by
      unfold cutFrom runFrom
      simp only [List.foldl]
      unfold step
      split
      · simp; omega
      · simp
    have := ih (cutFrom cur [c]).2
    simp only [List.map_append, List.sum_append, List.length_cons]
    omega

theorem stuff_len (d : List UInt8) : ((pieces d).flatMap stuffed).length ≤ 4 * d.length := by
  have h := cut_weight d []
  have h2 := flat_stuffed (pieces d)
  refine Nat.le_trans h2 ?_
  unfold pieces
  split
  · simp only [List.length_nil] at h; omega
  · rename_i hne
    have : 1 ≤ (cutFrom [] d).2.length := List.length_pos_iff.2 hne
    simp only [List.map_append, List.sum_append, List.map_cons, List.map_nil, List.sum_cons, List.sum_nil, List.length_nil] at h ⊢
    omega

theorem hasPrefix_dot (l : List UInt8) : Lib.hasPrefix l [46] = decide (l.head? = some 46) := by
  cases l with
  | nil => rfl
  | cons x t =>
    show ((46 : UInt8) == x && true) = _
    by_cases h : x = 46
    · subst h; rfl
    · simp [h, Ne.symm h]

set_option maxHeartbeats 2000000 in
set_option maxRecDepth 100000 in
theorem stuff_any (d0 : List UInt8) (m : Int) (hs : d0.length < 4294967281) (w : World) (hm : w.cell? ⟨0, 0, none⟩ = some (.int .i64 m)) :
    Calls Try.prog 15 #[.string ⟨d0.toArray⟩] w fun e w' => e = .returned (.string ⟨(stuffL d0).toArray⟩) ∧ Fresh w w' := by
  have hT := stuff_len d0
  go_enter Try.func15, Try.ntmps15
  go_wp2_with fail
  go_loopw [0] (fun t0 wr => ∃ d : List UInt8, t0 = .string ⟨d.toArray⟩ ∧ ∃ acc, Bd wr w.heap.size w.heap.size acc ∧ acc ++ (pieces d).flatMap stuffed = (pieces d0).flatMap stuffed ∧ d.length ≤ d0.length ∧ Fresh w wr) (fun t0 _ => strLen t0)
  case atStart =>
    exact ⟨d0, rfl, [], Bd.fresh w, rfl, Nat.le_refl _, (Keeps.refl _ w).alloc _⟩
  case round =>
    obtain ⟨d, rfl, acc, hbd, hacc, hdl, hf⟩ := hrel
    have hmr := hf.cell hm
    have hal : acc.length ≤ 4 * d0.length := by
      have := congrArg List.length hacc
      rw [List.length_append] at this
      omega
    have HA : Hid (acc ++ (pieces d).flatMap stuffed = (pieces d0).flatMap stuffed) := hacc
    clear hacc hT
    by_cases h0 : d = []
    · subst h0
      go_wp2_with fail
      refine (bd_write _ _ acc ⟨#[46]⟩ _ hbd (by show _ + 1 ≤ _; omega)).mono ?_
      rintro e w1 ⟨rfl, hb1, k1⟩
      go_wp2_with fail
      refine (bd_write _ _ _ ⟨#[13, 10]⟩ _ hb1 (by show (acc ++ [46]).length + 2 ≤ _; rw [List.length_append]; simp only [List.length_cons, List.length_nil]; omega)).mono ?_
      rintro e w2 ⟨rfl, hb2, k2⟩
      go_wp2_with fail
      refine (bd_string _ _ _ _ hb2).mono ?_
      rintro e w3 ⟨rfl, k3⟩
      go_wp2_with fail
      go_ret
      refine ⟨?_, ((hf.beyond k1).beyond k2).beyond k3⟩
      have h := HA.out
      rw [pieces_nil] at h
      simp only [List.flatMap_nil, List.append_nil] at h
      have e : acc ++ [46, 13, 10] = stuffL d0 := by
        unfold stuffL
        rw [← h]
      show Ending.returned (.string ⟨(acc ++ [46, 13, 10]).toArray⟩) = _
      rw [e]
    · have hne : (!d.isEmpty) = true := by simpa using h0
      obtain ⟨hp, hl1, hl2⟩ := pieces_cut d h0
      have hC := Try.strings_Cut ⟨d.toArray⟩ ⟨#[13, 10]⟩ m wr (by show d.toArray.size < _; rw [List.size_toArray]; omega) hmr
      have hcut : Lib.cut (⟨d.toArray⟩ : ByteArray).data.toList (⟨#[13, 10]⟩ : ByteArray).data.toList = Lib.cut d [13, 10] := by simp
      rw [hcut] at hC
      obtain ⟨⟨a, b, fnd⟩, hab⟩ : ∃ x, Lib.cut d [13, 10] = x := ⟨_, rfl⟩
      rw [hab] at hC hp hl1 hl2
      simp only [] at hC hp hl1 hl2
      clear hcut hab
      have HP : Hid (pieces d = a :: pieces b) := hp
      have HD : Hid (d ≠ []) := h0
      clear hp h0
      go_wp2_with fail
      refine hC.mono ?_
      rintro e w1 ⟨rfl, nq, rfl⟩
      clear hC
      have hf1 : Fresh w (wr.drewN nq) := hf.drewN nq
      have hb1 : Bd (wr.drewN nq) w.heap.size w.heap.size acc := hbd
      generalize wr.drewN nq = w1 at hf1 hb1 ⊢
      clear hbd hf hmr
      go_wp2_with fail
      refine (Try.strings_HasPrefix ⟨a.toArray⟩ ⟨#[46]⟩ _).mono ?_
      rintro e w2 ⟨rfl, rfl⟩
      have hpx : Lib.hasPrefix (⟨a.toArray⟩ : ByteArray).data.toList (⟨#[46]⟩ : ByteArray).data.toList = decide (a.head? = some 46) := by
        rw [← hasPrefix_dot]
      rw [hpx]
      clear hpx
      by_cases hh : a.head? = some 46
      · have Hst : Hid (stuffed a = ([46] ++ a) ++ [13, 10]) := by
          show _ = _
          unfold stuffed
          rw [if_pos hh]
        rw [decide_eq_true hh]
        clear hh
        go_wp2_with fail
        refine (bd_write _ _ acc ⟨#[46]⟩ _ hb1 (by show _ + 1 ≤ _; omega)).mono ?_
        rintro e w3 ⟨rfl, hb3, k3⟩
        go_wp2_with fail
        refine (bd_write _ _ _ ⟨a.toArray⟩ _ hb3 (by show (acc ++ [46]).length + a.toArray.size ≤ _; rw [List.length_append, List.size_toArray]; simp only [List.length_cons, List.length_nil]; omega)).mono ?_
        rintro e w4 ⟨rfl, hb4, k4⟩
        go_wp2_with fail
        refine (bd_write _ _ _ ⟨#[13, 10]⟩ _ hb4 (by show ((acc ++ [46]) ++ a.toArray.toList).length + 2 ≤ _; rw [List.length_append, List.length_append]; simp only [List.length_cons, List.length_nil]; omega)).mono ?_
        rintro e w5 ⟨rfl, hb5, k5⟩
        go_wp2_with fail
        go_roundw
        case rel =>
          refine ⟨b, rfl, _, hb5, ?_, by omega, ((hf1.beyond k3).beyond k4).beyond k5⟩
          rw [← HA.out, HP.out, List.flatMap_cons, Hst.out]
          simp
        case measure =>
          show b.toArray.size < d.toArray.size
          rw [List.size_toArray, List.size_toArray]; omega
      · have Hst : Hid (stuffed a = a ++ [13, 10]) := by
          show _ = _
          unfold stuffed
          rw [if_neg hh]
          rfl
        rw [decide_eq_false hh]
        clear hh
        go_wp2_with fail
        refine (bd_write _ _ _ ⟨a.toArray⟩ _ hb1 (by show acc.length + a.toArray.size ≤ _; rw [List.size_toArray]; omega)).mono ?_
        rintro e w4 ⟨rfl, hb4, k4⟩
        go_wp2_with fail
        refine (bd_write _ _ _ ⟨#[13, 10]⟩ _ hb4 (by show (acc ++ a.toArray.toList).length + 2 ≤ _; rw [List.length_append]; simp only []; omega)).mono ?_
        rintro e w5 ⟨rfl, hb5, k5⟩
        go_wp2_with fail
        go_roundw
        case rel =>
          refine ⟨b, rfl, _, hb5, ?_, by omega, (hf1.beyond k4).beyond k5⟩
          rw [← HA.out, HP.out, List.flatMap_cons, Hst.out]
          simp
        case measure =>
          show b.toArray.size < d.toArray.size
          rw [List.size_toArray, List.size_toArray]; omega

/-- texts that a slice holds -/
def Strs (w : World) (v : Value) (ls : List (List UInt8)) : Prop :=
  ∃ ao cap, v = .slice ao ls.length cap ∧ cap ≤ 9223372036854775807 ∧ ls.length ≤ cap ∧ (ls.length ≠ 0 → ∃ b off, ao = some ⟨b, off, none⟩ ∧ ∀ k l, ls[k]? = some l → w.cell? ⟨b, off + k, none⟩ = some (.string ⟨l.toArray⟩))

theorem TextsAt.strs {w : World} {base : Nat} {v : Value} {ls : List (List UInt8)} (h : TextsAt w base v ls) : Strs w v ls := by
  obtain ⟨ao, cap, rfl, h1, h2, h3⟩ := own_form h
  refine ⟨ao, cap, rfl, by unfold maxLen at h1; omega, h2, fun hn => ?_⟩
  obtain ⟨g, rfl⟩ := h3 hn
  refine ⟨g, 0, rfl, fun k l hl => ?_⟩
  rw [Nat.zero_add]
  exact own_cell h k _ (by simp [hl, strV])

theorem Fresh.strs {w w' : World} (h : Fresh w w') {v : Value} {ls : List (List UInt8)} (hs : Strs w v ls) : Strs w' v ls := by
  obtain ⟨ao, cap, rfl, h1, h2, h3⟩ := hs
  refine ⟨ao, cap, rfl, h1, h2, fun hn => ?_⟩
  obtain ⟨b, off, rfl, hc⟩ := h3 hn
  exact ⟨b, off, rfl, fun k l hl => h.cell (hc k l hl)⟩

theorem plainL_snoc (ls : List (List UInt8)) (k : Nat) (l : List UInt8) (h : ls[k]? = some l) : plainL (ls.take (k + 1)) = (plainL (ls.take k) ++ plainOf l) ++ [13, 10] := by
  unfold plainL
  rw [List.take_add_one, h]
  simp

theorem plainL_le (ls : List (List UInt8)) (k : Nat) : (plainL (ls.take k)).length ≤ (plainL ls).length := by
  conv => rhs; rw [← List.take_append_drop k ls]
  unfold plainL
  rw [List.flatMap_append, List.length_append]
  omega

theorem trimPrefix_dot (l : List UInt8) : Lib.trimPrefix l [46] = plainOf l := by
  unfold Lib.trimPrefix plainOf
  rw [hasPrefix_dot]
  by_cases h : l.head? = some 46 <;> simp [h]

theorem plainOf_le (l : List UInt8) : (plainOf l).length ≤ l.length := by
  unfold plainOf
  split <;> simp

set_option maxHeartbeats 2000000 in
set_option maxRecDepth 100000 in
theorem plain_any (v : Value) (ls : List (List UInt8)) (w : World) (h : Strs w v ls) (hT : (plainL ls).length < 1099511627776) :
    Calls Try.prog 16 #[v] w fun e w' => e = .returned (.string ⟨(plainL ls).toArray⟩) ∧ Fresh w w' := by
  obtain ⟨ao, cap, rfl, hc1, hc2, hao⟩ := h
  go_enter Try.func16, Try.ntmps16
  go_wp2_with fail
  go_loopw [8] (fun t8 wr => ∃ k : Nat, k ≤ ls.length ∧ t8 = .int .i64 k ∧ Bd wr w.heap.size w.heap.size (plainL (ls.take k)) ∧ Fresh w wr) (fun t8 _ => ls.length - (intOf t8).toNat)
  case atStart => exact ⟨0, Nat.zero_le _, rfl, Bd.fresh w, (Keeps.refl _ w).alloc _⟩
  case round =>
    obtain ⟨k, hk, rfl, hbd, hf⟩ := hrel
    by_cases hlt : k < ls.length
    · obtain ⟨b, off, rfl, hc⟩ := hao (by omega)
      obtain ⟨l, hl⟩ : ∃ l, ls[k]? = some l := ⟨ls[k], List.getElem?_eq_getElem hlt⟩
      have hcell := hf.cell (hc k l hl)
      have Hsn : Hid (plainL (ls.take (k + 1)) = (plainL (ls.take k) ++ plainOf l) ++ [13, 10]) := plainL_snoc ls k l hl
      have hle := plainL_le ls (k + 1)
      have hlen := congrArg List.length (plainL_snoc ls k l hl)
      rw [List.length_append, List.length_append] at hlen
      simp only [List.length_cons, List.length_nil] at hlen
      have b1 : (plainL (ls.take k)).length + (plainOf l).length + 2 < 1099511627776 := by omega
      clear hlen hle hl hc hao
      have z2 : (k : Int) < (ls.length : Int) := by omega
      go_wp2_with fail
      refine (Try.strings_TrimPrefix ⟨l.toArray⟩ ⟨#[46]⟩ _).mono ?_
      rintro e w2 ⟨rfl, rfl⟩
      have htp : Lib.trimPrefix (⟨l.toArray⟩ : ByteArray).data.toList (⟨#[46]⟩ : ByteArray).data.toList = plainOf l := by
        rw [← trimPrefix_dot]
      rw [htp]
      clear htp
      go_wp2_with fail
      refine (bd_write _ _ _ ⟨(plainOf l).toArray⟩ _ hbd (by show _ + (plainOf l).toArray.size ≤ _; rw [List.size_toArray]; omega)).mono ?_
      rintro e w4 ⟨rfl, hb4, k4⟩
      go_wp2_with fail
      refine (bd_write _ _ _ ⟨#[13, 10]⟩ _ hb4 (by show (_ ++ (plainOf l).toArray.toList).length + 2 ≤ _; rw [List.length_append]; simp only []; omega)).mono ?_
      rintro e w5 ⟨rfl, hb5, k5⟩
      go_wp2_with fail
      go_roundw
      case rel =>
        refine ⟨k + 1, by omega, by go_num, ?_, (hf.beyond k4).beyond k5⟩
        rw [Hsn.out]
        exact hb5
      case measure => simp [intOf]; omega
    · have z2 : ¬ (k : Int) < (ls.length : Int) := by omega
      obtain rfl : k = ls.length := by omega
      rw [List.take_length] at hbd
      go_wp2_with fail
      refine (bd_string _ _ _ _ hbd).mono ?_
      rintro e w3 ⟨rfl, k3⟩
      go_wp2_with fail
      go_ret
      exact ⟨rfl, hf.beyond k3⟩

end Go.Proofs.Ytegbkpjcjlihmaa
