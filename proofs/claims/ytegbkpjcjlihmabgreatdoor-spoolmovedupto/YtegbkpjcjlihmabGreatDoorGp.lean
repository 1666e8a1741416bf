/-
  all: who is left of a mail that has come to nobody yet. | What is written is read: words, addresses, mails; plain. | stillLeft: who is left, read from a mail's file.
-/
import Derived.Test.YtegbkpjcjlihmabGreatDoorGl
import Derived.Test.YtegbkpjcjlihmabGreatDoorSpf
import Derived.Test.YtegbkpjcjlihmabGreatDoorGf
import Derived.Test.YtegbkpjcjlihmabGreatDoorGn
namespace Go.Proofs.YtegbkpjcjlihmabGreatDoor
open Go.RowKit Go.Maps Go.ChangeMaps Go.WideMaps

/-- each once, where it first stands -/
def addOnce (acc : List Ltr) (a : Ltr) : List Ltr := if a ∈ acc then acc else acc ++ [a]
def once (l : List Ltr) : List Ltr := l.foldl addOnce []

/-- the place of each -/
def plc (acc : List Ltr) : Lefts := fun p => if p ∈ acc then some (acc.idxOf p : Int) else none

theorem once_next {l : List Ltr} {i : Nat} {x : Ltr} (h : l[i]? = some x) : once (l.take (i + 1)) = addOnce (once (l.take i)) x := by
  unfold once
  rw [List.take_add_one, h, List.foldl_append]
  rfl

theorem once_len (l : List Ltr) : (once l).length ≤ l.length := by
  have : ∀ (l acc : List Ltr), (l.foldl addOnce acc).length ≤ acc.length + l.length := by
    intro l
    induction l with
    | nil => intro acc; simp
    | cons a l ih =>
      intro acc
      have h1 := ih (addOnce acc a)
      have h2 : (addOnce acc a).length ≤ acc.length + 1 := by
        unfold addOnce
        split <;> simp
      rw [List.foldl_cons, List.length_cons]
      omega
  have := this l []
  simpa [once] using this

theorem plc_put {acc : List Ltr} {x : Ltr} (h : x ∉ acc) : putA (plc acc) x acc.length = plc (acc ++ [x]) := by
  funext q
  unfold putA plc
  by_cases e : q = x
  · subst e
    simp [h, List.idxOf_append]
  · by_cases hq : q ∈ acc
    · simp [e, hq, List.idxOf_append]
    · simp [e, hq]

set_option maxHeartbeats 2000000 in
set_option maxRecDepth 20000 in
theorem all_any (ao : Option Addr) (cap : Nat) (l : List Ltr) (w : World) (hn : l.length ≤ 1099511627) (hok : ∀ p ∈ l, okA p) (hx : ∀ j u, (l.flatMap encL)[j]? = some u → ∃ g, ao = some ⟨g, 0, none⟩ ∧ w.cell? ⟨g, j, none⟩ = some u) :
    Calls Tryz.prog 62 #[.slice ao l.length cap] w fun e w' => e = .returned (.map (some w.heap.size)) ∧ LeftAt w' w.heap.size l.length (once l).length (plc (once l)) ∧ Fresh w w' := by
  have hmm := @run_makeMap Tryz.prog
  have k0 : Hid (Fresh w (w.alloc (.map #[] 0))) := (Keeps.refl _ w).alloc _
  have hL0 : Hid (LeftAt (w.alloc (.map #[] 0)) w.heap.size 0 0 (fun _ => none)) := leftAt_made w 0
  have HX : Hid (∀ j u, (l.flatMap encL)[j]? = some u → ∃ g, ao = some ⟨g, 0, none⟩ ∧ w.cell? ⟨g, j, none⟩ = some u) := hx
  have HK : Hid (∀ p ∈ l, okA p) := hok
  clear hx hok
  go_enter Tryz.func62, Tryz.ntmps62
  go_wp2_with fail
  go_loopw [11] (fun t11 wr => ∃ (i : Nat), i ≤ l.length ∧ t11 = .int .i64 i ∧ LeftAt wr w.heap.size i (once (l.take i)).length (plc (once (l.take i))) ∧ Fresh w wr) (fun t11 _ => l.length - (intOf t11).toNat)
  case atStart => exact ⟨0, Nat.zero_le _, rfl, hL0.out, k0.out⟩
  case round =>
    obtain ⟨i, hile, rfl, hL, kk⟩ := hrel
    have HL : Hid (LeftAt wr w.heap.size i (once (l.take i)).length (plc (once (l.take i)))) := hL
    clear hL k0 hL0
    by_cases hlt : i < l.length
    · obtain ⟨x, hx⟩ : ∃ x, l[i]? = some x := ⟨l[i], List.getElem?_eq_getElem hlt⟩
      have hxo := HK.out x (List.mem_of_getElem? hx)
      have hx! : l[i]! = x := by
        rw [getElem!_pos l i hlt]
        rw [List.getElem?_eq_getElem hlt] at hx
        exact Option.some.inj hx
      have f0 := flat_at l (i * 2) (by omega)
      have f1 := flat_at l (i * 2 + 1) (by omega)
      have d0 : i * 2 / 2 = i := by omega
      have d1 : (i * 2 + 1) / 2 = i := by omega
      have d2 : i * 2 % 2 = 0 := by omega
      have d3 : (i * 2 + 1) % 2 = 1 := by omega
      rw [d0, d2, hx!] at f0
      rw [d1, d3, hx!] at f1
      obtain ⟨g, rfl, hc0⟩ := HX.out _ _ f0
      obtain ⟨g', hg', hc1⟩ := HX.out _ _ f1
      obtain rfl : g = g' := by simpa using hg'
      have hc0 : wr.cell? ⟨g, i * 2, none⟩ = some (.string ⟨x.1.toArray⟩) := cell_keeps kk hc0 (fun e => e)
      have hc1 : wr.cell? ⟨g, i * 2 + 1, none⟩ = some (.string ⟨x.2.toArray⟩) := cell_keeps kk hc1 (fun e => e)
      have HN : Hid (once (l.take (i + 1)) = addOnce (once (l.take i)) x) := once_next hx
      have hol := once_len (l.take i)
      rw [List.length_take] at hol
      generalize once (l.take i) = acc at *
      have k3 : Fresh wr (wr.alloc (.cells #[.string ⟨x.1.toArray⟩, .string ⟨x.2.toArray⟩] 56)) := (Keeps.refl _ _).alloc _
      have L3 := k3.leftAt HL.out (fun e => e)
      have HL3 : Hid (LeftAt (wr.alloc (.cells #[.string ⟨x.1.toArray⟩, .string ⟨x.2.toArray⟩] 56)) w.heap.size i acc.length (plc acc)) := L3
      have K3 : Fresh w (wr.alloc (.cells #[.string ⟨x.1.toArray⟩, .string ⟨x.2.toArray⟩] 56)) := kk.trans k3
      obtain ⟨q1, q2⟩ := L3.look x hxo 134 Tryz.underlying134
      have z1 : (0 : Int) ≤ (i : Int) := by omega
      have z2 : (i : Int) < (l.length : Int) := by omega
      by_cases hin : x ∈ acc
      · have hlk := q2 (acc.idxOf x) (if_pos hin)
        have HN2 : Hid (addOnce acc x = acc) := if_pos hin
        unfold addrV at hlk
        clear hx hx! f0 f1 d0 d1 d2 d3 k3 hg' q1 q2 L3 hol
        go_wp2_with fail
        go_roundw
        case rel =>
          refine ⟨i + 1, by omega, by go_num, ?_, K3⟩
          rw [HN.out, HN2.out]
          obtain ⟨D, h1, h2⟩ := HL3.out
          exact ⟨D, h1.mono (by omega), h2⟩
        case measure => simp [intOf]; omega
      · have hlk := q1 (if_neg hin)
        obtain ⟨w4, hr4, L4, k4, _⟩ := L3.put (by unfold maxLen; omega) x hxo 134 Tryz.underlying134 acc.length
        have hnone : plc acc x = none := if_neg hin
        rw [hnone] at L4
        have HL4 : Hid (LeftAt w4 w.heap.size (i + 1) (once (l.take (i + 1))).length (plc (once (l.take (i + 1))))) := by
          show LeftAt _ _ _ _ _
          rw [HN.out]
          unfold addOnce
          rw [if_neg hin, ← plc_put hin, List.length_append]
          exact L4
        have K4 : Fresh w w4 := K3.then k4 (fun i hi e => by omega)
        obtain ⟨D, ho, hsz, _⟩ := L3
        unfold addrV at hlk hr4
        clear hx hx! f0 f1 d0 d1 d2 d3 k3 hg' q1 q2 hol L4 hnone k4
        go_wp2_with (at_len; refine wpList_len_own _ rfl _ 134 rfl 56 3 Tryz.underlying134 _ _ _ D rfl ho ?_)
        exact ⟨⟨i + 1, by omega, by go_num, HL4.out, K4⟩, by simp [intOf]; omega⟩
    · have ei : i = l.length := by omega
      subst ei
      have z2 : ¬ (l.length : Int) < (l.length : Int) := by omega
      have HL2 : Hid (LeftAt wr w.heap.size l.length (once l).length (plc (once l))) := by
        have := HL.out
        rw [List.take_length] at this
        exact this
      clear HL
      go_wp2_with fail
      go_ret
      exact ⟨rfl, HL2.out, kk⟩

end Go.Proofs.YtegbkpjcjlihmabGreatDoor

namespace Go.Proofs.YtegbkpjcjlihmabGreatDoor
open Go.RowKit Go.Maps

theorem itoa_no58 (n : Nat) : ∀ b ∈ Lib.itoa (n : Int), b ≠ 58 := fun b hb e => by
  rw [itoa_nat] at hb
  have := digits_are n b hb
  rw [e] at this
  exact absurd this.2 (by decide)

theorem wt_cons (x : Text) (xs : List Text) : wt (x :: xs) = Lib.itoa (x.length : Int) ++ 58 :: (x ++ wt xs) := by
  unfold wt wtext
  rw [List.map_cons, List.flatMap_cons]
  have : (baOf x).size = x.length := by simp [baOf, ByteArray.size]
  rw [this]
  show _ ++ 58 :: x ++ _ = _
  simp

theorem wt_nil : wt [] = [] := rfl

/-- a word comes back -/
theorem word_back {x rest s a b : Text} (hs : s = Lib.itoa (x.length : Int) ++ 58 :: (x ++ rest)) (hx : x.length < 1000000000000000000) (h : Word s a b) : a = x ∧ b = rest := by
  obtain ⟨k, hk, hv, rfl, rfl⟩ := h
  have hc : Lib.cut s [58] = (Lib.itoa (x.length : Int), x ++ rest, true) := by rw [hs]; exact cut_at _ _ _ (itoa_no58 _)
  rw [hc] at hk hv ⊢
  have := hv (x.length : Int) (by rw [itoa_nat]; exact atoiAll_digits _ hx)
  simp only [List.length_append] at this
  have hk' : k = x.length := by omega
  subst hk'
  simp

theorem addr2_back {p : Ltr} {rest s a b c : Text} (hs : s = wt [p.1, p.2] ++ rest) (h1 : p.1.length < 1000000000000000000) (h2 : p.2.length < 1000000000000000000) (h : Addr2 s a b c) : a = p.1 ∧ b = p.2 ∧ c = rest := by
  obtain ⟨t, w1, w2⟩ := h
  rw [wt_cons, wt_cons, wt_nil] at hs
  obtain ⟨e1, e2⟩ := word_back (x := p.1) (rest := Lib.itoa (p.2.length : Int) ++ 58 :: (p.2 ++ rest)) (by rw [hs]; simp) h1 w1
  obtain ⟨e3, e4⟩ := word_back (x := p.2) (rest := rest) e2 h2 w2
  exact ⟨e1, e3, e4⟩

theorem wt_app (xs ys : List Text) : wt (xs ++ ys) = wt xs ++ wt ys := by
  unfold wt
  rw [List.map_append, wtext_app]

theorem chain_back : ∀ (l l' : List Ltr), (∀ p ∈ l, p.1.length < 1000000000000000000 ∧ p.2.length < 1000000000000000000) → Chain l' (wt (l.flatMap twoOf)) [] → l' = l
  | [], l', _, h => by
    cases l' with
    | nil => rfl
    | cons p l' => exact absurd rfl h.1
  | p :: l, [], _, h => by
    have e : wt ((p :: l).flatMap twoOf) = wt [p.1, p.2] ++ wt (l.flatMap twoOf) := by
      rw [List.flatMap_cons, wt_app]; rfl
    have h : wt ((p :: l).flatMap twoOf) = [] := h
    rw [e, wt_cons] at h
    simp at h
  | p :: l, (a, b) :: l', hl, h => by
    obtain ⟨_, t, h2, h3⟩ := h
    have e : wt ((p :: l).flatMap twoOf) = wt [p.1, p.2] ++ wt (l.flatMap twoOf) := by
      rw [List.flatMap_cons, wt_app]; rfl
    obtain ⟨rfl, rfl, rfl⟩ := addr2_back e (hl p (by simp)).1 (hl p (by simp)).2 h2
    rw [chain_back l l' (fun q hq => hl q (by simp [hq])) h3]

/-- what is read off a text as a mail -/
def MailOf (s a b : Text) (l : List Ltr) (d r : Text) : Prop := ∃ t1 t2 t3, Addr2 s a b t1 ∧ Word t1 t2 t3 ∧ Chain l t2 [] ∧ Word t3 d r

/-- a mail comes back -/
theorem mail_back {s a b d r a' b' d' r' : Text} {l l' : List Ltr} (hs : s = mailText a b l d ++ r) (ha : a.length < 1000000000000000000) (hb : b.length < 1000000000000000000) (hd : d.length < 1000000000000000000) (hl : ∀ p ∈ l, p.1.length < 1000000000000000000 ∧ p.2.length < 1000000000000000000) (hw : (wt (l.flatMap twoOf)).length < 1000000000000000000)
    (h : MailOf s a' b' l' d' r') : a' = a ∧ b' = b ∧ l' = l ∧ d' = d ∧ r' = r := by
  obtain ⟨t1, t2, t3, h1, h2, h3, h4⟩ := h
  have e : mailText a b l d = wt [a, b] ++ (Lib.itoa ((wt (l.flatMap twoOf)).length : Int) ++ 58 :: (wt (l.flatMap twoOf) ++ (Lib.itoa (d.length : Int) ++ 58 :: d))) := by
    unfold mailText
    rw [show [a, b, wt (l.flatMap twoOf), d] = [a, b] ++ [wt (l.flatMap twoOf), d] from rfl, wt_app]
    rw [wt_cons (wt (l.flatMap twoOf)), wt_cons d, wt_nil]
    simp
  obtain ⟨rfl, rfl, e1⟩ := addr2_back (p := (a, b)) (rest := Lib.itoa ((wt (l.flatMap twoOf)).length : Int) ++ 58 :: (wt (l.flatMap twoOf) ++ (Lib.itoa (d.length : Int) ++ 58 :: (d ++ r)))) (by rw [hs, e]; simp) ha hb h1
  obtain ⟨rfl, e2⟩ := word_back e1 hw h2
  obtain ⟨rfl, rfl⟩ := word_back e2 hd h4
  exact ⟨rfl, rfl, chain_back l l' hl h3, rfl, rfl⟩

end Go.Proofs.YtegbkpjcjlihmabGreatDoor

namespace Go.Proofs.YtegbkpjcjlihmabGreatDoor
open Go.RowKit Go.Maps Go.ChangeMaps Go.WideMaps Go.Sort Go.Shelf

theorem rowA_cells {w : World} {base cap : Nat} {ao : Option Addr} {l : List Ltr} (h : w.ownsRow base 56 2 (.slice ao l.length cap) l.length (l.flatMap encL)) : ∀ j u, (l.flatMap encL)[j]? = some u → ∃ g, ao = some ⟨g, 0, none⟩ ∧ w.cell? ⟨g, j, none⟩ = some u := by
  intro j u hj
  have hne : l.length ≠ 0 := fun e => by
    have hl := flat_len l
    rw [e] at hl
    have := (List.getElem?_eq_some_iff.1 hj).1
    omega
  rcases h.2 with ⟨_, e⟩ | ⟨g, cap', cur, e, _⟩
  · exact absurd e hne
  · injection e with e1 e2 e3
    subst e1
    refine ⟨g, rfl, ?_⟩
    have hadd : (⟨g, 0, none⟩ : Addr).add j = ⟨g, j, none⟩ := by unfold Addr.add; split <;> simp_all
    have := h.cells (g := g) rfl j u hj
    rwa [hadd] at this

theorem Chain.lens : ∀ {l : List Ltr} {s c : Text}, Chain l s c → l.length ≤ s.length ∧ ∀ p ∈ l, p.1.length ≤ s.length ∧ p.2.length ≤ s.length
  | [], s, c, _ => ⟨Nat.zero_le _, fun p hp => by cases hp⟩
  | (a, b) :: l, s, c, ⟨h0, t, h1, h2⟩ => by
    obtain ⟨e1, e2⟩ := h1.len
    obtain ⟨e3, e4⟩ := Chain.lens h2
    have e2 := e2 h0
    refine ⟨by simp; omega, fun p hp => ?_⟩
    rcases List.mem_cons.1 hp with rfl | hp
    · exact ⟨by show a.length ≤ _; omega, by show b.length ≤ _; omega⟩
    · have := e4 p hp
      omega

theorem MailOf.lens {s a b d r : Text} {l : List Ltr} (h : MailOf s a b l d r) : l.length ≤ s.length ∧ (∀ p ∈ l, p.1.length ≤ s.length ∧ p.2.length ≤ s.length) ∧ a.length ≤ s.length ∧ b.length ≤ s.length ∧ d.length ≤ s.length ∧ r.length ≤ s.length := by
  obtain ⟨t1, t2, t3, h1, h2, h3, h4⟩ := h
  have e1 := h1.len.1
  have e2 := h2.len.1
  have e4 := h4.len.1
  obtain ⟨e3, e5⟩ := h3.lens
  refine ⟨by omega, fun p hp => ?_, by omega, by omega, by omega, by omega⟩
  have := e5 p hp
  omega

theorem once_mem : ∀ (l acc : List Ltr) (p : Ltr), p ∈ l.foldl addOnce acc ↔ p ∈ acc ∨ p ∈ l
  | [], acc, p => by simp
  | a :: l, acc, p => by
    rw [List.foldl_cons, once_mem l]
    unfold addOnce
    split
    · rename_i h
      constructor
      · rintro (h' | h') <;> simp [h']
      · rintro (h' | h')
        · exact .inl h'
        · rcases List.mem_cons.1 h' with rfl | h'
          · exact .inl h
          · exact .inr h'
    · simp [or_assoc]

theorem once_nodup : ∀ (l acc : List Ltr), acc.Nodup → (l.foldl addOnce acc).Nodup
  | [], _, h => h
  | a :: l, acc, h => by
    rw [List.foldl_cons]
    refine once_nodup l _ ?_
    unfold addOnce
    split
    · exact h
    · rename_i hn
      exact List.nodup_append.2 ⟨h, by simp, fun x hx y hy => by simp at hy; subst hy; exact fun e => hn (e ▸ hx)⟩

theorem plc_ok {acc : List Ltr} (_h : acc.Nodup) (hl : acc.length < 1099511627776) : okM (plc acc) where
  rng := fun p x hx => by
    unfold plc at hx
    split at hx
    · rename_i hp
      have := List.idxOf_lt_length_iff.2 hp
      have e := Option.some.inj hx
      omega
    · cases hx
  inj := fun p q x hp hq => by
    unfold plc at hp hq
    split at hp
    · rename_i h1
      split at hq
      · rename_i h2
        have e1 := Option.some.inj hp
        have e2 := Option.some.inj hq
        have e : acc.idxOf p = acc.idxOf q := by omega
        have g1 := List.getElem_idxOf (List.idxOf_lt_length_iff.2 h1)
        have g2 := List.getElem_idxOf (List.idxOf_lt_length_iff.2 h2)
        rw [← g1, ← g2]
        simp only [e]
      · cases hq
    · cases hp

theorem plc_ordered {acc : List Ltr} (h : acc.Nodup) (hok : ∀ p ∈ acc, okA p) : Ordered (plc acc) acc where
  nodup := h
  mem := fun p => by
    unfold plc
    by_cases hp : p ∈ acc
    · simp [hp, hok p hp]
    · simp [hp]
  up := by
    rw [List.pairwise_iff_getElem]
    intro i j hi hj hij
    have e : ∀ k (hk : k < acc.length), plOf (plc acc) acc[k] = k := fun k hk => by
      unfold plOf plc
      rw [if_pos (List.getElem_mem hk), h.idxOf_getElem k hk]
      rfl
    rw [e i hi, e j hj]
    omega

theorem fieldTo (a b d : ByteArray) (v : Value) (w : World) : (Instr.field 59 (.agg #[.string a, .string b, v, .string d]) 1).run Tryz.prog w = .ok v w := by
  unfold Instr.field
  simp [go_sem, Tryz.sizeOf57]
  rfl

/-- who is left by a file's text -/
def LeftOf (s : Text) (M : Lefts) : Prop := ∃ a b l d r, MailOf s a b l d r ∧ M = strikes (once l) (plc (once l)) (splits r)

theorem okM_strikes {ls : List Ltr} : ∀ (ps : List Text) {M : Lefts}, okM M → okM (strikes ls M ps)
  | [], _, h => h
  | p :: ps, M, h => by
    show okM (strikes ls (strike1 ls M p) ps)
    refine okM_strikes ps ?_
    unfold strike1
    split
    · split
      · split
        · exact h.del _
        · exact h
      · exact h
    · exact h

set_option maxHeartbeats 2000000 in
set_option maxRecDepth 20000 in
theorem stillLeft_any (s : ByteArray) (w : World) (hG : Gl w) (hs : s.size < 1099511627) (h8 : 8 ≤ w.heap.size) :
    Calls Tryz.prog 93 #[.string s] w fun e w' => ∃ (m n c : Nat) (M : Lefts), e = .returned (.map (some m)) ∧ w.heap.size ≤ m ∧ n ≤ s.size ∧ LeftAt w' m n c M ∧ LeftOf s.data.toList M ∧ okM M ∧ Fresh w w' := by
  have k1 : Fresh w (w.alloc (.cells #[.string s] 160)) := (Keeps.refl _ _).alloc _
  have hmail := mail_any w.heap.size s (w.alloc (.cells #[.string s] 160)) (hG.fresh k1) (heap_new _ _) (by omega) h8
  unfold ptr at *
  go_enter Tryz.func93, Tryz.ntmps93
  go_wp2_with fail
  refine hmail.mono ?_
  rintro e w1 ⟨a, b, d, r, tv, l, t1, t2, t3, rfl, h1, h2, h3, h4, hrow, hp, k2⟩
  have HMl : Hid (MailOf s.data.toList a.data.toList b.data.toList l d.data.toList r.data.toList) := ⟨t1, t2, t3, h1, h2, h3, h4⟩
  obtain ⟨ll, lp, _, _, _, lr⟩ := HMl.out.lens
  have e1 : s.data.toList.length = s.size := rfl
  have e2 : r.data.toList.length = r.size := rfl
  obtain ⟨ao, cap, rfl, hc1, hc2, hao⟩ := own_form hrow
  have hall := all_any ao cap l w1 (by omega) (fun p hp => by have := lp p hp; unfold okA maxLen; omega) (rowA_cells hrow)
  have hK1 : Fresh w w1 := k1.then k2 (fun i hi e => by omega)
  have hs1 := hK1.size
  have c1 := cell1 hp
  have HOK : Hid (∀ p ∈ l, okA p) := fun p hp => by have := lp p hp; unfold okA maxLen; omega
  have hf := fieldTo a b d (.slice ao l.length cap) w1
  clear h1 h2 h3 h4 hmail
  go_wp2_with fail
  refine hall.mono ?_
  rintro e w2 ⟨rfl, hL, k3⟩
  have c2 := cell_keeps k3 c1 (fun e => e)
  have hK2 : Fresh w w2 := hK1.trans k3
  have hon : (once l).Nodup := once_nodup l [] List.nodup_nil
  have hlen := once_len l
  have hM : okM (plc (once l)) := plc_ok hon (by omega)
  have hst := strike_any hM w2 (hG.fresh hK2) w1.heap.size l.length _ hL (by omega) (by omega) r (by omega)
  have HO : Hid (Ordered (plc (once l)) (once l)) := plc_ordered hon (fun p hp => HOK.out p (by
    have := (once_mem l [] p).1 hp
    simpa using this))
  have HM : Hid (okM (plc (once l))) := hM
  clear hall hL hM c1
  go_wp2_with fail
  refine hst.mono ?_
  rintro e w3 ⟨rfl, ls, c', ho, hL3, k4⟩
  obtain rfl : ls = once l := ho.unique HM.out HO.out
  have HE : Hid (w.heap.size ≤ w1.heap.size ∧ l.length ≤ s.size ∧ LeftAt w3 w1.heap.size l.length c' (strikes (once l) (plc (once l)) (splits r.data.toList)) ∧ LeftOf s.data.toList (strikes (once l) (plc (once l)) (splits r.data.toList)) ∧ okM (strikes (once l) (plc (once l)) (splits r.data.toList)) ∧ Fresh w w3) :=
    ⟨hs1, by omega, hL3, ⟨_, _, l, _, _, HMl.out, rfl⟩, okM_strikes _ HM.out, hK2.then k4 (fun i hi e => by omega)⟩
  clear hst ho hL3 k4
  go_wp2_with fail
  go_ret
  exact ⟨_, _, _, _, rfl, HE.out⟩

end Go.Proofs.YtegbkpjcjlihmabGreatDoor
