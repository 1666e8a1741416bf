/-
  find: what is on the disk, and which writes make the files as they have to be: what holds meanwhile. | find: the walk.
-/
import Derived.Test.YtegbkpjcjlihmabGreatDoorGp
import Derived.Test.YtegbkpjcjlihmabGreatDoorGu
import Derived.Test.YtegbkpjcjlihmabGreatDoorGq
import Derived.Test.YtegbkpjcjlihmabGreatDoorGi
namespace Go.Proofs.YtegbkpjcjlihmabGreatDoor
open Go.RowKit Go.Maps

/-- a closure's blocks -/
def CB (we wr : World) (k : Nat) : Prop := we.heap.size ≤ k ∧ k < wr.heap.size ∧ (tag wr k = some 48 ∨ tag wr k = some 9)

theorem tag_same {w w' : World} {k : Nat} (h : w'.heap[k]? = w.heap[k]?) : tag w' k = tag w k := by unfold tag; rw [h]

structure FSt (w we : World) (A : Nat → Prop) (d : Nat) (K : List Text) (C L : Nat) (σ : Dk) (s mw N : Nat) (P : Int → Lefts → Prop) (lv : Int) (v : Value) (vals : List Value) (ws : List Wr) (W : Waits) (wr : World) : Prop where
  live : Live w wr A d K C L σ
  sp : wr.heap[s]? = some (spoolCells d (.int .i64 lv) (.map (some mw)) false)
  row : wr.ownsRow we.heap.size 128 1 v vals.length vals
  len : ws.length = vals.length
  does : ∀ (i : Nat) v x, vals[i]? = some v → ws[i]? = some x → DoesW w d K (CB we wr) wr v (Wr.rel x) 0
  wt : WaitsAt wr mw N W
  inj : ∀ n n' b, W n = some b → W n' = some b → n = n'
  lft : ∀ n b, W n = some b → we.heap.size ≤ b ∧ ∃ nn c M, nn ≤ L ∧ LeftAt wr b nn c M ∧ okM M ∧ P n M
  k : Keeps (fun i => A i ∨ i = s ∨ i = mw) we wr

section
variable {w we : World} {A : Nat → Prop} {d : Nat} {K : List Text} {C L : Nat} {σ : Dk} {s mw N : Nat} {P : Int → Lefts → Prop} {lv : Int} {v : Value} {vals : List Value} {ws : List Wr} {W : Waits} {wr wr' : World}

theorem LeftAt.tag {w : World} {m n c : Nat} {M : Lefts} (h : LeftAt w m n c M) : tag w m = some 1000000 := by
  obtain ⟨D, ⟨es, cl, hb, _⟩, _⟩ := h
  unfold Go.Proofs.YtegbkpjcjlihmabGreatDoor.tag
  rw [hb]

theorem WaitsAt.tag {w : World} {m n : Nat} {M : Waits} (h : WaitsAt w m n M) : tag w m = some 1000000 := by
  obtain ⟨D, ⟨es, cl, hb, _⟩, _⟩ := h
  unfold Go.Proofs.YtegbkpjcjlihmabGreatDoor.tag
  rw [hb]

theorem CB.kept {S : Nat → Prop} (kk : Keeps S wr wr') (hS : ∀ k, CB we wr k → ¬ S k) : ∀ k, CB we wr k → CB we wr' k ∧ wr'.heap[k]? = wr.heap[k]? := fun k hk => by
  have e := kk.block k hk.2.1 (hS k hk)
  have := kk.size
  refine ⟨⟨hk.1, by have := hk.2.1; omega, ?_⟩, e⟩
  rw [tag_same e]
  exact hk.2.2

/-- nothing of it is written -/
theorem FSt.side {S : Nat → Prop} (h : FSt w we A d K C L σ s mw N P lv v vals ws W wr) (kk : Keeps S wr wr') (hl : Live w wr' A d K C L σ) (hs : ¬ S s) (hm : ¬ S mw) (hb : ∀ k, we.heap.size ≤ k → ¬ S k) (hw : ∀ k, k < we.heap.size → S k → A k) : FSt w we A d K C L σ s mw N P lv v vals ws W wr' where
  live := hl
  sp := kk.heap h.sp hs
  row := kk.owns h.row (fun k hk => hb k (h.row.lt k hk).1)
  len := h.len
  does := fun i v x h1 h2 => (h.does i v x h1 h2).kept (CB.kept kk (fun k hk => hb k hk.1))
  wt := kk.waitsAt h.wt hm
  inj := h.inj
  lft := fun n b hn => by
    obtain ⟨h1, nn, c, M, h2, h3, h4, h5⟩ := h.lft n b hn
    exact ⟨h1, nn, c, M, h2, kk.leftAt h3 (hb b h1), h4, h5⟩
  k := h.k.then kk (fun i hi e => .inl (hw i hi e))

theorem FSt.fresh (h : FSt w we A d K C L σ s mw N P lv v vals ws W wr) (kk : Fresh wr wr') : FSt w we A d K C L σ s mw N P lv v vals ws W wr' :=
  h.side kk (h.live.fresh kk) (fun e => e) (fun e => e) (fun _ _ e => e) (fun _ _ e => e.elim)

/-- the facts that hang on no world -/
theorem FSt.weaken {P' : Int → Lefts → Prop} {N' : Nat} (h : FSt w we A d K C L σ s mw N P lv v vals ws W wr) (hP : ∀ n M, P n M → P' n M) (hN : N ≤ N') : FSt w we A d K C L σ s mw N' P' lv v vals ws W wr :=
  ⟨h.live, h.sp, h.row, h.len, h.does, by obtain ⟨D, h1, h2⟩ := h.wt; exact ⟨D, h1.mono hN, h2⟩, h.inj, fun n b hn => by obtain ⟨h1, nn, c, M, h2, h3, h4, h5⟩ := h.lft n b hn; exact ⟨h1, nn, c, M, h2, h3, h4, hP n M h5⟩, h.k⟩

/-- the last number is set -/
theorem FSt.setLast (h : FSt w we A d K C L σ s mw N P lv v vals ws W wr) (hsA : ¬ A s) (hsw : w.heap.size ≤ s) (hsl : s < we.heap.size) (hms : mw ≠ s) (lv' : Int) : FSt w we A d K C L σ s mw N P lv' v vals ws W (wr.setCell ⟨s, 1, none⟩ (.int .i64 lv')) := by
  have kk : Keeps (fun k => k = s) wr (wr.setCell ⟨s, 1, none⟩ (.int .i64 lv')) := (Keeps.refl (fun k => k = s) wr).setCell (p := ⟨s, 1, none⟩) (fun _ => rfl) _
  refine ⟨h.live.side kk (fun i hi e => hsA (e ▸ hi)) (fun i e => by omega), heap_setCell_at h.sp 1 _, kk.owns h.row (fun k hk e => by have := (h.row.lt k hk).1; omega), h.len, fun i v x h1 h2 => (h.does i v x h1 h2).kept (CB.kept kk (fun k hk e => by have := hk.1; omega)), kk.waitsAt h.wt hms, h.inj, fun n b hn => ?_, h.k.then kk (fun i _ e => .inr (.inl e))⟩
  obtain ⟨h1, nn, c, M, h2, h3, h4, h5⟩ := h.lft n b hn
  exact ⟨h1, nn, c, M, h2, kk.leftAt h3 (fun e => by omega), h4, h5⟩

/-- a mail that waits -/
theorem FSt.putW (h : FSt w we A d K C L σ s mw N P lv v vals ws W wr) (hA : ¬ A mw) (hmw : w.heap.size ≤ mw) (hml : mw < we.heap.size) (hms : mw ≠ s) (n : Int) (b nn c : Nat) (M : Lefts) (hb : LeftAt wr b nn c M) (hbw : we.heap.size ≤ b) (hnew : ∀ n b', W n = some b' → b' ≠ b) (hnn : nn ≤ L) (hM : okM M) (hP : P n M)
    (hwt : WaitsAt wr' mw (N + 1) (putW W n b)) (kk : Keeps (fun k => k = mw) wr wr') : FSt w we A d K C L σ s mw (N + 1) P lv v vals ws (putW W n b) wr' := by
  refine ⟨h.live.side kk (fun i hi e => hA (e ▸ hi)) (fun i e => by omega), kk.heap h.sp (fun e => hms e.symm), kk.owns h.row (fun k hk e => by have := (h.row.lt k hk).1; omega), h.len, fun i v x h1 h2 => (h.does i v x h1 h2).kept (CB.kept kk (fun k hk e => by have := hk.1; omega)), hwt, ?_, ?_, h.k.then kk (fun i _ e => .inr (.inr e))⟩
  · intro i j b' h1 h2
    unfold Go.Proofs.YtegbkpjcjlihmabGreatDoor.putW at h1 h2
    by_cases e1 : i = n
    · by_cases e2 : j = n
      · rw [e1, e2]
      · rw [if_pos e1] at h1
        rw [if_neg e2] at h2
        exact absurd (Option.some.inj h1).symm (hnew j b' h2)
    · by_cases e2 : j = n
      · rw [if_neg e1] at h1
        rw [if_pos e2] at h2
        exact absurd (Option.some.inj h2).symm (hnew i b' h1)
      · rw [if_neg e1] at h1
        rw [if_neg e2] at h2
        exact h.inj i j b' h1 h2
  · intro i b' h1
    unfold Go.Proofs.YtegbkpjcjlihmabGreatDoor.putW at h1
    by_cases e1 : i = n
    · rw [if_pos e1] at h1
      obtain rfl := Option.some.inj h1
      subst e1
      exact ⟨hbw, nn, c, M, hnn, kk.leftAt hb (fun e => by omega), hM, hP⟩
    · rw [if_neg e1] at h1
      obtain ⟨p1, nn', c', M', p2, p3, p4, p5⟩ := h.lft i b' h1
      exact ⟨p1, nn', c', M', p2, kk.leftAt p3 (fun e => by omega), p4, p5⟩

/-- a write more -/
theorem FSt.append {w4 : World} {v4 cv : Value} {x : Wr} {T : Value} {nmv : Value} (h : FSt w we A d K C L σ s mw N P lv v vals ws W wr) (hA : ∀ i, A i → i < we.heap.size) (hsl : s < we.heap.size) (hml : mw < we.heap.size) (hww : w.heap.size ≤ we.heap.size)
    (hdo : ∀ w' (B : Nat → Prop), w'.heap[wr.heap.size]? = some (.cells #[T] 48 (0, 0)) → w'.heap[wr.heap.size + 1]? = some (.cells #[nmv] 9 (0, 0)) → B wr.heap.size → B (wr.heap.size + 1) → DoesW w d K B w' cv (Wr.rel x) 0)
    (ho : w4.ownsRow we.heap.size 128 1 v4 (vals.length + 1) (vals ++ [cv])) (hg : (((wr.alloc (.cells #[T] 48)).alloc (.cells #[nmv] 9)).alloc (.cells #[cv] 128)).grownBy w4 v.ownBlock) :
    FSt w we A d K C L σ s mw N P lv v4 (vals ++ [cv]) (ws ++ [x]) W w4 := by
  have ka : Fresh wr (wr.alloc (.cells #[T] 48)) := (Keeps.refl _ _).alloc _
  have kb : Fresh (wr.alloc (.cells #[T] 48)) ((wr.alloc (.cells #[T] 48)).alloc (.cells #[nmv] 9)) := (Keeps.refl _ _).alloc _
  have kc : Fresh ((wr.alloc (.cells #[T] 48)).alloc (.cells #[nmv] 9)) (((wr.alloc (.cells #[T] 48)).alloc (.cells #[nmv] 9)).alloc (.cells #[cv] 128)) := (Keeps.refl _ _).alloc _
  have hp := kc.heap (kb.heap (heap_new wr (.cells #[T] 48)) (fun e => e)) (fun e => e)
  have hq := kc.heap (heap_new (wr.alloc (.cells #[T] 48)) (.cells #[nmv] 9)) (fun e => e)
  rw [World.size_alloc] at hq
  have h3 := h.fresh ((ka.trans kb).trans kc)
  have hsz : (((wr.alloc (.cells #[T] 48)).alloc (.cells #[nmv] 9)).alloc (.cells #[cv] 128)).heap.size = wr.heap.size + 3 := by simp
  have hwe : we.heap.size ≤ wr.heap.size := h.k.size
  generalize ((wr.alloc (.cells #[T] 48)).alloc (.cells #[nmv] 9)).alloc (.cells #[cv] 128) = w3 at *
  have kk : Keeps (fun k => v.ownBlock = some k) w3 w4 := (Keeps.refl _ _).grown hg (fun k hk _ => hk)
  have hbw : ∀ k, v.ownBlock = some k → we.heap.size ≤ k ∧ tag w3 k = some 128 := fun k hk => ⟨(h3.row.lt k hk).1, owns_tag h3.row hk⟩
  have htag : ∀ k t, tag w3 k = some t → t ≠ 128 → ¬ v.ownBlock = some k := fun k t h1 h2 e => by
    have := (hbw k e).2
    rw [h1] at this
    exact h2 (Option.some.inj this)
  have hcb : ∀ k, CB we w3 k → ¬ v.ownBlock = some k := fun k hk => by
    rcases hk.2.2 with e | e
    · exact htag k _ e (by decide)
    · exact htag k _ e (by decide)
  have t48 := tag_cells hp
  have t9 := tag_cells hq
  have hp4 := kk.heap hp (htag _ _ t48 (by decide))
  have hq4 := kk.heap hq (htag _ _ t9 (by decide))
  have hs4 := kk.size
  refine ⟨h3.live.side kk (fun i hi e => by have := hA i hi; have := (hbw i e).1; omega) (fun i e => by have := (hbw i e).1; omega), kk.heap h3.sp (fun e => by have := (hbw s e).1; omega), by rw [List.length_append]; exact ho, by rw [List.length_append, List.length_append, h3.len]; rfl, ?_, kk.waitsAt h3.wt (fun e => by have := (hbw mw e).1; omega), h3.inj, ?_, h3.k.then kk (fun i hi e => by have := (hbw i e).1; omega)⟩
  · intro i u y h1 h2
    by_cases hi : i < vals.length
    · rw [List.getElem?_append_left hi] at h1
      rw [List.getElem?_append_left (by rw [h3.len]; exact hi)] at h2
      exact (h3.does i u y h1 h2).kept (CB.kept kk hcb)
    · have hi1 : i = vals.length := by
        have := (List.getElem?_eq_some_iff.1 h1).1
        simp at this
        omega
      subst hi1
      rw [List.getElem?_append_right (Nat.le_refl _)] at h1
      rw [← h3.len, List.getElem?_append_right (Nat.le_refl _)] at h2
      simp at h1 h2
      subst h1 h2
      exact hdo w4 _ hp4 hq4 ⟨hwe, by omega, .inl (tag_cells hp4)⟩ ⟨by omega, by omega, .inr (tag_cells hq4)⟩
  · intro n b hn
    obtain ⟨p1, nn', c', M', p2, p3, p4, p5⟩ := h3.lft n b hn
    exact ⟨p1, nn', c', M', p2, kk.leftAt p3 (htag b _ p3.tag (by decide)), p4, p5⟩

end
end Go.Proofs.YtegbkpjcjlihmabGreatDoor

namespace Go.Proofs.YtegbkpjcjlihmabGreatDoor
open Go.RowKit Go.Maps

def newT : Text := [115, 112, 111, 111, 108, 47, 110, 101, 119]
def lastT : Text := [115, 112, 111, 111, 108, 47, 108, 97, 115, 116, 47]
def mailT : Text := [115, 112, 111, 111, 108, 47, 109, 97, 105, 108, 47]

/-- a name is of a mail of that number -/
def isMail (s : Text) (n : Int) : Prop := s ≠ newT ∧ numberOf s lastT = none ∧ numberOf s mailT = some n
/-- what is written for a name -/
def findW1 (s : Text) : Option Wr := if s = newT then some (3, s, []) else if (numberOf s lastT).isSome = true then none else if (numberOf s mailT).isSome = true then some (2, s, []) else none
def findW (ks : List Text) : List Wr := ks.filterMap findW1
def last1 (acc : Option Int) (s : Text) : Option Int := if s = newT then acc else (match numberOf s lastT with | some n => some n | none => acc)
def findLast (ks : List Text) : Option Int := ks.foldl last1 none

/-- the mails that are found -/
def Found (σ : Dk) (ks : List Text) (n : Int) (M : Lefts) : Prop := ∃ s ∈ ks, isMail s n ∧ LeftOf ((σ.read s).getD []) M
def Wts (ks : List Text) (W : Waits) : Prop := (∀ n b, W n = some b → ∃ s ∈ ks, isMail s n) ∧ ∀ s ∈ ks, ∀ n, isMail s n → (W n).isSome = true

theorem info128 : (Tryz.prog.info? 128).map (fun i => (i.zero.map (fun z => z.cells.size), i.size, i.bytes)) = some (some 1, 1, 8) := by kernel_rfl
theorem info128' : ∃ i z, Tryz.prog.info? 128 = some i ∧ i.zero = some z ∧ z.cells.size = 1 ∧ i.size = 1 ∧ i.bytes = 8 := by
  cases h : Tryz.prog.info? 128 with
  | none => have := info128; rw [h] at this; cases this
  | some i =>
    have := info128
    rw [h] at this
    simp at this
    obtain ⟨⟨z, h1, h2⟩, h3, h4⟩ := this
    exact ⟨i, z, rfl, h1, h2, h3, h4⟩

theorem findW_len (ks : List Text) : (findW ks).length ≤ ks.length := List.length_filterMap_le _ _

theorem Wts.step {ks : List Text} {W : Waits} {s : Text} (h : Wts ks W) (hs : ∀ n, ¬ isMail s n) : Wts (ks ++ [s]) W := by
  refine ⟨fun n b hn => ?_, fun t ht n hm => ?_⟩
  · obtain ⟨t, ht, hm⟩ := h.1 n b hn
    exact ⟨t, by simp [ht], hm⟩
  · rcases List.mem_append.1 ht with ht | ht
    · exact h.2 t ht n hm
    · simp at ht
      subst ht
      exact absurd hm (hs n)

theorem Wts.put {ks : List Text} {W : Waits} {s : Text} {n : Int} {b : Nat} (h : Wts ks W) (hs : isMail s n) : Wts (ks ++ [s]) (putW W n b) := by
  refine ⟨fun i b' hn => ?_, fun t ht i hm => ?_⟩
  · unfold putW at hn
    by_cases e : i = n
    · exact ⟨s, by simp, e ▸ hs⟩
    · rw [if_neg e] at hn
      obtain ⟨t, ht, hm⟩ := h.1 i b' hn
      exact ⟨t, by simp [ht], hm⟩
  · unfold putW
    by_cases e : i = n
    · simp [e]
    · rw [if_neg e]
      rcases List.mem_append.1 ht with ht | ht
      · exact h.2 t ht i hm
      · simp at ht
        subst ht
        have := hs.2.2.symm.trans hm.2.2
        exact absurd (Option.some.inj this).symm e

theorem found_mono {σ : Dk} {ks : List Text} (s : Text) (n : Int) (M : Lefts) (h : Found σ ks n M) : Found σ (ks ++ [s]) n M := by
  obtain ⟨t, ht, h2⟩ := h
  exact ⟨t, by simp [ht], h2⟩
theorem findLast_snoc (ks : List Text) (s : Text) : findLast (ks ++ [s]) = last1 (findLast ks) s := by unfold findLast; rw [List.foldl_append]; rfl
theorem findW_snoc (ks : List Text) (s : Text) : findW (ks ++ [s]) = findW ks ++ (findW1 s).toList := by
  unfold findW
  rw [List.filterMap_append]
  cases h : findW1 s <;> simp [h]

section
variable {w we : World} {A : Nat → Prop} {d : Nat} {K : List Text} {C L : Nat} {σ : Dk} {s mw : Nat}

theorem cell_new3 (wr : World) (a b : Obj) (cv : Value) (T : TypeId) : (((wr.alloc a).alloc b).alloc (.cells #[cv] T)).cell? ⟨wr.heap.size + 2, 0, none⟩ = some cv := by
  have := cell1 (heap_new ((wr.alloc a).alloc b) (.cells #[cv] T))
  rwa [World.size_alloc, World.size_alloc] at this

/-- names, behind an append -/
theorem row9_grown {w3 w5 : World} {base : Nat} {u nv : Value} {n b0 : Nat} {xs : List Value} {ks : List Text} (h : Row9 w3 base nv ks) (ho : w3.ownsRow b0 128 1 u n xs) (hg : w3.grownBy w5 u.ownBlock) : Row9 w5 base nv ks := by
  refine ((Keeps.refl (fun i => u.ownBlock = some i) _).grown hg (fun i hi _ => hi)).owns h (fun i hi e => ?_)
  have t1 := owns_tag h hi
  have t2 := owns_tag ho e
  rw [t1] at t2
  exact absurd (Option.some.inj t2) (by decide)

/-- what stands behind find -/
def FindDone (w we : World) (A : Nat → Prop) (d : Nat) (K : List Text) (C L : Nat) (σ : Dk) (s mw : Nat) (e : Ending) (w' : World) : Prop :=
  ∃ (v : Value) (ks : List Text) (N : Nat) (vals : List Value) (W : Waits), e = .returned v ∧ Sorted σ.now ks ∧ N ≤ ks.length ∧ okI ((findLast ks).getD 0) ∧ Wts ks W ∧ ks.length ≤ K.length ∧
    FSt w we A d K C L σ s mw N (Found σ ks) ((findLast ks).getD 0) v vals (findW ks ++ (if (findLast ks).isSome = true then [] else [(0, numName lastT 0, [])])) W w'

set_option maxHeartbeats 8000000 in
set_option maxRecDepth 100000 in
theorem find_any (h : Live w we A d K C L σ) (hG : Gl w) (hsp : we.heap[s]? = some (spoolCells d (.int .i64 0) (.map (some mw)) false)) (hwt : WaitsAt we mw 0 (fun _ => none)) (hsA : ¬ A s) (hmA : ¬ A mw) (hsw : w.heap.size ≤ s) (hmw : w.heap.size ≤ mw) (hms : mw ≠ s) (h8 : 8 ≤ w.heap.size)
    (hK : K.length ≤ 1099511627776) (hKs : ∀ s ∈ K, s.length ≤ 1099511627776) (hL : L < 1099511627) (hK0 : numName lastT 0 ∈ K) :
    Calls Tryz.prog 53 #[ptr s] we (FindDone w we A d K C L σ s mw) := by
  have hnames := h.names hK
  obtain ⟨i0, z0, hi, hz0, hz1, hz2, hz3⟩ := info128'
  have H : Hid (Live w we A d K C L σ) := h
  have hA : ∀ i, A i → i < we.heap.size := fun i hi => (h.1 i hi).2
  have hww := h.2.2.2.size
  have hsl := heap_lt hsp
  have hml := hwt.lt
  have hnK := h.2.2.1.nowK
  have Hsp : Hid (we.heap[s]? = some (spoolCells d (.int .i64 0) (.map (some mw)) false)) := hsp
  obtain ⟨c0, c1, c2, c3, _, _, _, _⟩ := mcells hsp
  have Hwt : Hid (WaitsAt we mw 0 (fun _ => none)) := hwt
  clear h hsp hwt
  unfold ptr at *
  go_enter Tryz.func53, Tryz.ntmps53
  go_wp2_with fail
  refine hnames.mono ?_
  rintro e w1 ⟨nv, ks, rfl, hs, hl1, hl2, hrow, h1, k1⟩
  obtain ⟨ao, cap, rfl, hc1, hc2, hao⟩ := own_form hrow
  unfold maxLen at hc1
  have HS : Hid (Sorted σ.now ks) := hs
  have hsz : ∀ t ∈ ks, t.length ≤ 1099511627776 := fun t ht => hKs t (hnK t ((hs.mem t).1 ht))
  have F0 : Hid (FSt w we A d K C L σ s mw 0 (Found σ []) 0 (.slice none 0 0) [] (findW []) (fun _ => none) w1) :=
    ⟨h1, k1.heap Hsp.out (fun e => e), World.ownsRow_nil _ _ _ _, rfl, fun i v x hv => (by simp at hv), k1.waitsAt Hwt.out (fun e => e), fun _ _ _ e => (by cases e), fun _ _ e => (by cases e), k1.ofFresh⟩
  have Hrow : Hid (Row9 w1 we.heap.size (.slice ao ks.length cap) ks) := hrow
  clear hrow hnames h1 hs hKs hnK Hsp Hwt
  go_wp2_with fail
  go_loopw [3, 5, 21] (fun t3 t5 t21 wr => ∃ (i : Nat) (N : Nat) (lv : Int) (vals : List Value) (W : Waits), i ≤ ks.length ∧ t21 = .int .i64 i ∧ t5 = .bool (findLast (ks.take i)).isSome ∧ N ≤ i ∧ okI lv ∧ lv = (findLast (ks.take i)).getD 0 ∧ Wts (ks.take i) W ∧ FSt w we A d K C L σ s mw N (Found σ (ks.take i)) lv t3 vals (findW (ks.take i)) W wr ∧ Row9 wr we.heap.size (.slice ao ks.length cap) ks) (fun _ _ t21 _ => ks.length - (intOf t21).toNat)
  case atStart => exact ⟨0, 0, 0, [], fun _ => none, Nat.zero_le _, rfl, rfl, Nat.le_refl _, ⟨by omega, by omega⟩, rfl, ⟨fun _ _ e => (by cases e), fun t ht => (by cases ht)⟩, F0.out, Hrow.out⟩
  case round =>
    obtain ⟨i, N, lv, vals, W, hile, rfl, rfl, hN, hlv, hlv2, hW, hF, hR⟩ := hrel
    have HF : Hid (FSt w we A d K C L σ s mw N (Found σ (ks.take i)) lv u3 vals (findW (ks.take i)) W wr) := hF
    have HR : Hid (Row9 wr we.heap.size (.slice ao ks.length cap) ks) := hR
    have HL : Hid (lv = (findLast (ks.take i)).getD 0) := hlv2
    have HW : Hid (Wts (ks.take i) W) := hW
    have hvl : vals.length ≤ i := by
      rw [← hF.len]
      exact Nat.le_trans (findW_len _) (by rw [List.length_take]; omega)
    obtain ⟨b0, b1, b2, b3, g0, g1, g2, g3⟩ := mcells hF.sp
    have hwe := hF.k.size
    have hFr := hF.live.2.2.2
    clear hF hR hlv2 hW F0 Hrow
    by_cases hlt : i < ks.length
    · obtain ⟨g, rfl⟩ := hao (by omega)
      obtain ⟨t, ht⟩ : ∃ t, ks[i]? = some t := ⟨ks[i], List.getElem?_eq_getElem hlt⟩
      have hcell := own_cell (u := .string ⟨t.toArray⟩) HR.out i (by rw [List.getElem?_map, ht]; rfl)
      have htl := hsz t (List.mem_of_getElem? ht)
      have HT : Hid (ks.take (i + 1) = ks.take i ++ [t]) := by
        show _ = _
        rw [List.take_add_one, ht]; rfl
      obtain ⟨tB, htB⟩ : ∃ tB : ByteArray, tB = ⟨t.toArray⟩ := ⟨_, rfl⟩
      have HTB : Hid (tB.data.toList = t) := by rw [htB]; rfl
      have htBs : tB.size ≤ 1099511627776 := by rw [htB]; simpa [ByteArray.size] using htl
      rw [← htB] at hcell
      clear htB ht
      have z1 : (0 : Int) ≤ (i : Int) := by omega
      have z2 : (i : Int) < (ks.length : Int) := by omega
      by_cases hnew : tB = ⟨#[115, 112, 111, 111, 108, 47, 110, 101, 119]⟩
      · subst hnew
        have et : t = newT := HTB.out.symm
        have hone := one_any 91 d ⟨#[115, 112, 111, 111, 108, 47, 110, 101, 119]⟩ wr
        unfold meth ptr at *
        go_wp2_with fail
        refine hone.mono ?_
        rintro e w2 ⟨rfl, rfl⟩
        clear hone
        have ka : Fresh wr ((wr.alloc (.cells #[.func (.func 91) #[.pointer (some ⟨d, 0, none⟩)] #[]] 48)).alloc (.cells #[.string ⟨#[115, 112, 111, 111, 108, 47, 110, 101, 119]⟩] 9)) := ((Keeps.refl _ _).alloc _).alloc _
        have hrow2 := ka.owns HF.out.row (fun _ _ e => e)
        have Hrow2 : Hid (((wr.alloc (.cells #[.func (.func 91) #[.pointer (some ⟨d, 0, none⟩)] #[]] 48)).alloc (.cells #[.string ⟨#[115, 112, 111, 111, 108, 47, 110, 101, 119]⟩] 9)).ownsRow we.heap.size 128 1 u3 vals.length vals) := hrow2
        have HR2 : Hid (Row9 ((wr.alloc (.cells #[.func (.func 91) #[.pointer (some ⟨d, 0, none⟩)] #[]] 48)).alloc (.cells #[.string ⟨#[115, 112, 111, 111, 108, 47, 110, 101, 119]⟩] 9)) we.heap.size (.slice (some ⟨g, 0, none⟩) ks.length cap) ks) := ka.owns HR.out (fun _ _ e => e)
        clear ka
        go_wp2_with (at_builtin; refine wpList_append_placed _ rfl _ _ 124 rfl we.heap.size 128 i0 z0 1 8 Tryz.underlying124 hi hz0 hz2 hz3 hz1 (by decide) _ _ _ rfl (hrow2.alloc _) ⟨wr.heap.size + 2, 0, none⟩ 1 1 [.func (.func 94) #[] #[.pointer (some ⟨wr.heap.size, 0, none⟩), .pointer (some ⟨wr.heap.size + 1, 0, none⟩)]] rfl rfl ?c1 ?c2 ?c3 ?c4 ?c5 ?_)
        case c1 =>
          intro j u hj
          match j, hj with
          | 0, hj => simp at hj; subst hj; exact cell_new3 _ _ _ _ _
        case c2 => intro u hu; simp at hu; subst hu; rfl
        case c3 => unfold maxLen; omega
        case c4 => omega
        case c5 => simp; omega
        intro v5 w5 ho5 hg5 hpl5
        clear hpl5
        have HF5 := HF.out.append hA hsl hml hww (T := meth 91 d) (nmv := .string ⟨#[115, 112, 111, 111, 108, 47, 110, 101, 119]⟩) (x := (3, newT, [])) (fun w' B q1 q2 q3 q4 => doesW_remove q1 q3 q2 q4 (by decide) hK) ho5 hg5
        have HR5 := row9_grown ((Keeps.refl (fun _ => False) _).alloc (.cells #[.func (.func 94) #[] #[.pointer (some ⟨wr.heap.size, 0, none⟩), .pointer (some ⟨wr.heap.size + 1, 0, none⟩)]] 128) |>.owns HR2.out (fun _ _ e => e)) (Hrow2.out.alloc _) hg5
        have HE : Hid (∃ (N : Nat) (lv : Int) (vals : List Value) (W : Waits), N ≤ i + 1 ∧ okI lv ∧ (findLast (ks.take i)).isSome = (findLast (ks.take (i + 1))).isSome ∧ lv = (findLast (ks.take (i + 1))).getD 0 ∧ Wts (ks.take (i + 1)) W ∧ FSt w we A d K C L σ s mw N (Found σ (ks.take (i + 1))) lv v5 vals (findW (ks.take (i + 1))) W w5 ∧ Row9 w5 we.heap.size (.slice (some ⟨g, 0, none⟩) ks.length cap) ks) := by
          have e1 : findLast (ks.take (i + 1)) = findLast (ks.take i) := by rw [HT.out, findLast_snoc, et]; exact if_pos rfl
          have e2 : findW (ks.take (i + 1)) = findW (ks.take i) ++ [(3, newT, [])] := by rw [HT.out, findW_snoc, et]; rfl
          refine ⟨N, lv, vals ++ [.func (.func 94) #[] #[.pointer (some ⟨wr.heap.size, 0, none⟩), .pointer (some ⟨wr.heap.size + 1, 0, none⟩)]], W, by omega, hlv, by rw [e1], by rw [e1]; exact HL.out, ?_, ?_, HR5⟩
          · rw [HT.out]
            exact HW.out.step (fun n hm => hm.1 et)
          · rw [e2, HT.out]
            exact HF5.weaken (fun n M => found_mono t n M) (Nat.le_refl _)
        clear HF5 HR5 ho5 hg5 hrow2 Hrow2 HR2
        go_wp2_with fail
        go_roundw
        case rel =>
          obtain ⟨N', lv', vals', W', q1, q2, q3, q4, q5, q6, q7⟩ := HE.out
          exact ⟨i + 1, N', lv', vals', W', by omega, by go_num, by rw [q3], q1, q2, q4, q5, q6, q7⟩
        case measure => simp [intOf]; omega
      · have hnb : (tB.toList == ByteArray.toList ⟨#[115, 112, 111, 111, 108, 47, 110, 101, 119]⟩) = false := by
          rw [beq_bytes, decide_eq_false_iff_not]
          exact fun e => hnew (ba_ext e)
        have hnb2 : (tB.toList == [115, 112, 111, 111, 108, 47, 110, 101, 119]) = false := by
          have e9 : ByteArray.toList ⟨#[115, 112, 111, 111, 108, 47, 110, 101, 119]⟩ = [115, 112, 111, 111, 108, 47, 110, 101, 119] := by rw [ByteArray.toList_eq]
          rwa [e9] at hnb
        have hnt : t ≠ newT := fun e => hnew (ba_ext (HTB.out.trans e))
        have hnum := numberOf_any tB ⟨#[115, 112, 111, 111, 108, 47, 108, 97, 115, 116, 47]⟩ wr (hG.fresh hFr) (by omega)
        have HNm : Hid (∀ n r, numberOf tB.data.toList (⟨#[115, 112, 111, 111, 108, 47, 108, 97, 115, 116, 47]⟩ : ByteArray).data.toList = (if r = true then some n else none) → numberOf t lastT = (if r = true then some n else none)) := fun n r hh => by rw [← hh, HTB.out]; rfl
        go_wp2_with fail
        refine hnum.mono ?_
        rintro e w2 ⟨n, r, rfl, hnr, hb, k2⟩
        have hnr2 := HNm.out n r hnr
        have HF2 : Hid (FSt w we A d K C L σ s mw N (Found σ (ks.take i)) lv u3 vals (findW (ks.take i)) W w2) := HF.out.fresh k2
        have HR2' : Hid (Row9 w2 we.heap.size (.slice (some ⟨g, 0, none⟩) ks.length cap) ks) := k2.owns HR.out (fun _ _ e => e)
        have hFr2 := hFr.trans k2
        clear hnum HNm hnr
        cases r with
        | true =>
          have hl : numberOf t lastT = some n := hnr2
          have HF5 := HF2.out.setLast hsA hsw hsl hms n
          have kset : Keeps (fun k => k = s) w2 (w2.setCell ⟨s, 1, none⟩ (.int .i64 n)) := (Keeps.refl (fun k => k = s) w2).setCell (p := ⟨s, 1, none⟩) (fun _ => rfl) _
          have HR5 : Row9 (w2.setCell ⟨s, 1, none⟩ (.int .i64 n)) we.heap.size (.slice (some ⟨g, 0, none⟩) ks.length cap) ks := kset.owns HR2'.out (fun k hk e => by have := (HR2'.out.lt k hk).1; omega)
          obtain ⟨_, p1, _, _, _, p2, _, _⟩ := mcells HF2.out.sp
          have HE : Hid (∃ (N : Nat) (lv : Int) (vals : List Value) (W : Waits), N ≤ i + 1 ∧ okI lv ∧ true = (findLast (ks.take (i + 1))).isSome ∧ lv = (findLast (ks.take (i + 1))).getD 0 ∧ Wts (ks.take (i + 1)) W ∧ FSt w we A d K C L σ s mw N (Found σ (ks.take (i + 1))) lv u3 vals (findW (ks.take (i + 1))) W (w2.setCell ⟨s, 1, none⟩ (.int .i64 n)) ∧ Row9 (w2.setCell ⟨s, 1, none⟩ (.int .i64 n)) we.heap.size (.slice (some ⟨g, 0, none⟩) ks.length cap) ks) := by
            have e1 : findLast (ks.take (i + 1)) = some n := by rw [HT.out, findLast_snoc]; simp only [last1, if_neg hnt, hl]
            have e2 : findW (ks.take (i + 1)) = findW (ks.take i) := by rw [HT.out, findW_snoc]; simp [findW1, if_neg hnt, hl]
            refine ⟨N, n, vals, W, by omega, hb, by rw [e1]; rfl, by rw [e1]; rfl, ?_, ?_, HR5⟩
            · rw [HT.out]
              exact HW.out.step (fun n' hm => by have := hm.2.1; rw [hl] at this; cases this)
            · rw [e2, HT.out]
              exact HF5.weaken (fun n M => found_mono t n M) (Nat.le_refl _)
          clear HF5 HR5 kset hnr2
          go_wp2_with fail
          go_roundw
          case rel =>
            obtain ⟨N', lv', vals', W', q1, q2, q3, q4, q5, q6, q7⟩ := HE.out
            exact ⟨i + 1, N', lv', vals', W', by omega, by go_num, by rw [q3], q1, q2, q4, q5, q6, q7⟩
          case measure => simp [intOf]; omega
        | false =>
          have hl : numberOf t lastT = none := hnr2
          have hnum := numberOf_any tB ⟨#[115, 112, 111, 111, 108, 47, 109, 97, 105, 108, 47]⟩ w2 (hG.fresh hFr2) (by omega)
          have HNm : Hid (∀ n r, numberOf tB.data.toList (⟨#[115, 112, 111, 111, 108, 47, 109, 97, 105, 108, 47]⟩ : ByteArray).data.toList = (if r = true then some n else none) → numberOf t mailT = (if r = true then some n else none)) := fun n r hh => by rw [← hh, HTB.out]; rfl
          clear hnr2
          go_wp2_with fail
          refine hnum.mono ?_
          rintro e w3 ⟨n2, r2, rfl, hnr, hb2, k3⟩
          have hnr3 := HNm.out n2 r2 hnr
          have HF3 : Hid (FSt w we A d K C L σ s mw N (Found σ (ks.take i)) lv u3 vals (findW (ks.take i)) W w3) := HF2.out.fresh k3
          have HR3 : Hid (Row9 w3 we.heap.size (.slice (some ⟨g, 0, none⟩) ks.length cap) ks) := k3.owns HR2'.out (fun _ _ e => e)
          have hFr3 := hFr2.trans k3
          clear hnum HNm hnr
          cases r2 with
          | false =>
            have hl2 : numberOf t mailT = none := hnr3
            have HR5 := HR3.out
            have HE : Hid (∃ (N : Nat) (lv : Int) (vals : List Value) (W : Waits), N ≤ i + 1 ∧ okI lv ∧ (findLast (ks.take i)).isSome = (findLast (ks.take (i + 1))).isSome ∧ lv = (findLast (ks.take (i + 1))).getD 0 ∧ Wts (ks.take (i + 1)) W ∧ FSt w we A d K C L σ s mw N (Found σ (ks.take (i + 1))) lv u3 vals (findW (ks.take (i + 1))) W w3 ∧ Row9 w3 we.heap.size (.slice (some ⟨g, 0, none⟩) ks.length cap) ks) := by
              have e1 : findLast (ks.take (i + 1)) = findLast (ks.take i) := by rw [HT.out, findLast_snoc]; simp only [last1, if_neg hnt, hl]
              have e2 : findW (ks.take (i + 1)) = findW (ks.take i) := by rw [HT.out, findW_snoc]; simp [findW1, if_neg hnt, hl, hl2]
              refine ⟨N, lv, vals, W, by omega, hlv, by rw [e1], by rw [e1]; exact HL.out, ?_, ?_, HR5⟩
              · rw [HT.out]
                exact HW.out.step (fun n' hm => by have := hm.2.2; rw [hl2] at this; cases this)
              · rw [e2, HT.out]
                exact HF3.out.weaken (fun n M => found_mono t n M) (Nat.le_refl _)
            clear HR5 hnr3
            go_wp2_with fail
            go_roundw
            case rel =>
              obtain ⟨N', lv', vals', W', q1, q2, q3, q4, q5, q6, q7⟩ := HE.out
              exact ⟨i + 1, N', lv', vals', W', by omega, by go_num, by rw [q3], q1, q2, q4, q5, q6, q7⟩
            case measure => simp [intOf]; omega
          | true =>
            have hl2 : numberOf t mailT = some n2 := hnr3
            have hrd := HF3.out.live.read tB (by unfold maxLen; omega)
            unfold ptr at *
            go_wp2_with fail
            refine hrd.mono ?_
            rintro e w4 ⟨rfl, l4, k4, es4⟩
            obtain ⟨bB, hbB⟩ : ∃ bB : ByteArray, bB = ⟨((σ.read tB.data.toList).getD []).toArray⟩ := ⟨_, rfl⟩
            have HBB : Hid (bB.data.toList = (σ.read t).getD []) := by rw [hbB, ← HTB.out]; rfl
            have hbs : bB.size ≤ L := by
              have e1 : bB.size = ((σ.read tB.data.toList).getD []).length := by rw [hbB]; simp [ByteArray.size]
              have f4 := l4.2.2.1
              rw [e1]
              unfold Dk.read
              cases hx : σ.now tB.data.toList with
              | none => simp
              | some x => exact (f4.sizes x (f4.nowIn _ x hx)).2
            rw [← hbB]
            have HF4 : Hid (FSt w we A d K C L σ s mw N (Found σ (ks.take i)) lv u3 vals (findW (ks.take i)) W w4) := HF3.out.side k4 l4 hsA hmA (fun k hk e => by have := hA k e; omega) (fun k _ e => e)
            have HR4 : Hid (Row9 w4 we.heap.size (.slice (some ⟨g, 0, none⟩) ks.length cap) ks) := k4.owns HR3.out (fun k hk e => by have := (HR3.out.lt k hk).1; have := hA k e; omega)
            have hFr4 := l4.2.2.2
            have hwe4 := HF4.out.k.size
            have hst := stillLeft_any bB w4.drew (hG.fresh (hFr4.drew)) (by omega) (by show 8 ≤ w4.heap.size; omega)
            obtain ⟨_, _, p2, _, _, _, _, _⟩ := mcells HF4.out.sp
            have HP : Hid (∀ (w6 : World) (m nn c : Nat) (M : Lefts), w4.heap.size ≤ m → nn ≤ bB.size → LeftAt w6 m nn c M → LeftOf bB.data.toList M → okM M → Fresh w4 w6 →
              w6.cell? ⟨s, 2, none⟩ = some (.map (some mw)) ∧ ∃ w7, (Instr.mapUpdate 120 (.map (some mw)) (.int .i64 n2) (.map (some m))).run Tryz.prog w6 = .ok () w7 ∧ FSt w we A d K C L σ s mw (N + 1) (Found σ (ks.take (i + 1))) lv u3 vals (findW (ks.take i)) (putW W n2 m) w7 ∧ Row9 w7 we.heap.size (.slice (some ⟨g, 0, none⟩) ks.length cap) ks) := fun w6 m nn c M hm hnn hL6 hO hM k6 => by
              have F6 := HF4.out.fresh k6
              refine ⟨(mcells F6.sp).2.2.1, ?_⟩
              obtain ⟨w7, hr7, hW7, k7, _⟩ := F6.wt.put (by unfold maxLen; omega) n2 hb2 m
              refine ⟨w7, hr7, ?_, k7.owns (k6.owns HR4.out (fun _ _ e => e)) (fun k hk e => by have := (HR4.out.lt k hk).1; omega)⟩
              rw [HT.out]
              exact (F6.weaken (fun n M => found_mono t n M) (Nat.le_refl _)).putW hmA hmw hml hms n2 m nn c M hL6 (by omega) (fun n' b' hb' e => by
                obtain ⟨_, nn', c', M', _, q, _, _⟩ := HF4.out.lft n' b' hb'
                have := q.lt
                omega) (by omega) hM ⟨t, by simp, ⟨hnt, hl, hl2⟩, by rw [← HBB.out]; exact hO⟩ hW7 k7
            clear hrd hbB k4 es4 l4
            go_wp2_with fail
            go_region_law (go_simp; go_wp2_with (go_at_call 93; refine hst.mono ?_; rintro e w6 ⟨m6, nn6, c6, M6, rfl, hm6, hn6, hL6, hO6, hM6, k6⟩; obtain ⟨p6, w7, hr7, HF7, HR7⟩ := HP.out w6 m6 nn6 c6 M6 hm6 hn6 hL6 hO6 hM6 ⟨k6.os, k6.tape, k6.output, k6.size, k6.block⟩))
            all_goals
              have HF8 : Hid (FSt w we A d K C L σ s mw (N + 1) (Found σ (ks.take (i + 1))) lv u3 vals (findW (ks.take i)) (putW W n2 m6) w7) := HF7
              have HR8 : Hid (Row9 w7 we.heap.size (.slice (some ⟨g, 0, none⟩) ks.length cap) ks) := HR7
              have hwe7 := HF7.k.size
              have hone := one_any 59 d tB w7
              unfold meth ptr at *
              clear HF7 HR7 hr7 p6 hL6 hO6 hM6 k6 hst HP p2
              go_wp2_with fail
              refine hone.mono ?_
              rintro e w8 ⟨rfl, rfl⟩
              clear hone
              have ka : Fresh w7 ((w7.alloc (.cells #[.func (.func 59) #[.pointer (some ⟨d, 0, none⟩)] #[]] 48)).alloc (.cells #[.string tB] 9)) := ((Keeps.refl _ _).alloc _).alloc _
              have hrow2 := ka.owns HF8.out.row (fun _ _ e => e)
              have Hrow2 : Hid (((w7.alloc (.cells #[.func (.func 59) #[.pointer (some ⟨d, 0, none⟩)] #[]] 48)).alloc (.cells #[.string tB] 9)).ownsRow we.heap.size 128 1 u3 vals.length vals) := hrow2
              have HR2 : Hid (Row9 ((w7.alloc (.cells #[.func (.func 59) #[.pointer (some ⟨d, 0, none⟩)] #[]] 48)).alloc (.cells #[.string tB] 9)) we.heap.size (.slice (some ⟨g, 0, none⟩) ks.length cap) ks) := ka.owns HR8.out (fun _ _ e => e)
              clear ka
              go_wp2_with (at_builtin; refine wpList_append_placed _ rfl _ _ 124 rfl we.heap.size 128 i0 z0 1 8 Tryz.underlying124 hi hz0 hz2 hz3 hz1 (by decide) _ _ _ rfl (hrow2.alloc _) ⟨w7.heap.size + 2, 0, none⟩ 1 1 [.func (.func 94) #[] #[.pointer (some ⟨w7.heap.size, 0, none⟩), .pointer (some ⟨w7.heap.size + 1, 0, none⟩)]] rfl rfl ?c1 ?c2 ?c3 ?c4 ?c5 ?_)
              case c1 =>
                intro j u hj
                match j, hj with
                | 0, hj => simp at hj; subst hj; exact cell_new3 _ _ _ _ _
              case c2 => intro u hu; simp at hu; subst hu; rfl
              case c3 => unfold maxLen; omega
              case c4 => omega
              case c5 => simp; omega
              intro v5 w5 ho5 hg5 hpl5
              clear hpl5
              have HF5 := HF8.out.append hA hsl hml hww (T := meth 59 d) (nmv := .string tB) (x := (2, tB.data.toList, [])) (fun w' B q1 q2 q3 q4 => doesW_sync q1 q3 q2 q4 (by unfold maxLen; omega)) ho5 hg5
              have HR5 := row9_grown ((Keeps.refl (fun _ => False) _).alloc (.cells #[.func (.func 94) #[] #[.pointer (some ⟨w7.heap.size, 0, none⟩), .pointer (some ⟨w7.heap.size + 1, 0, none⟩)]] 128) |>.owns HR2.out (fun _ _ e => e)) (Hrow2.out.alloc _) hg5
              have HE : Hid (∃ (N : Nat) (lv : Int) (vals : List Value) (W : Waits), N ≤ i + 1 ∧ okI lv ∧ (findLast (ks.take i)).isSome = (findLast (ks.take (i + 1))).isSome ∧ lv = (findLast (ks.take (i + 1))).getD 0 ∧ Wts (ks.take (i + 1)) W ∧ FSt w we A d K C L σ s mw N (Found σ (ks.take (i + 1))) lv v5 vals (findW (ks.take (i + 1))) W w5 ∧ Row9 w5 we.heap.size (.slice (some ⟨g, 0, none⟩) ks.length cap) ks) := by
                have e1 : findLast (ks.take (i + 1)) = findLast (ks.take i) := by rw [HT.out, findLast_snoc]; simp only [last1, if_neg hnt, hl]
                have e2 : findW (ks.take (i + 1)) = findW (ks.take i) ++ [(2, tB.data.toList, [])] := by rw [HT.out, findW_snoc, HTB.out]; simp [findW1, if_neg hnt, hl, hl2]
                refine ⟨N + 1, lv, vals ++ [.func (.func 94) #[] #[.pointer (some ⟨w7.heap.size, 0, none⟩), .pointer (some ⟨w7.heap.size + 1, 0, none⟩)]], putW W n2 m6, by omega, hlv, by rw [e1], by rw [e1]; exact HL.out, ?_, ?_, HR5⟩
                · rw [HT.out]
                  exact HW.out.put ⟨hnt, hl, hl2⟩
                · rw [e2, HT.out]
                  exact (by rw [← HT.out]; exact HF5)
              clear HF5 HR5 ho5 hg5 hrow2 Hrow2 HR2
              go_wp2_with fail
              go_roundw
              case rel =>
                obtain ⟨N', lv', vals', W', q1, q2, q3, q4, q5, q6, q7⟩ := HE.out
                exact ⟨i + 1, N', lv', vals', W', by omega, by go_num, by rw [q3], q1, q2, q4, q5, q6, q7⟩
              case measure => simp [intOf]; omega
    · have ei : i = ks.length := by omega
      subst ei
      have z2 : ¬ (ks.length : Int) < (ks.length : Int) := by omega
      have eL : ks.take ks.length = ks := List.take_length
      rw [eL] at HF HL HW
      rw [eL]
      cases hc : findLast ks with
      | some n =>
        have e0 : lv = n := by rw [HL.out, hc]; rfl
        subst e0
        go_wp2_with fail
        go_ret
        refine ⟨u3, ks, N, vals, W, rfl, HS.out, by omega, by rw [hc]; exact hlv, HW.out, hl1, ?_⟩
        rw [hc]
        simp only [Option.isSome_some, if_true, List.append_nil]
        exact HF.out
      | none =>
        have e0 : lv = 0 := by rw [HL.out, hc]; rfl
        subst e0
        have hnum := numbered_any ⟨#[115, 112, 111, 111, 108, 47, 108, 97, 115, 116, 47]⟩ 0 wr (hG.fresh hFr) (by decide) (by omega) (by omega)
        obtain ⟨nB, hnB⟩ : ∃ nB, nB = numB ⟨#[115, 112, 111, 111, 108, 47, 108, 97, 115, 116, 47]⟩ 0 := ⟨_, rfl⟩
        rw [← hnB] at hnum
        have HNB : Hid (nB.data.toList = numName lastT 0) := by rw [hnB]; rfl
        have hnBs : nB.size ≤ 1048576 := by
          have := Lib.itoa_length_le 0 (by omega) (by omega)
          rw [hnB]
          show (numName lastT 0).length ≤ _
          unfold numName
          rw [List.length_append]
          have : lastT.length = 11 := rfl
          omega
        clear hnB
        go_wp2_with fail
        refine hnum.mono ?_
        rintro e w2 ⟨rfl, k2⟩
        have HF2 : Hid (FSt w we A d K C L σ s mw N (Found σ ks) 0 u3 vals (findW ks) W w2) := HF.out.fresh k2
        have HR2' : Hid (Row9 w2 we.heap.size (.slice ao ks.length cap) ks) := k2.owns HR.out (fun _ _ e => e)
        have hwe2 := HF2.out.k.size
        have hone := one_any 16 d nB w2
        unfold meth ptr at *
        clear hnum k2
        go_wp2_with fail
        refine hone.mono ?_
        rintro e w3 ⟨rfl, rfl⟩
        clear hone
        have ka : Fresh w2 ((w2.alloc (.cells #[.func (.func 16) #[.pointer (some ⟨d, 0, none⟩)] #[]] 48)).alloc (.cells #[.string nB] 9)) := ((Keeps.refl _ _).alloc _).alloc _
        have hrow2 := ka.owns HF2.out.row (fun _ _ e => e)
        have Hrow2 : Hid (((w2.alloc (.cells #[.func (.func 16) #[.pointer (some ⟨d, 0, none⟩)] #[]] 48)).alloc (.cells #[.string nB] 9)).ownsRow we.heap.size 128 1 u3 vals.length vals) := hrow2
        have HR2 : Hid (Row9 ((w2.alloc (.cells #[.func (.func 16) #[.pointer (some ⟨d, 0, none⟩)] #[]] 48)).alloc (.cells #[.string nB] 9)) we.heap.size (.slice ao ks.length cap) ks) := ka.owns HR2'.out (fun _ _ e => e)
        clear ka
        go_wp2_with (at_builtin; refine wpList_append_placed _ rfl _ _ 124 rfl we.heap.size 128 i0 z0 1 8 Tryz.underlying124 hi hz0 hz2 hz3 hz1 (by decide) _ _ _ rfl (hrow2.alloc _) ⟨w2.heap.size + 2, 0, none⟩ 1 1 [.func (.func 94) #[] #[.pointer (some ⟨w2.heap.size, 0, none⟩), .pointer (some ⟨w2.heap.size + 1, 0, none⟩)]] rfl rfl ?c1 ?c2 ?c3 ?c4 ?c5 ?_)
        case c1 =>
          intro j u hj
          match j, hj with
          | 0, hj => simp at hj; subst hj; exact cell_new3 _ _ _ _ _
        case c2 => intro u hu; simp at hu; subst hu; rfl
        case c3 => unfold maxLen; omega
        case c4 => omega
        case c5 => simp; omega
        intro v5 w5 ho5 hg5 hpl5
        clear hpl5
        have HF5 := HF2.out.append hA hsl hml hww (T := meth 16 d) (nmv := .string nB) (x := (0, nB.data.toList, [])) (fun w' B q1 q2 q3 q4 => doesW_create q1 q3 q2 q4 (by unfold maxLen; omega) hK (by rw [HNB.out]; exact hK0)) ho5 hg5
        have HR5 := row9_grown ((Keeps.refl (fun _ => False) _).alloc (.cells #[.func (.func 94) #[] #[.pointer (some ⟨w2.heap.size, 0, none⟩), .pointer (some ⟨w2.heap.size + 1, 0, none⟩)]] 128) |>.owns HR2.out (fun _ _ e => e)) (Hrow2.out.alloc _) hg5
        have HE : Hid (FSt w we A d K C L σ s mw N (Found σ ks) 0 v5 (vals ++ [.func (.func 94) #[] #[.pointer (some ⟨w2.heap.size, 0, none⟩), .pointer (some ⟨w2.heap.size + 1, 0, none⟩)]]) (findW ks ++ [(0, numName lastT 0, [])]) W w5) := by
          have := HF5
          rw [HNB.out] at this
          exact this
        clear HF5 HR5 ho5 hg5 hrow2 Hrow2 HR2
        go_wp2_with fail
        go_ret
        exact ⟨v5, ks, N, _, W, rfl, HS.out, by omega, by rw [hc]; exact hlv, HW.out, hl1, by rw [hc]; exact HE.out⟩

end
end Go.Proofs.YtegbkpjcjlihmabGreatDoor
