/-
  Open: a spool of what is on a disk. | Put: the writes. | Put: a mail waits.
-/
import Derived.Test.YtegbkpjcjlihmabGreatDoorGv
import Derived.Deep.RegionHeld3
namespace Go.Proofs.YtegbkpjcjlihmabGreatDoor
open Go.RowKit Go.Maps

/-- a spool as it lies -/
structure SpAt (w : World) (A : Nat → Prop) (d L : Nat) (s mw N : Nat) (P : Int → Lefts → Prop) (lv : Int) (b : Bool) (W : Waits) (wr : World) : Prop where
  sp : wr.heap[s]? = some (spoolCells d (.int .i64 lv) (.map (some mw)) b)
  wt : WaitsAt wr mw N W
  inj : ∀ n n' b, W n = some b → W n' = some b → n = n'
  lft : ∀ n b, W n = some b → w.heap.size ≤ b ∧ ¬ A b ∧ ∃ nn c M, nn ≤ L ∧ LeftAt wr b nn c M ∧ okM M ∧ P n M
  nS : ¬ A s
  nM : ¬ A mw
  wS : w.heap.size ≤ s
  wM : w.heap.size ≤ mw
  ne : mw ≠ s
  ok : okI lv
  nW : ∀ n b, W n = some b → b ≠ mw

theorem SpAt.neS {w : World} {A : Nat → Prop} {d L : Nat} {s mw N : Nat} {P : Int → Lefts → Prop} {lv : Int} {b : Bool} {W : Waits} {wr : World} (h : SpAt w A d L s mw N P lv b W wr) {n : Int} {k : Nat} (hk : W n = some k) : k ≠ s := by
  obtain ⟨_, _, nn, c, M, _, h3, _⟩ := h.lft n k hk
  have t1 := h3.tag
  have t2 := tag_cells (cs := #[ptr d, .int .i64 lv, .map (some mw), .bool b]) h.sp
  exact ne_of_tag t1 t2 (by decide)

/-- the writes of Open -/
def openW (ks : List Text) : List Wr := (findW ks ++ (if (findLast ks).isSome = true then [] else [(0, numName lastT 0, [])])) ++ [(5, [], [])]

theorem Live.fits {w wr : World} {A : Nat → Prop} {d : Nat} {K : List Text} {C L C' L' : Nat} {σ : Dk} (h : Live w wr A d K C L σ) (hf : Fits K C' L' σ) : Live w wr A d K C' L' σ := ⟨h.1, h.2.1, hf, h.2.2.2⟩

theorem findW_cost : ∀ (ks : List Text), ks.Nodup → ((findW ks).map Wr.cost).sum ≤ if newT ∈ ks then 1 else 0
  | [], _ => by simp [findW]
  | s :: ks, h => by
    obtain ⟨h1, h2⟩ := List.nodup_cons.1 h
    have ih := findW_cost ks h2
    have e : findW (s :: ks) = (findW1 s).toList ++ findW ks := by
      unfold findW
      rw [List.filterMap_cons]
      cases findW1 s <;> rfl
    rw [e, List.map_append, List.sum_append]
    by_cases hn : s = newT
    · subst hn
      rw [if_neg h1] at ih
      have e2 : findW1 newT = some (3, newT, []) := if_pos rfl
      rw [e2, if_pos (by simp)]
      simp [Wr.cost]
      omega
    · have e2 : ((findW1 s).toList.map Wr.cost).sum = 0 := by
        unfold findW1
        rw [if_neg hn]
        split
        · rfl
        · split <;> rfl
      rw [e2]
      have : (if newT ∈ s :: ks then 1 else 0) = if newT ∈ ks then 1 else 0 := by
        simp [Ne.symm hn]
      rw [this]
      omega

theorem findW_bytes : ∀ (ks : List Text), ((findW ks).map Wr.bytes).sum = 0
  | [] => rfl
  | s :: ks => by
    have e : findW (s :: ks) = (findW1 s).toList ++ findW ks := by
      unfold findW
      rw [List.filterMap_cons]
      cases findW1 s <;> rfl
    rw [e, List.map_append, List.sum_append, findW_bytes ks]
    unfold findW1
    split
    · rfl
    · split
      · rfl
      · split <;> rfl

theorem openW_cost {ks : List Text} (h : ks.Nodup) : ((openW ks).map Wr.cost).sum ≤ 2 ∧ ((openW ks).map Wr.bytes).sum = 0 := by
  have h1 := findW_cost ks h
  have h2 := findW_bytes ks
  have h3 : (if newT ∈ ks then 1 else 0) ≤ 1 := by split <;> omega
  unfold openW
  simp only [List.map_append, List.sum_append]
  rw [h2]
  constructor
  · split <;> simp [Wr.cost] <;> omega
  · split <;> simp [Wr.bytes]

theorem openW_makes {ks : List Text} {K : List Text} (h0 : numName lastT 0 ∈ K) : ∀ x ∈ openW ks, ∀ s, x.makes s → s ∈ K := by
  intro x hx s hs
  unfold openW at hx
  rw [List.mem_append, List.mem_append] at hx
  rcases hx with (hx | hx) | hx
  · unfold findW at hx
    obtain ⟨t, _, ht⟩ := List.mem_filterMap.1 hx
    unfold findW1 at ht
    split at ht
    · rw [← Option.some.inj ht] at hs; exact hs.elim
    · split at ht
      · cases ht
      · split at ht
        · rw [← Option.some.inj ht] at hs; exact hs.elim
        · cases ht
  · split at hx
    · cases hx
    · simp at hx
      subst hx
      have hs : s = numName lastT 0 := hs
      rw [hs]
      exact h0
  · simp at hx
    subst hx
    exact hs.elim

/-- a write more, that needs no block -/
theorem FSt.append0 {w we : World} {A : Nat → Prop} {d : Nat} {K : List Text} {C L : Nat} {σ : Dk} {s mw N : Nat} {P : Int → Lefts → Prop} {lv : Int} {v : Value} {vals : List Value} {ws : List Wr} {W : Waits} {wr w4 : World} {v4 cv : Value} {x : Wr} (h : FSt w we A d K C L σ s mw N P lv v vals ws W wr) (hA : ∀ i, A i → i < we.heap.size) (hsl : s < we.heap.size) (hml : mw < we.heap.size) (hww : w.heap.size ≤ we.heap.size)
    (hdo : ∀ w' (B : Nat → Prop), DoesW w d K B w' cv (Wr.rel x) 0) (ho : w4.ownsRow we.heap.size 128 1 v4 (vals.length + 1) (vals ++ [cv])) (hg : (wr.alloc (.cells #[cv] 128)).grownBy w4 v.ownBlock) :
    FSt w we A d K C L σ s mw N P lv v4 (vals ++ [cv]) (ws ++ [x]) W w4 := by
  have h3 := h.fresh ((Keeps.refl (fun _ => False) wr).alloc (.cells #[cv] 128))
  generalize wr.alloc (.cells #[cv] 128) = w3 at *
  have kk : Keeps (fun k => v.ownBlock = some k) w3 w4 := (Keeps.refl _ _).grown hg (fun k hk _ => hk)
  have hbw : ∀ k, v.ownBlock = some k → we.heap.size ≤ k ∧ tag w3 k = some 128 := fun k hk => ⟨(h3.row.lt k hk).1, owns_tag h3.row hk⟩
  have htag : ∀ k t, tag w3 k = some t → t ≠ 128 → ¬ v.ownBlock = some k := fun k t h1 h2 e => by
    have := (hbw k e).2
    rw [h1] at this
    exact h2 (Option.some.inj this)
  have hcb : ∀ k, CB we w3 k → ¬ v.ownBlock = some k := fun k hk => by
    rcases hk.2.2 with e | e
    · exact htag k _ e (by decide)
    · exact htag k _ e (by decide)
  refine ⟨h3.live.side kk (fun i hi e => by have := hA i hi; have := (hbw i e).1; omega) (fun i e => by have := (hbw i e).1; omega), kk.heap h3.sp (fun e => by have := (hbw s e).1; omega), by rw [List.length_append]; exact ho, by rw [List.length_append, List.length_append, h3.len]; rfl, ?_, kk.waitsAt h3.wt (fun e => by have := (hbw mw e).1; omega), h3.inj, ?_, h3.k.then kk (fun i hi e => by have := (hbw i e).1; omega)⟩
  · intro i u y h1 h2
    by_cases hi : i < vals.length
    · rw [List.getElem?_append_left hi] at h1
      rw [List.getElem?_append_left (by rw [h3.len]; exact hi)] at h2
      exact (h3.does i u y h1 h2).kept (CB.kept kk hcb)
    · have hi1 : i = vals.length := by
        have := (List.getElem?_eq_some_iff.1 h1).1
        simp at this
        omega
      subst hi1
      rw [List.getElem?_append_right (Nat.le_refl _)] at h1
      rw [← h3.len, List.getElem?_append_right (Nat.le_refl _)] at h2
      simp at h1 h2
      subst h1 h2
      exact hdo w4 _
  · intro n b hn
    obtain ⟨p1, nn', c', M', p2, p3, p4, p5⟩ := h3.lft n b hn
    exact ⟨p1, nn', c', M', p2, kk.leftAt p3 (htag b _ p3.tag (by decide)), p4, p5⟩

/-- what stands behind Open -/
def OpenDone (w w0 : World) (A : Nat → Prop) (d : Nat) (K : List Text) (C L : Nat) (σ : Dk) (e : Ending) (w' : World) : Prop :=
  ∃ (ks : List Text) (k : Int) (σ' : Dk) (A' : Nat → Prop), Sorted σ.now ks ∧ runs ((openW ks).map Wr.rel) σ k σ' ∧ Live w w' A' d K (C + 2) L σ' ∧ (∀ i, A' i → A i ∨ w0.heap.size ≤ i) ∧ Keeps A w0 w' ∧
    ((k ≠ 0 ∧ e = .returned (.tuple #[.pointer none, .int .i64 6])) ∨
      (k = 0 ∧ ∃ (s mw N : Nat) (W : Waits), e = .returned (.tuple #[ptr s, .int .i64 0]) ∧ N ≤ K.length ∧ w0.heap.size ≤ s ∧ w0.heap.size ≤ mw ∧ Wts ks W ∧ SpAt w A' d L s mw N (Found σ ks) ((findLast ks).getD 0) false W w'))

section
variable {w w0 : World} {A : Nat → Prop} {d : Nat} {K : List Text} {C L : Nat} {σ : Dk}

set_option maxHeartbeats 8000000 in
set_option maxRecDepth 100000 in
theorem open_any (h : Live w w0 A d K C L σ) (hG : Gl w) (h8 : 8 ≤ w.heap.size) (hK : K.length ≤ 1099511627) (hKs : ∀ s ∈ K, s.length ≤ 1099511627776) (hL : L < 1099511627) (hC : C ≤ 1099511627) (hK0 : numName lastT 0 ∈ K) :
    Calls Tryz.prog 18 #[ptr d] w0 (OpenDone w w0 A d K C L σ) := by
  have hmm := @run_makeMap Tryz.prog
  have ka : Fresh w0 (w0.alloc (.map #[] 0)) := (Keeps.refl _ _).alloc _
  have kb : Fresh w0 ((w0.alloc (.map #[] 0)).alloc (.cells #[ptr d, .int .i64 0, .map (some w0.heap.size), .bool false] 122)) := ka.alloc _
  have es : (w0.alloc (.map #[] 0)).heap.size = w0.heap.size + 1 := by simp
  have hsp := heap_new (w0.alloc (.map #[] 0)) (.cells #[ptr d, .int .i64 0, .map (some w0.heap.size), .bool false] 122)
  rw [es] at hsp
  have hww := h.2.2.2.size
  have hA : ∀ i, A i → i < w0.heap.size := fun i hi => (h.1 i hi).2
  have hwt : WaitsAt ((w0.alloc (.map #[] 0)).alloc (.cells #[ptr d, .int .i64 0, .map (some w0.heap.size), .bool false] 122)) w0.heap.size 0 (fun _ => none) := ((Keeps.refl (fun _ => False) _).alloc _).waitsAt (waitsAt_made w0 0) (fun e => e)
  have hfind := find_any (s := w0.heap.size + 1) (mw := w0.heap.size) (h.fresh kb) hG hsp hwt (fun e => by have := hA _ e; omega) (fun e => by have := hA _ e; omega) (by omega) hww (by omega) h8 (by omega) hKs hL hK0
  have hF : Fits K C L σ := h.2.2.1
  obtain ⟨i0, z0, hi, hz0, hz1, hz2, hz3⟩ := info128'
  have KB : Hid (Fresh w0 ((w0.alloc (.map #[] 0)).alloc (.cells #[ptr d, .int .i64 0, .map (some w0.heap.size), .bool false] 122))) := kb
  have hwsz : ((w0.alloc (.map #[] 0)).alloc (.cells #[ptr d, .int .i64 0, .map (some w0.heap.size), .bool false] 122)).heap.size = w0.heap.size + 2 := by simp
  clear ka kb hsp hwt h es
  unfold ptr at *
  go_enter Tryz.func18, Tryz.ntmps18
  go_wp2_with fail
  generalize hwe : (w0.alloc (.map #[] 0)).alloc (.cells #[.pointer (some ⟨d, 0, none⟩), .int .i64 0, .map (some w0.heap.size), .bool false] 122) = we at *
  have hwz1 : we.heap.size ≤ w0.heap.size + 2 := by omega
  have hwz2 : w0.heap.size + 2 ≤ we.heap.size := by omega
  clear hwsz
  refine hfind.mono ?_
  rintro e w1 ⟨v, ks, N, vals, W, rfl, hs, hN, hlv, hW, hkl, hF1⟩
  clear hfind hwe
  have HF : Hid (FSt w we A d K C L σ (w0.heap.size + 1) w0.heap.size N (Found σ ks) ((findLast ks).getD 0) v vals (findW ks ++ (if (findLast ks).isSome = true then [] else [(0, numName lastT 0, [])])) W w1) := hF1
  have hvl : vals.length ≤ K.length + 1 := by
    rw [← hF1.len, List.length_append]
    have h1 := findW_len ks
    have h2 : (if (findLast ks).isSome = true then ([] : List Wr) else [(0, numName lastT 0, [])]).length ≤ 1 := by split <;> simp
    omega
  have hrow := hF1.row
  have hwe1 := hF1.k.size
  clear hF1
  go_wp2_with (at_builtin; refine wpList_append_placed _ rfl _ _ 124 rfl we.heap.size 128 i0 z0 1 8 Tryz.underlying124 hi hz0 hz2 hz3 hz1 (by decide) _ _ _ rfl (hrow.alloc _) ⟨w1.heap.size, 0, none⟩ 1 1 [.func (.func 36) #[.pointer (some ⟨d, 0, none⟩)] #[]] rfl rfl ?c1 ?c2 ?c3 ?c4 ?c5 ?_)
  case c1 =>
    intro j u hj
    match j, hj with
    | 0, hj => simp at hj; subst hj; exact cell1 (heap_new _ _)
  case c2 => intro u hu; simp at hu; subst hu; rfl
  case c3 => unfold maxLen; omega
  case c4 => omega
  case c5 => simp; omega
  intro v5 w5 ho5 hg5 hpl5
  clear hpl5
  have F5 := HF.out.append0 (fun i hi => by have := hA i hi; omega) (by omega) (by omega) (by omega) (x := (5, [], [])) (fun w' B => doesW_syncDir (by omega)) ho5 hg5
  have F5 : FSt w we A d K C L σ (w0.heap.size + 1) w0.heap.size N (Found σ ks) ((findLast ks).getD 0) v5 (vals ++ [.func (.func 36) #[.pointer (some ⟨d, 0, none⟩)] #[]]) (openW ks) W w5 := F5
  obtain ⟨vals5, hv5⟩ : ∃ vals5, vals5 = vals ++ [.func (.func 36) #[.pointer (some ⟨d, 0, none⟩)] #[]] := ⟨_, rfl⟩
  have hv5l : vals5.length ≤ K.length + 2 := by rw [hv5]; simp; omega
  rw [← hv5] at F5
  have hsz5 := F5.k.size
  have hz : (List.replicate vals5.length 0).sum = 0 := by simp
  have hdo := sdo_any (s := w0.heap.size + 1) F5.live (.int .i64 ((findLast ks).getD 0)) (.map (some w0.heap.size)) false F5.sp (fun e => by have := hA _ e; omega) (by omega) (B := fun k => we.heap.size ≤ k ∧ k < w5.heap.size) (fun k hk => ⟨fun e => by have := hA k e; omega, by omega, hk.2⟩) we.heap.size v5 vals5 ((openW ks).map Wr.rel) (List.replicate vals5.length 0) F5.row (fun k hk => F5.row.lt k hk) (by rw [List.length_map, F5.len]) (by simp) (fun i u R m h1 h2 h3 => by
    have hm : m = 0 := by
      have := List.mem_of_getElem? h3
      exact List.eq_of_mem_replicate this
    subst hm
    rw [List.getElem?_map] at h2
    obtain ⟨x, hx, rfl⟩ := Option.map_eq_some_iff.1 h2
    exact (F5.does i u x h1 hx).kept (fun k hk => ⟨⟨hk.1, hk.2.1⟩, rfl⟩)) (by omega) (by rw [hz]; omega)
  rw [hz] at hdo
  have HF5 : Hid (FSt w we A d K C L σ (w0.heap.size + 1) w0.heap.size N (Found σ ks) ((findLast ks).getD 0) v5 vals5 (openW ks) W w5) := F5
  have HWT : Hid (Wts ks W) := hW
  have HSo : Hid (Sorted σ.now ks) := hs
  clear F5 ho5 hg5 HF hrow hv5 hW hs hz
  unfold ptr at *
  go_wp2_with fail
  refine hdo.mono ?_
  rintro e w6 ⟨b', σ', rfl, hsd, hl6, hsp6, k6⟩
  clear hdo
  have hsz6 := k6.size
  have HE : Hid (∃ k : Int, runs ((openW ks).map Wr.rel) σ k σ' ∧ ((b' = false ∧ k = 0) ∨ (b' = true ∧ k ≠ 0))) := by
    rcases hsd with ⟨h1, _⟩ | ⟨_, h2⟩
    · cases h1
    · exact h2
  have hcost := openW_cost HSo.out.nodup
  have HB : Hid (∀ k, runs ((openW ks).map Wr.rel) σ k σ' → Live w w6 (ext A w5 w6) d K (C + 2) L σ') := fun k hr => by
    have hf := runsW_fits (openW ks) hF (openW_makes hK0) hr
    exact hl6.fits (hf.mono (by omega) (by omega))
  have HK : Hid (Keeps A w0 w6) := ((KB.out.ofFresh (S := A)).then HF5.out.k (fun i hi e => by
      rcases e with e | e | e
      · exact e
      · omega
      · omega) : Keeps A w0 w5).then k6 (fun i hi e => by
      rcases e with e | e
      · exact e
      · omega)
  have HA' : Hid (∀ i, ext A w5 w6 i → A i ∨ w0.heap.size ≤ i) := fun i hi => by
    rcases hi with hi | hi
    · exact .inl hi
    · exact .inr (by omega)
  have HSP : Hid (SpAt w (ext A w5 w6) d L (w0.heap.size + 1) w0.heap.size N (Found σ ks) ((findLast ks).getD 0) b' W w6) := by
    have hnA : ∀ i, w0.heap.size ≤ i → i < w5.heap.size → ¬ ext A w5 w6 i := fun i h1 h2 e => by
      rcases e with e | e
      · have := hA i e; omega
      · omega
    have F := HF5.out
    refine ⟨hsp6, k6.waitsAt F.wt (fun e => e.elim (fun e => by have := hA _ e; omega) (fun e => by omega)), F.inj, fun n b hn => ?_, hnA _ (by omega) (by omega), hnA _ (by omega) (by omega), by omega, by omega, by omega, hlv, fun n b hn e => by
      obtain ⟨p1, _⟩ := F.lft n b hn
      omega⟩
    obtain ⟨p1, nn, c, M, p2, p3, p4, p5⟩ := F.lft n b hn
    have := p3.lt
    exact ⟨by omega, hnA b (by omega) this, nn, c, M, p2, k6.leftAt p3 (fun e => e.elim (fun e => by have := hA _ e; omega) (fun e => by omega)), p4, p5⟩
  clear hsd hl6 hsp6 k6 HF5
  cases b' with
  | true =>
    go_wp2_with fail
    go_ret2
    obtain ⟨k, hr, hk⟩ := HE.out
    exact ⟨ks, k, σ', _, HSo.out, hr, HB.out k hr, HA'.out, HK.out, .inl ⟨hk.resolve_left (fun h => by cases h.1) |>.2, rfl⟩⟩
  | false =>
    go_wp2_with fail
    go_ret2
    obtain ⟨k, hr, hk⟩ := HE.out
    exact ⟨ks, k, σ', _, HSo.out, hr, HB.out k hr, HA'.out, HK.out, .inr ⟨hk.resolve_right (fun h => by cases h.1) |>.2, w0.heap.size + 1, w0.heap.size, N, W, rfl, by omega, by omega, Nat.le_refl _, HWT.out, HSP.out⟩⟩

end
end Go.Proofs.YtegbkpjcjlihmabGreatDoor

namespace Go.Proofs.YtegbkpjcjlihmabGreatDoor
open Go.RowKit Go.Maps

def newB : ByteArray := ⟨#[115, 112, 111, 111, 108, 47, 110, 101, 119]⟩

/-- the writes of Put -/
def putWs (T l1 l2 mN : Text) : List Wr := [(0, newT, []), (1, newT, T), (2, newT, []), (4, l1, l2), (4, newT, mN), (5, [], [])]

theorem heap3 (w : World) (a b c : Obj) : (((w.alloc a).alloc b).alloc c).heap[w.heap.size]? = some a ∧ (((w.alloc a).alloc b).alloc c).heap[w.heap.size + 1]? = some b ∧ (((w.alloc a).alloc b).alloc c).heap[w.heap.size + 2]? = some c := by
  have ka : Fresh (w.alloc a) ((w.alloc a).alloc b) := (Keeps.refl _ _).alloc _
  have kb : Fresh ((w.alloc a).alloc b) (((w.alloc a).alloc b).alloc c) := (Keeps.refl _ _).alloc _
  refine ⟨(ka.trans kb).heap (heap_new w a) (fun e => e), ?_, ?_⟩
  · have := kb.heap (heap_new (w.alloc a) b) (fun e => e)
    rwa [World.size_alloc] at this
  · have := heap_new ((w.alloc a).alloc b) c
    rwa [World.size_alloc, World.size_alloc] at this

theorem heap2 (w : World) (a b : Obj) : ((w.alloc a).alloc b).heap[w.heap.size]? = some a ∧ ((w.alloc a).alloc b).heap[w.heap.size + 1]? = some b := by
  have ka : Fresh (w.alloc a) ((w.alloc a).alloc b) := (Keeps.refl _ _).alloc _
  refine ⟨ka.heap (heap_new w a) (fun e => e), ?_⟩
  have := heap_new (w.alloc a) b
  rwa [World.size_alloc] at this

section
variable {w w0 : World} {A : Nat → Prop} {d s : Nat} {σ : Dk} {K : List Text} {C L : Nat}

def c94 (p : Nat) : Value := .func (.func 94) #[] #[ptr p, ptr (p + 1)]
def c95 (p : Nat) : Value := .func (.func 95) #[] #[ptr p, ptr (p + 1), ptr (p + 2)]

theorem do_put (h : Live w w0 A d K C L σ) (lv mv : Value) (b : Bool) (hsp : w0.heap[s]? = some (spoolCells d lv mv b)) (hsA : ¬ A s) (hsw : w.heap.size ≤ s) (T l1 l2 mN : ByteArray) (hT : T.size ≤ 1099511627776) (h1s : l1.size ≤ maxLen) (h2s : l2.size ≤ maxLen) (hms : mN.size ≤ maxLen)
    (hK : K.length ≤ 1099511627776) (hnK : newT ∈ K) (h2K : l2.data.toList ∈ K) (hmK : mN.data.toList ∈ K) (hC : C + 6 ≤ 1099511627776) (hL : L + T.size ≤ 1099511627776)
    (W wa W2 wb wc W6 wd W8 we : World) (fW : Fresh w0 W) (hwa : wa = (W.alloc (.cells #[meth 16 d] 48)).alloc (.cells #[.string newB] 9)) (k2 : Fresh wa W2) (hwb : wb = ((W2.alloc (.cells #[meth 17 d] 49)).alloc (.cells #[.string newB] 9)).alloc (.cells #[.string T] 9)) (hwc : wc = (wb.alloc (.cells #[meth 59 d] 48)).alloc (.cells #[.string newB] 9))
    (k6 : Fresh wc W6) (hwd : wd = ((W6.alloc (.cells #[meth 60 d] 49)).alloc (.cells #[.string l1] 9)).alloc (.cells #[.string l2] 9)) (k8 : Fresh wd W8) (hwe : we = ((W8.alloc (.cells #[meth 60 d] 49)).alloc (.cells #[.string newB] 9)).alloc (.cells #[.string mN] 9)) :
    Calls Tryz.prog 52 #[ptr s, .slice (some ⟨we.heap.size, 0, none⟩) 6 6] (we.alloc (.cells #[c94 W.heap.size, c95 W2.heap.size, c94 wb.heap.size, c95 W6.heap.size, c95 W8.heap.size, meth 36 d] 128))
      (SDone w w0 A d s K (C + 6) (L + T.size) lv mv ((putWs T.data.toList l1.data.toList l2.data.toList mN.data.toList).map Wr.rel) b σ) := by
  have ka : Fresh W wa := by rw [hwa]; exact ((Keeps.refl _ _).alloc _).alloc _
  have kb : Fresh W2 wb := by rw [hwb]; exact (((Keeps.refl _ _).alloc _).alloc _).alloc _
  have kc : Fresh wb wc := by rw [hwc]; exact ((Keeps.refl _ _).alloc _).alloc _
  have kd : Fresh W6 wd := by rw [hwd]; exact (((Keeps.refl _ _).alloc _).alloc _).alloc _
  have ke : Fresh W8 we := by rw [hwe]; exact (((Keeps.refl _ _).alloc _).alloc _).alloc _
  have kf : Fresh we (we.alloc (.cells #[c94 W.heap.size, c95 W2.heap.size, c94 wb.heap.size, c95 W6.heap.size, c95 W8.heap.size, meth 36 d] 128)) := (Keeps.refl _ _).alloc _
  have f8 : Fresh W8 _ := ke.trans kf
  have f6 : Fresh W6 _ := (kd.trans k8).trans f8
  have fb : Fresh wb _ := (kc.trans k6).trans f6
  have f2 : Fresh W2 _ := kb.trans fb
  have fW' : Fresh W _ := (ka.trans k2).trans f2
  have a1 := heap2 W (.cells #[meth 16 d] 48) (.cells #[.string newB] 9)
  rw [← hwa] at a1
  have a2 := heap3 W2 (.cells #[meth 17 d] 49) (.cells #[.string newB] 9) (.cells #[.string T] 9)
  rw [← hwb] at a2
  have a3 := heap2 wb (.cells #[meth 59 d] 48) (.cells #[.string newB] 9)
  rw [← hwc] at a3
  have a4 := heap3 W6 (.cells #[meth 60 d] 49) (.cells #[.string l1] 9) (.cells #[.string l2] 9)
  rw [← hwd] at a4
  have a5 := heap3 W8 (.cells #[meth 60 d] 49) (.cells #[.string newB] 9) (.cells #[.string mN] 9)
  rw [← hwe] at a5
  have g2 := k2.trans f2
  have gc := k6.trans f6
  have gd := k8.trans f8
  have p1 := g2.heap a1.1 (fun e => e)
  have q1 := g2.heap a1.2 (fun e => e)
  have p2 := fb.heap a2.1 (fun e => e)
  have q2 := fb.heap a2.2.1 (fun e => e)
  have r2 := fb.heap a2.2.2 (fun e => e)
  have p3 := gc.heap a3.1 (fun e => e)
  have q3 := gc.heap a3.2 (fun e => e)
  have p4 := gd.heap a4.1 (fun e => e)
  have q4 := gd.heap a4.2.1 (fun e => e)
  have r4 := gd.heap a4.2.2 (fun e => e)
  have p5 := kf.heap a5.1 (fun e => e)
  have q5 := kf.heap a5.2.1 (fun e => e)
  have r5 := kf.heap a5.2.2 (fun e => e)
  have hrow := row_built we 128 [c94 W.heap.size, c95 W2.heap.size, c94 wb.heap.size, c95 W6.heap.size, c95 W8.heap.size, meth 36 d] 6 rfl (by omega)
  have kk : Fresh w0 _ := fW.trans fW'
  have s0 := fW.size
  have s1 := ka.size
  have s2 := k2.size
  have s3 := kb.size
  have s4 := kc.size
  have s5 := k6.size
  have s6 := kd.size
  have s7 := k8.size
  have s8 := ke.size
  have hsl := heap_lt hsp
  have hA : ∀ i, A i → i < w0.heap.size := fun i hi => (h.1 i hi).2
  have h3 := h.fresh kk
  have hsp3 := kk.heap hsp (fun e => e)
  have hlt : ∀ {k : Nat} {o : Obj}, (we.alloc (.cells #[c94 W.heap.size, c95 W2.heap.size, c94 wb.heap.size, c95 W6.heap.size, c95 W8.heap.size, meth 36 d] 128)).heap[k]? = some o → k < (we.alloc (.cells #[c94 W.heap.size, c95 W2.heap.size, c94 wb.heap.size, c95 W6.heap.size, c95 W8.heap.size, meth 36 d] 128)).heap.size := fun hk => heap_lt hk
  have hrl := heap_lt (heap_new we (.cells #[c94 W.heap.size, c95 W2.heap.size, c94 wb.heap.size, c95 W6.heap.size, c95 W8.heap.size, meth 36 d] 128))
  clear kf f8 f6 fb f2 fW' g2 gc gd a1 a2 a3 a4 a5 hwa hwb hwc hwd hwe
  generalize we.alloc (.cells #[c94 W.heap.size, c95 W2.heap.size, c94 wb.heap.size, c95 W6.heap.size, c95 W8.heap.size, meth 36 d] 128) = w9 at *
  have hB : ∀ {k : Nat} {o : Obj}, w9.heap[k]? = some o → w0.heap.size ≤ k → (fun k => w0.heap.size ≤ k ∧ k < w9.heap.size) k := fun hk hle => ⟨hle, hlt hk⟩
  refine (sdo_any h3 lv mv b hsp3 hsA hsw (B := fun k => w0.heap.size ≤ k ∧ k < w9.heap.size) (fun k hk => ⟨fun e => by have := hA k e; omega, by omega, hk.2⟩) we.heap.size _ [c94 W.heap.size, c95 W2.heap.size, c94 wb.heap.size, c95 W6.heap.size, c95 W8.heap.size, meth 36 d]
    ((putWs T.data.toList l1.data.toList l2.data.toList mN.data.toList).map Wr.rel) [0, T.size, 0, 0, 0, 0] hrow (fun k hk => ⟨by have := (hrow.lt k hk).1; omega, (hrow.lt k hk).2⟩) rfl rfl (fun i v R m h1 h2 h3 => ?_) (by simpa using hC) (by simpa using hL)).mono ?_
  · match i, h1, h2, h3 with
    | 0, h1, h2, h3 =>
      obtain rfl := Option.some.inj (show some (c94 W.heap.size) = some v from h1)
      obtain rfl := Option.some.inj (show some (Wr.rel (0, newT, [])) = some R from h2)
      obtain rfl := Option.some.inj (show some (0) = some m from h3)
      exact doesW_create p1 (hB p1 (by omega)) q1 (hB q1 (by omega)) (by decide) hK hnK
    | 1, h1, h2, h3 =>
      obtain rfl := Option.some.inj (show some (c95 W2.heap.size) = some v from h1)
      obtain rfl := Option.some.inj (show some (Wr.rel (1, newT, T.data.toList)) = some R from h2)
      obtain rfl := Option.some.inj (show some (T.size) = some m from h3)
      exact doesW_append p2 (hB p2 (by omega)) q2 (hB q2 (by omega)) r2 (hB r2 (by omega)) (by decide) hT
    | 2, h1, h2, h3 =>
      obtain rfl := Option.some.inj (show some (c94 wb.heap.size) = some v from h1)
      obtain rfl := Option.some.inj (show some (Wr.rel (2, newT, [])) = some R from h2)
      obtain rfl := Option.some.inj (show some (0) = some m from h3)
      exact doesW_sync p3 (hB p3 (by omega)) q3 (hB q3 (by omega)) (by decide)
    | 3, h1, h2, h3 =>
      obtain rfl := Option.some.inj (show some (c95 W6.heap.size) = some v from h1)
      obtain rfl := Option.some.inj (show some (Wr.rel (4, l1.data.toList, l2.data.toList)) = some R from h2)
      obtain rfl := Option.some.inj (show some (0) = some m from h3)
      exact doesW_rename p4 (hB p4 (by omega)) q4 (hB q4 (by omega)) r4 (hB r4 (by omega)) h1s h2s hK h2K
    | 4, h1, h2, h3 =>
      obtain rfl := Option.some.inj (show some (c95 W8.heap.size) = some v from h1)
      obtain rfl := Option.some.inj (show some (Wr.rel (4, newT, mN.data.toList)) = some R from h2)
      obtain rfl := Option.some.inj (show some (0) = some m from h3)
      exact doesW_rename p5 (hB p5 (by omega)) q5 (hB q5 (by omega)) r5 (hB r5 (by omega)) (by decide) hms hK hmK
    | 5, h1, h2, h3 =>
      obtain rfl := Option.some.inj (show some (meth 36 d) = some v from h1)
      obtain rfl := Option.some.inj (show some (Wr.rel (5, [], [])) = some R from h2)
      obtain rfl := Option.some.inj (show some (0) = some m from h3)
      exact doesW_syncDir hK
  · intro e w' hd
    have hd' : SDone w w9 A d s K (C + 6) (L + T.size) lv mv ((putWs T.data.toList l1.data.toList l2.data.toList mN.data.toList).map Wr.rel) b σ e w' := by
      have := hd
      simpa using this
    exact hd'.elder (h3.mono (by omega) (by omega)) kk hA h.2.2.2.size

end
end Go.Proofs.YtegbkpjcjlihmabGreatDoor

namespace Go.Proofs.YtegbkpjcjlihmabGreatDoor
open Go.RowKit Go.Maps

/-- a spool's numbers -/
def lName (n : Int) : Text := numName lastT n
def mName (n : Int) : Text := numName mailT n

/-- what stands behind Put of a mail that goes somewhere -/
def PutDone (w w0 : World) (A : Nat → Prop) (d : Nat) (K : List Text) (C L : Nat) (σ : Dk) (s mw N : Nat) (P : Int → Lefts → Prop) (lv : Int) (b : Bool) (W : Waits) (T : Text) (l : List Ltr) (e : Ending) (w' : World) : Prop :=
  ∃ (b' : Bool) (σ' : Dk) (A' : Nat → Prop), sdo ((putWs T (lName lv) (lName (lv + 1)) (mName (lv + 1))).map Wr.rel) b σ b' σ' ∧ Live w w' A' d K (C + 6) (L + T.length) σ' ∧ (∀ i, A' i → A i ∨ w0.heap.size ≤ i) ∧ Keeps (fun i => A i ∨ i = s ∨ i = mw) w0 w' ∧
    ((b' = true ∧ e = .returned (.tuple #[.int .i64 0, .int .i64 6]) ∧ SpAt w A' d L s mw N P lv true W w') ∨
      (b' = false ∧ e = .returned (.tuple #[.int .i64 (lv + 1), .int .i64 0]) ∧ ∃ m, SpAt w A' d (L + T.length) s mw (N + 1) (fun n M => P n M ∨ (n = lv + 1 ∧ M = plc (once l))) (lv + 1) false (putW W (lv + 1) m) w'))

section
variable {w w0 wr w' : World} {A : Nat → Prop} {d s : Nat} {L L' : Nat} {mw N : Nat} {P P' : Int → Lefts → Prop} {lv : Int} {b b' : Bool} {W : Waits}

theorem SpAt.lt (h : SpAt w A d L s mw N P lv b W w0) : s < w0.heap.size := (Array.getElem?_eq_some_iff.1 h.sp).1

/-- behind the writes -/
theorem SpAt.moved (h : SpAt w A d L s mw N P lv b W w0) (hsp : w'.heap[s]? = some (spoolCells d (.int .i64 lv) (.map (some mw)) b')) (kk : Keeps (fun i => A i ∨ i = s) w0 w') : SpAt w (ext A w0 w') d L s mw N P lv b' W w' := by
  have hnA : ∀ i, i < w0.heap.size → ¬ A i → ¬ ext A w0 w' i := fun i h1 h2 e => e.elim h2 (fun e => by omega)
  refine ⟨hsp, kk.waitsAt h.wt (fun e => e.elim h.nM h.ne), h.inj, fun n k hk => ?_, hnA _ h.lt h.nS, hnA _ h.wt.lt h.nM, h.wS, h.wM, h.ne, h.ok, h.nW⟩
  obtain ⟨p1, p0, nn, c, M, p2, p3, p4, p5⟩ := h.lft n k hk
  exact ⟨p1, hnA k p3.lt p0, nn, c, M, p2, kk.leftAt p3 (fun e => e.elim p0 (h.neS hk)), p4, p5⟩

theorem SpAt.fresh (h : SpAt w A d L s mw N P lv b W wr) (kk : Fresh wr w') : SpAt w A d L s mw N P lv b W w' := by
  refine ⟨kk.heap h.sp (fun e => e), kk.waitsAt h.wt (fun e => e), h.inj, fun n k hk => ?_, h.nS, h.nM, h.wS, h.wM, h.ne, h.ok, h.nW⟩
  obtain ⟨p1, p0, nn, c, M, p2, p3, p4, p5⟩ := h.lft n k hk
  exact ⟨p1, p0, nn, c, M, p2, kk.leftAt p3 (fun e => e), p4, p5⟩

theorem SpAt.setLast (h : SpAt w A d L s mw N P lv b W wr) (lv' : Int) (hok : okI lv') : SpAt w A d L s mw N P lv' b W (wr.setCell ⟨s, 1, none⟩ (.int .i64 lv')) := by
  have kk : Keeps (fun k => k = s) wr (wr.setCell ⟨s, 1, none⟩ (.int .i64 lv')) := (Keeps.refl (fun k => k = s) wr).setCell (p := ⟨s, 1, none⟩) (fun _ => rfl) _
  refine ⟨heap_setCell_at h.sp 1 _, kk.waitsAt h.wt h.ne, h.inj, fun n k hk => ?_, h.nS, h.nM, h.wS, h.wM, h.ne, hok, h.nW⟩
  obtain ⟨p1, p0, nn, c, M, p2, p3, p4, p5⟩ := h.lft n k hk
  exact ⟨p1, p0, nn, c, M, p2, kk.leftAt p3 (h.neS hk), p4, p5⟩

theorem SpAt.putM (h : SpAt w A d L s mw N P lv b W wr) (n : Int) (m nn c : Nat) (M : Lefts) (hb : LeftAt wr m nn c M) (hmw : w.heap.size ≤ m) (hmA : ¬ A m) (hnew : ∀ n b', W n = some b' → b' ≠ m) (hmm : m ≠ mw) (hL : L ≤ L') (hnn : nn ≤ L') (hM : okM M) (hPP : ∀ n M, P n M → P' n M) (hP : P' n M)
    (hwt : WaitsAt w' mw (N + 1) (putW W n m)) (kk : Keeps (fun k => k = mw) wr w') : SpAt w A d L' s mw (N + 1) P' lv b (putW W n m) w' := by
  refine ⟨kk.heap h.sp (fun e => h.ne e.symm), hwt, ?_, ?_, h.nS, h.nM, h.wS, h.wM, h.ne, h.ok, ?_⟩
  · intro i j b' h1 h2
    unfold putW at h1 h2
    by_cases e1 : i = n
    · by_cases e2 : j = n
      · rw [e1, e2]
      · rw [if_pos e1] at h1
        rw [if_neg e2] at h2
        exact absurd (Option.some.inj h1).symm (hnew j b' h2)
    · by_cases e2 : j = n
      · rw [if_neg e1] at h1
        rw [if_pos e2] at h2
        exact absurd (Option.some.inj h2).symm (hnew i b' h1)
      · rw [if_neg e1] at h1
        rw [if_neg e2] at h2
        exact h.inj i j b' h1 h2
  · intro i b' h1
    unfold putW at h1
    by_cases e1 : i = n
    · rw [if_pos e1] at h1
      obtain rfl := Option.some.inj h1
      subst e1
      exact ⟨hmw, hmA, nn, c, M, hnn, kk.leftAt hb hmm, hM, hP⟩
    · rw [if_neg e1] at h1
      obtain ⟨p1, p0, nn', c', M', p2, p3, p4, p5⟩ := h.lft i b' h1
      exact ⟨p1, p0, nn', c', M', by omega, kk.leftAt p3 (h.nW i b' h1), p4, hPP _ _ p5⟩
  · intro i b' h1
    unfold putW at h1
    by_cases e1 : i = n
    · rw [if_pos e1] at h1
      exact fun e => hmm (by rw [Option.some.inj h1]; exact e)
    · rw [if_neg e1] at h1
      exact h.nW i b' h1

end

section
variable {w w0 : World} {A : Nat → Prop} {d s : Nat} {σ : Dk} {K : List Text} {C L : Nat} {mw N : Nat} {P : Int → Lefts → Prop} {lv : Int} {b : Bool} {W : Waits}

set_option maxHeartbeats 8000000 in
set_option maxRecDepth 100000 in
theorem put_any (h : Live w w0 A d K C L σ) (hG : Gl w) (S : SpAt w A d L s mw N P lv b W w0) (fa fb dd : ByteArray) (ao : Option Addr) (cap : Nat) (l : List Ltr) (hl0 : 0 < l.length) (hn : l.length ≤ 1099511627) (hlv0 : 0 ≤ lv) (hlv1 : lv < 1099511627776) (hN : N < 1099511627776)
    (hok : ∀ p ∈ l, okA p) (hx : ∀ j u, (l.flatMap encL)[j]? = some u → ∃ g, ao = some ⟨g, 0, none⟩ ∧ w0.cell? ⟨g, j, none⟩ = some u) (hxA : ∀ g, ao = some ⟨g, 0, none⟩ → ¬ A g ∧ g ≠ s)
    (hT : (mailText fa.data.toList fb.data.toList l dd.data.toList).length ≤ 1099511627) (hl2 : (wt (l.flatMap twoOf)).length ≤ 1099511627776) (hlT : l.length ≤ (mailText fa.data.toList fb.data.toList l dd.data.toList).length)
    (hK : K.length ≤ 1099511627) (hnK : newT ∈ K) (h2K : lName (lv + 1) ∈ K) (hmK : mName (lv + 1) ∈ K) (hC : C + 6 ≤ 1099511627776) (hL : L ≤ 1099511627) :
    Calls Tryz.prog 21 #[ptr s, .agg #[.string fa, .string fb, .slice ao l.length cap, .string dd]] w0 (PutDone w w0 A d K C L σ s mw N P lv b W (mailText fa.data.toList fb.data.toList l dd.data.toList) l) := by
  have km : Fresh w0 (w0.alloc (.cells #[.string fa, .string fb, .slice ao l.length cap, .string dd] 59)) := (Keeps.refl _ _).alloc _
  obtain ⟨m0, m1, m2, m3, _, _, _, _⟩ := mcells (heap_new w0 (.cells #[.string fa, .string fb, .slice ao l.length cap, .string dd] 59))
  obtain ⟨c0, c1, c2, c3, _, _, _, _⟩ := mcells (km.heap S.sp (fun e => e))
  have z0 : (0 : Int) < (l.length : Int) := by omega
  have z1 : ((l.length : Int) == 0) = false := beq_eq_false_iff_ne.2 (by omega)
  have zl1 : -9223372036854775808 ≤ lv + 1 := by omega
  have zl2 : lv + 1 ≤ 9223372036854775807 := by omega
  unfold ptr at *
  go_enter Tryz.func21, Tryz.ntmps21
  go_wp2_with fail
  generalize hW : w0.alloc (.cells #[.string fa, .string fb, .slice ao l.length cap, .string dd] 59) = W1 at *
  have S0 : Hid (SpAt w A d L s mw N P lv b W w0) := S
  have H : Hid (Live w w0 A d K C L σ) := h
  have hGW : Gl W1 := hG.fresh (h.2.2.2.trans km)
  obtain ⟨T, hTe⟩ : ∃ T : ByteArray, T = baOf (mailText fa.data.toList fb.data.toList l dd.data.toList) := ⟨_, rfl⟩
  have HTE : Hid (T.data.toList = mailText fa.data.toList fb.data.toList l dd.data.toList) := by rw [hTe]; rfl
  have hTs : T.size ≤ 1099511627 := by
    have e1 : T.size = T.data.toList.length := rfl
    rw [e1, HTE.out]; exact hT
  have hbnd : ∀ (kd : ByteArray) (n : Int), kd.size ≤ 1048576 → -9223372036854775808 ≤ n → n ≤ 9223372036854775807 → (numB kd n).size ≤ maxLen := fun kd n h1 h2 h3 => by
    have := Lib.itoa_length_le n h2 h3
    show (numName kd.data.toList n).length ≤ maxLen
    unfold numName maxLen
    rw [List.length_append]
    have : kd.data.toList.length = kd.size := rfl
    omega
  obtain ⟨l1, hl1⟩ : ∃ l1, l1 = numB ⟨#[115, 112, 111, 111, 108, 47, 108, 97, 115, 116, 47]⟩ lv := ⟨_, rfl⟩
  obtain ⟨l2, hl2e⟩ : ∃ l2, l2 = numB ⟨#[115, 112, 111, 111, 108, 47, 108, 97, 115, 116, 47]⟩ (lv + 1) := ⟨_, rfl⟩
  obtain ⟨mN, hmN⟩ : ∃ mN, mN = numB ⟨#[115, 112, 111, 111, 108, 47, 109, 97, 105, 108, 47]⟩ (lv + 1) := ⟨_, rfl⟩
  have HL1 : Hid (l1.data.toList = lName lv) := by rw [hl1]; rfl
  have HL2 : Hid (l2.data.toList = lName (lv + 1)) := by rw [hl2e]; rfl
  have HMN : Hid (mN.data.toList = mName (lv + 1)) := by rw [hmN]; rfl
  have hdo := fun Wx wa W2 wb wc W6 wd W8 we (fx : Fresh W1 Wx) => do_put (h.fresh km) (.int .i64 lv) (.map (some mw)) b (km.heap S.sp (fun e => e)) S.nS S.wS T l1 l2 mN (by omega) (by rw [hl1]; exact hbnd _ _ (by decide) (by omega) (by omega)) (by rw [hl2e]; exact hbnd _ _ (by decide) (by omega) (by omega)) (by rw [hmN]; exact hbnd _ _ (by decide) (by omega) (by omega)) (by omega) hnK (by rw [HL2.out]; exact h2K) (by rw [HMN.out]; exact hmK) hC (by omega) Wx wa W2 wb wc W6 wd W8 we fx
  have hone1 := fun w' => one_any 16 d newB w'
  have hone3 := fun w' => one_any 59 d newB w'
  have htwo2 := fun w' => two_any 17 d newB T w'
  have htwo4 := fun w' => two_any 60 d l1 l2 w'
  have htwo5 := fun w' => two_any 60 d newB mN w'
  have hwr := fun w' (f : Fresh W1 w') => written_any fa fb dd ao cap l w' (hGW.fresh f) hn (fun j u hj => by
    obtain ⟨g, hg, hc⟩ := hx j u hj
    exact ⟨g, hg, cell_keeps (km.trans f) hc (fun e => e)⟩) (by omega) hl2
  rw [← hTe] at hwr
  have hn1 := fun w' (f : Fresh W1 w') => numbered_any ⟨#[115, 112, 111, 111, 108, 47, 108, 97, 115, 116, 47]⟩ lv w' (hGW.fresh f) (by decide) (by omega) (by omega)
  rw [← hl1] at hn1
  have hn2 := fun w' (f : Fresh W1 w') => numbered_any ⟨#[115, 112, 111, 111, 108, 47, 108, 97, 115, 116, 47]⟩ (lv + 1) w' (hGW.fresh f) (by decide) (by omega) (by omega)
  rw [← hl2e] at hn2
  have hn3 := fun w' (f : Fresh W1 w') => numbered_any ⟨#[115, 112, 111, 111, 108, 47, 109, 97, 105, 108, 47]⟩ (lv + 1) w' (hGW.fresh f) (by decide) (by omega) (by omega)
  rw [← hmN] at hn3
  have hml := S.wt.lt
  have HX : Hid (∀ j u, (l.flatMap encL)[j]? = some u → ∃ g, ao = some ⟨g, 0, none⟩ ∧ w0.cell? ⟨g, j, none⟩ = some u) := hx
  clear h S hTe hl1 hl2e hmN hx hbnd hG
  unfold c94 c95 meth ptr newB at *
  go_quiet (fail)
  go_wp2_with fail
  have fq : Fresh W1 (W1.drewN nq) := (Keeps.refl _ _).drewN _
  generalize W1.drewN nq = Wq at *
  have fq' : Fresh W1 Wq.drew := fq.drew
  have hdo := fun wa W2 wb wc W6 wd W8 we => hdo Wq.drew wa W2 wb wc W6 wd W8 we fq'
  rw [show Wq.drew.heap.size = Wq.heap.size from rfl] at hdo
  have HS : Hid (∀ w', Fresh W1 w' → w'.cell? ⟨s, 1, none⟩ = some (.int .i64 lv) ∧ w'.cell? ⟨w0.heap.size, 0, none⟩ = some (.string fa) ∧ w'.cell? ⟨w0.heap.size, 1, none⟩ = some (.string fb) ∧ w'.cell? ⟨w0.heap.size, 2, none⟩ = some (.slice ao l.length cap) ∧ w'.cell? ⟨w0.heap.size, 3, none⟩ = some (.string dd)) := fun w' f => ⟨cell_keeps f c1 (fun e => e), cell_keeps f m0 (fun e => e), cell_keeps f m1 (fun e => e), cell_keeps f m2 (fun e => e), cell_keeps f m3 (fun e => e)⟩
  have Hone1 : Hid _ := hone1
  have Hone3 : Hid _ := hone3
  have Htwo2 : Hid _ := htwo2
  have Htwo4 : Hid _ := htwo4
  have Htwo5 : Hid _ := htwo5
  have Hwr : Hid _ := hwr
  have Hn1 : Hid _ := hn1
  have Hn2 : Hid _ := hn2
  have Hn3 : Hid _ := hn3
  have Hdo : Hid _ := hdo
  clear hone1 hone3 htwo2 htwo4 htwo5 hwr hn1 hn2 hn3 hdo
  have hmA : ¬ A w0.heap.size := fun ha => Nat.lt_irrefl _ (H.out.1 _ ha).2
  have Hrest : Hid _ := And.intro hok (And.intro hxA (And.intro hT (And.intro hl2 (And.intro hlT (And.intro hK (And.intro hnK (And.intro h2K (And.intro hmK (And.intro hC (And.intro hL (And.intro hn (And.intro hlv0 (And.intro hlv1 (And.intro hN (And.intro hGW (And.intro km hTs))))))))))))))))
  clear c0 c2 c3 hok hxA hT hl2 hlT hK hnK h2K hmK hC hL hn hlv0 hlv1 hN hGW hTs zl1 zl2
  refine wp_region_noPanic ?_
  refine wp_region_held_drew (S := (fun w' => w'.cell? ⟨s, 1, none⟩ = some (.int .i64 lv) ∧ w'.cell? ⟨w0.heap.size, 0, none⟩ = some (.string fa) ∧ w'.cell? ⟨w0.heap.size, 1, none⟩ = some (.string fb) ∧ w'.cell? ⟨w0.heap.size, 2, none⟩ = some (.slice ao l.length cap) ∧ w'.cell? ⟨w0.heap.size, 3, none⟩ = some (.string dd))) (by kernel_rfl) (HS.out _ (by repeat (first | assumption | refine Keeps.alloc ?_ _ | refine Keeps.drew ?_))) (fun hHeld => ?_)
  refine wpAnyH_take (i := 0) (oi := { dst := some 22, op := Op.move (Operand.tmp 0), type := 35, pos := "spool.go:41", after := #[], guard := none }) (v := ?v0) rfl (by kernel_rfl) (by kernel_rfl) (by kernel_rfl) (fun _ _ _ h => h) (Or.inl ⟨by rfl, ?hy0⟩) hHeld ?rest0
  case hy0 => intro w hSw; (try dsimp only at hSw); go_simp; (try with_reducible rfl)
  try simp only [Act.put, List.setIfInBounds_toArray, List.set_cons_zero, List.set_cons_succ]
  refine wpAnyH_take (i := 1) (oi := { dst := some 23, op := Op.move (Operand.tmp 6), type := 34, pos := "spool.go:41", after := #[], guard := none }) (v := ?v1) rfl (by kernel_rfl) (by kernel_rfl) (by kernel_rfl) (fun _ _ _ h => h) (Or.inl ⟨by rfl, ?hy1⟩) hHeld ?rest1
  case hy1 => intro w hSw; (try dsimp only at hSw); go_simp; (try with_reducible rfl)
  try simp only [Act.put, List.setIfInBounds_toArray, List.set_cons_zero, List.set_cons_succ]
  refine wpAnyH_take (i := 2) (oi := { dst := some 24, op := Op.makeFunc (Fn.func 16) #[Operand.tmp 23] #[], type := 48, pos := "spool.go:41", after := #[{ on := 1, ground := Ground.data }], guard := none }) (v := ?v2) rfl (by kernel_rfl) (by kernel_rfl) (by kernel_rfl) (fun _ _ _ h => h) (Or.inl ⟨by rfl, ?hy2⟩) hHeld ?rest2
  case hy2 => intro w hSw; (try dsimp only at hSw); go_simp; (try with_reducible rfl)
  try simp only [Act.put, List.setIfInBounds_toArray, List.set_cons_zero, List.set_cons_succ]
  refine wpAnyH_take (i := 4) (oi := { dst := some 26, op := Op.move (Operand.tmp 6), type := 34, pos := "spool.go:41", after := #[], guard := none }) (v := ?v4) rfl (by kernel_rfl) (by kernel_rfl) (by kernel_rfl) (fun _ _ _ h => h) (Or.inl ⟨by rfl, ?hy4⟩) hHeld ?rest4
  case hy4 => intro w hSw; (try dsimp only at hSw); go_simp; (try with_reducible rfl)
  try simp only [Act.put, List.setIfInBounds_toArray, List.set_cons_zero, List.set_cons_succ]
  refine wpAnyH_take (i := 5) (oi := { dst := some 27, op := Op.makeFunc (Fn.func 17) #[Operand.tmp 26] #[], type := 49, pos := "spool.go:41", after := #[{ on := 4, ground := Ground.data }], guard := none }) (v := ?v5) rfl (by kernel_rfl) (by kernel_rfl) (by kernel_rfl) (fun _ _ _ h => h) (Or.inl ⟨by rfl, ?hy5⟩) hHeld ?rest5
  case hy5 => intro w hSw; (try dsimp only at hSw); go_simp; (try with_reducible rfl)
  try simp only [Act.put, List.setIfInBounds_toArray, List.set_cons_zero, List.set_cons_succ]
  refine wpAnyH_take (i := 6) (oi := { dst := some 28, op := Op.load 59 (Operand.tmp 3), type := 59, pos := "spool.go:41", after := #[], guard := none }) (v := ?v6) rfl (by kernel_rfl) (by kernel_rfl) (by kernel_rfl) (fun _ _ _ h => h) (Or.inl ⟨by rfl, ?hy6⟩) hHeld ?rest6
  case hy6 => intro w hSw; (try dsimp only at hSw); go_simp; (try with_reducible rfl)
  try simp only [Act.put, List.setIfInBounds_toArray, List.set_cons_zero, List.set_cons_succ]
  refine wpAnyH_take (i := 9) (oi := { dst := some 31, op := Op.move (Operand.tmp 6), type := 34, pos := "spool.go:41", after := #[], guard := none }) (v := ?v9) rfl (by kernel_rfl) (by kernel_rfl) (by kernel_rfl) (fun _ _ _ h => h) (Or.inl ⟨by rfl, ?hy9⟩) hHeld ?rest9
  case hy9 => intro w hSw; (try dsimp only at hSw); go_simp; (try with_reducible rfl)
  try simp only [Act.put, List.setIfInBounds_toArray, List.set_cons_zero, List.set_cons_succ]
  refine wpAnyH_take (i := 10) (oi := { dst := some 32, op := Op.makeFunc (Fn.func 59) #[Operand.tmp 31] #[], type := 48, pos := "spool.go:41", after := #[{ on := 9, ground := Ground.data }], guard := none }) (v := ?v10) rfl (by kernel_rfl) (by kernel_rfl) (by kernel_rfl) (fun _ _ _ h => h) (Or.inl ⟨by rfl, ?hy10⟩) hHeld ?rest10
  case hy10 => intro w hSw; (try dsimp only at hSw); go_simp; (try with_reducible rfl)
  try simp only [Act.put, List.setIfInBounds_toArray, List.set_cons_zero, List.set_cons_succ]
  refine wpAnyH_take (i := 12) (oi := { dst := some 34, op := Op.move (Operand.tmp 6), type := 34, pos := "spool.go:41", after := #[], guard := none }) (v := ?v12) rfl (by kernel_rfl) (by kernel_rfl) (by kernel_rfl) (fun _ _ _ h => h) (Or.inl ⟨by rfl, ?hy12⟩) hHeld ?rest12
  case hy12 => intro w hSw; (try dsimp only at hSw); go_simp; (try with_reducible rfl)
  try simp only [Act.put, List.setIfInBounds_toArray, List.set_cons_zero, List.set_cons_succ]
  refine wpAnyH_take (i := 13) (oi := { dst := some 35, op := Op.makeFunc (Fn.func 60) #[Operand.tmp 34] #[], type := 49, pos := "spool.go:41", after := #[{ on := 12, ground := Ground.data }], guard := none }) (v := ?v13) rfl (by kernel_rfl) (by kernel_rfl) (by kernel_rfl) (fun _ _ _ h => h) (Or.inl ⟨by rfl, ?hy13⟩) hHeld ?rest13
  case hy13 => intro w hSw; (try dsimp only at hSw); go_simp; (try with_reducible rfl)
  try simp only [Act.put, List.setIfInBounds_toArray, List.set_cons_zero, List.set_cons_succ]
  refine wpAnyH_take (i := 14) (oi := { dst := some 36, op := Op.move (Operand.tmp 0), type := 35, pos := "spool.go:41", after := #[], guard := none }) (v := ?v14) rfl (by kernel_rfl) (by kernel_rfl) (by kernel_rfl) (fun _ _ _ h => h) (Or.inl ⟨by rfl, ?hy14⟩) hHeld ?rest14
  case hy14 => intro w hSw; (try dsimp only at hSw); go_simp; (try with_reducible rfl)
  try simp only [Act.put, List.setIfInBounds_toArray, List.set_cons_zero, List.set_cons_succ]
  refine wpAnyH_take (i := 15) (oi := { dst := some 37, op := Op.nilCheck (Operand.tmp 36), type := 0, pos := "spool.go:41", after := #[{ on := 14, ground := Ground.data }], guard := none }) (v := ?v15) rfl (by kernel_rfl) (by kernel_rfl) (by kernel_rfl) (fun _ _ _ h => h) (Or.inl ⟨by rfl, ?hy15⟩) hHeld ?rest15
  case hy15 => intro w hSw; (try dsimp only at hSw); go_simp; (try with_reducible rfl)
  try simp only [Act.put, List.setIfInBounds_toArray, List.set_cons_zero, List.set_cons_succ]
  refine wpAnyH_take (i := 16) (oi := { dst := some 38, op := Op.fieldAddr 122 (Operand.tmp 37) 1, type := 0, pos := "spool.go:41", after := #[{ on := 15, ground := Ground.data }], guard := none }) (v := ?v16) rfl (by kernel_rfl) (by kernel_rfl) (by kernel_rfl) (fun _ _ _ h => h) (Or.inl ⟨by rfl, ?hy16⟩) hHeld ?rest16
  case hy16 => intro w hSw; (try dsimp only at hSw); go_simp; (try with_reducible rfl)
  try simp only [Act.put, List.setIfInBounds_toArray, List.set_cons_zero, List.set_cons_succ]
  refine wpAnyH_take (i := 17) (oi := { dst := some 39, op := Op.load 3 (Operand.tmp 38), type := 3, pos := "spool.go:41", after := #[{ on := 16, ground := Ground.data }], guard := none }) (v := ?v17) rfl (by kernel_rfl) (by kernel_rfl) (by kernel_rfl) (fun _ _ _ h => h) (Or.inl ⟨by rfl, ?hy17⟩) hHeld ?rest17
  case hy17 => intro w hSw; (try dsimp only at hSw); go_simp; (try with_reducible rfl)
  try simp only [Act.put, List.setIfInBounds_toArray, List.set_cons_zero, List.set_cons_succ]
  refine wpAnyH_take (i := 19) (oi := { dst := some 41, op := Op.move (Operand.tmp 7), type := 3, pos := "spool.go:41", after := #[], guard := none }) (v := ?v19) rfl (by kernel_rfl) (by kernel_rfl) (by kernel_rfl) (fun _ _ _ h => h) (Or.inl ⟨by rfl, ?hy19⟩) hHeld ?rest19
  case hy19 => intro w hSw; (try dsimp only at hSw); go_simp; (try with_reducible rfl)
  try simp only [Act.put, List.setIfInBounds_toArray, List.set_cons_zero, List.set_cons_succ]
  refine wpAnyH_take (i := 22) (oi := { dst := some 44, op := Op.move (Operand.tmp 6), type := 34, pos := "spool.go:41", after := #[], guard := none }) (v := ?v22) rfl (by kernel_rfl) (by kernel_rfl) (by kernel_rfl) (fun _ _ _ h => h) (Or.inl ⟨by rfl, ?hy22⟩) hHeld ?rest22
  case hy22 => intro w hSw; (try dsimp only at hSw); go_simp; (try with_reducible rfl)
  try simp only [Act.put, List.setIfInBounds_toArray, List.set_cons_zero, List.set_cons_succ]
  refine wpAnyH_take (i := 23) (oi := { dst := some 45, op := Op.makeFunc (Fn.func 60) #[Operand.tmp 44] #[], type := 49, pos := "spool.go:41", after := #[{ on := 22, ground := Ground.data }], guard := none }) (v := ?v23) rfl (by kernel_rfl) (by kernel_rfl) (by kernel_rfl) (fun _ _ _ h => h) (Or.inl ⟨by rfl, ?hy23⟩) hHeld ?rest23
  case hy23 => intro w hSw; (try dsimp only at hSw); go_simp; (try with_reducible rfl)
  try simp only [Act.put, List.setIfInBounds_toArray, List.set_cons_zero, List.set_cons_succ]
  refine wpAnyH_take (i := 24) (oi := { dst := some 46, op := Op.move (Operand.tmp 7), type := 3, pos := "spool.go:41", after := #[], guard := none }) (v := ?v24) rfl (by kernel_rfl) (by kernel_rfl) (by kernel_rfl) (fun _ _ _ h => h) (Or.inl ⟨by rfl, ?hy24⟩) hHeld ?rest24
  case hy24 => intro w hSw; (try dsimp only at hSw); go_simp; (try with_reducible rfl)
  try simp only [Act.put, List.setIfInBounds_toArray, List.set_cons_zero, List.set_cons_succ]
  refine wpAnyH_take (i := 27) (oi := { dst := some 49, op := Op.move (Operand.tmp 6), type := 34, pos := "spool.go:41", after := #[], guard := none }) (v := ?v27) rfl (by kernel_rfl) (by kernel_rfl) (by kernel_rfl) (fun _ _ _ h => h) (Or.inl ⟨by rfl, ?hy27⟩) hHeld ?rest27
  case hy27 => intro w hSw; (try dsimp only at hSw); go_simp; (try with_reducible rfl)
  try simp only [Act.put, List.setIfInBounds_toArray, List.set_cons_zero, List.set_cons_succ]
  refine wpAnyH_take (i := 28) (oi := { dst := some 50, op := Op.makeFunc (Fn.func 36) #[Operand.tmp 49] #[], type := 92, pos := "spool.go:41", after := #[{ on := 27, ground := Ground.data }], guard := none }) (v := ?v28) rfl (by kernel_rfl) (by kernel_rfl) (by kernel_rfl) (fun _ _ _ h => h) (Or.inl ⟨by rfl, ?hy28⟩) hHeld ?rest28
  case hy28 => intro w hSw; (try dsimp only at hSw); go_simp; (try with_reducible rfl)
  try simp only [Act.put, List.setIfInBounds_toArray, List.set_cons_zero, List.set_cons_succ]
  refine wpAnyH_ready (rs := [3]) (by kernel_rfl) (by simp) (AllReadyH.cons (o := { dst := some 25, op := Op.call { callee := Callee.value (Operand.func 56), args := #[Operand.tmp 24, Operand.const (Value.string { data := #[115, 112, 111, 111, 108, 47, 110, 101, 119] })], argTypes := #[48, 9] }, type := 128, pos := "spool.go:42", after := #[{ on := 2, ground := Ground.data }], guard := none }) rfl (fun K hK => ?_) AllReadyH.nil)
  go_simp
  refine (Hone1.out _).mono ?_
  rintro e wa ⟨rfl, hwa⟩
  have Hwa : Hid (wa = _) := hwa
  clear hwa Hone1
  have fa' : Fresh W1 wa := (by rw [Hwa.out]; repeat (first | assumption | refine Keeps.alloc ?_ _ | refine Keeps.drew ?_))
  refine hK.out _ _ ?_ (fun hHeld => ?_)
  · first | exact hS11 | (exact HS.out _ (by repeat (first | assumption | refine Keeps.alloc ?_ _ | refine Keeps.drew ?_)))
  clear hK K
  try simp only [Act.put, List.setIfInBounds_toArray, List.set_cons_zero, List.set_cons_succ, Array.getInternal_eq_getElem, List.getElem_toArray, List.getElem_cons_zero, List.getElem_cons_succ]
  refine wpAnyH_ready (rs := [7]) (by kernel_rfl) (by simp) (AllReadyH.cons (o := { dst := some 29, op := Op.call { callee := Callee.value (Operand.func 58), args := #[Operand.tmp 28], argTypes := #[59] }, type := 9, pos := "spool.go:43", after := #[{ on := 6, ground := Ground.data }, { on := 3, ground := Ground.chain }], guard := none }) rfl (fun K hK => ?_) AllReadyH.nil)
  go_simp
  refine (Hwr.out _ (by repeat (first | assumption | refine Keeps.alloc ?_ _ | refine Keeps.drew ?_))).mono ?_
  rintro e W2 ⟨rfl, k2⟩
  clear Hwr
  have f2' : Fresh W1 W2 := fa'.trans k2
  refine hK.out _ _ ?_ (fun hHeld => ?_)
  · first | exact hS11 | (exact HS.out _ (by repeat (first | assumption | refine Keeps.alloc ?_ _ | refine Keeps.drew ?_)))
  clear hK K
  try simp only [Act.put, List.setIfInBounds_toArray, List.set_cons_zero, List.set_cons_succ, Array.getInternal_eq_getElem, List.getElem_toArray, List.getElem_cons_zero, List.getElem_cons_succ]
  refine wpAnyH_ready (rs := [8]) (by kernel_rfl) (by simp) (AllReadyH.cons (o := { dst := some 30, op := Op.call { callee := Callee.value (Operand.func 57), args := #[Operand.tmp 27, Operand.const (Value.string { data := #[115, 112, 111, 111, 108, 47, 110, 101, 119] }), Operand.tmp 29], argTypes := #[49, 9, 9] }, type := 128, pos := "spool.go:43", after := #[{ on := 5, ground := Ground.data }, { on := 7, ground := Ground.data }, { on := 7, ground := Ground.chain }], guard := none }) rfl (fun K hK => ?_) AllReadyH.nil)
  go_simp
  refine (Htwo2.out _).mono ?_
  rintro e wb ⟨rfl, hwb⟩
  have Hwb : Hid (wb = _) := hwb
  clear hwb Htwo2
  have fb' : Fresh W1 wb := (by rw [Hwb.out]; repeat (first | assumption | refine Keeps.alloc ?_ _ | refine Keeps.drew ?_))
  refine hK.out _ _ ?_ (fun hHeld => ?_)
  · first | exact hS11 | (exact HS.out _ (by repeat (first | assumption | refine Keeps.alloc ?_ _ | refine Keeps.drew ?_)))
  clear hK K
  try simp only [Act.put, List.setIfInBounds_toArray, List.set_cons_zero, List.set_cons_succ, Array.getInternal_eq_getElem, List.getElem_toArray, List.getElem_cons_zero, List.getElem_cons_succ]
  refine wpAnyH_ready (rs := [11]) (by kernel_rfl) (by simp) (AllReadyH.cons (o := { dst := some 33, op := Op.call { callee := Callee.value (Operand.func 56), args := #[Operand.tmp 32, Operand.const (Value.string { data := #[115, 112, 111, 111, 108, 47, 110, 101, 119] })], argTypes := #[48, 9] }, type := 128, pos := "spool.go:44", after := #[{ on := 10, ground := Ground.data }, { on := 8, ground := Ground.chain }], guard := none }) rfl (fun K hK => ?_) AllReadyH.nil)
  go_simp
  refine (Hone3.out _).mono ?_
  rintro e wc ⟨rfl, hwc⟩
  have Hwc : Hid (wc = _) := hwc
  clear hwc Hone3
  have fc' : Fresh W1 wc := (by rw [Hwc.out]; repeat (first | assumption | refine Keeps.alloc ?_ _ | refine Keeps.drew ?_))
  refine hK.out _ _ ?_ (fun hHeld => ?_)
  · first | exact hS11 | (exact HS.out _ (by repeat (first | assumption | refine Keeps.alloc ?_ _ | refine Keeps.drew ?_)))
  clear hK K
  try simp only [Act.put, List.setIfInBounds_toArray, List.set_cons_zero, List.set_cons_succ, Array.getInternal_eq_getElem, List.getElem_toArray, List.getElem_cons_zero, List.getElem_cons_succ]
  refine wpAnyH_ready (rs := [18]) (by kernel_rfl) (by simp) (AllReadyH.cons (o := { dst := some 40, op := Op.call { callee := Callee.value (Operand.func 61), args := #[Operand.const (Value.string { data := #[115, 112, 111, 111, 108, 47, 108, 97, 115, 116, 47] }), Operand.tmp 39], argTypes := #[9, 3] }, type := 9, pos := "spool.go:45", after := #[{ on := 17, ground := Ground.data }, { on := 11, ground := Ground.chain }], guard := none }) rfl (fun K hK => ?_) AllReadyH.nil)
  go_simp
  refine (Hn1.out _ (by repeat (first | assumption | refine Keeps.alloc ?_ _ | refine Keeps.drew ?_))).mono ?_
  rintro e W5 ⟨rfl, k5⟩
  clear Hn1
  have f5' : Fresh W1 W5 := fc'.trans k5
  refine hK.out _ _ ?_ (fun hHeld => ?_)
  · first | exact hS11 | (exact HS.out _ (by repeat (first | assumption | refine Keeps.alloc ?_ _ | refine Keeps.drew ?_)))
  clear hK K
  try simp only [Act.put, List.setIfInBounds_toArray, List.set_cons_zero, List.set_cons_succ, Array.getInternal_eq_getElem, List.getElem_toArray, List.getElem_cons_zero, List.getElem_cons_succ]
  refine wpAnyH_ready (rs := [20]) (by kernel_rfl) (by simp) (AllReadyH.cons (o := { dst := some 42, op := Op.call { callee := Callee.value (Operand.func 61), args := #[Operand.const (Value.string { data := #[115, 112, 111, 111, 108, 47, 108, 97, 115, 116, 47] }), Operand.tmp 41], argTypes := #[9, 3] }, type := 9, pos := "spool.go:45", after := #[{ on := 19, ground := Ground.data }, { on := 18, ground := Ground.chain }], guard := none }) rfl (fun K hK => ?_) AllReadyH.nil)
  go_simp
  refine (Hn2.out _ (by repeat (first | assumption | refine Keeps.alloc ?_ _ | refine Keeps.drew ?_))).mono ?_
  rintro e W6 ⟨rfl, k6⟩
  clear Hn2
  have f6' : Fresh W1 W6 := f5'.trans k6
  refine hK.out _ _ ?_ (fun hHeld => ?_)
  · first | exact hS11 | (exact HS.out _ (by repeat (first | assumption | refine Keeps.alloc ?_ _ | refine Keeps.drew ?_)))
  clear hK K
  try simp only [Act.put, List.setIfInBounds_toArray, List.set_cons_zero, List.set_cons_succ, Array.getInternal_eq_getElem, List.getElem_toArray, List.getElem_cons_zero, List.getElem_cons_succ]
  refine wpAnyH_ready (rs := [21]) (by kernel_rfl) (by simp) (AllReadyH.cons (o := { dst := some 43, op := Op.call { callee := Callee.value (Operand.func 57), args := #[Operand.tmp 35, Operand.tmp 40, Operand.tmp 42], argTypes := #[49, 9, 9] }, type := 128, pos := "spool.go:45", after := #[{ on := 13, ground := Ground.data }, { on := 18, ground := Ground.data }, { on := 20, ground := Ground.data }, { on := 20, ground := Ground.chain }], guard := none }) rfl (fun K hK => ?_) AllReadyH.nil)
  go_simp
  refine (Htwo4.out _).mono ?_
  rintro e wd ⟨rfl, hwd⟩
  have Hwd : Hid (wd = _) := hwd
  clear hwd Htwo4
  have fd' : Fresh W1 wd := (by rw [Hwd.out]; repeat (first | assumption | refine Keeps.alloc ?_ _ | refine Keeps.drew ?_))
  refine hK.out _ _ ?_ (fun hHeld => ?_)
  · first | exact hS11 | (exact HS.out _ (by repeat (first | assumption | refine Keeps.alloc ?_ _ | refine Keeps.drew ?_)))
  clear hK K
  try simp only [Act.put, List.setIfInBounds_toArray, List.set_cons_zero, List.set_cons_succ, Array.getInternal_eq_getElem, List.getElem_toArray, List.getElem_cons_zero, List.getElem_cons_succ]
  refine wpAnyH_ready (rs := [25]) (by kernel_rfl) (by simp) (AllReadyH.cons (o := { dst := some 47, op := Op.call { callee := Callee.value (Operand.func 61), args := #[Operand.const (Value.string { data := #[115, 112, 111, 111, 108, 47, 109, 97, 105, 108, 47] }), Operand.tmp 46], argTypes := #[9, 3] }, type := 9, pos := "spool.go:46", after := #[{ on := 24, ground := Ground.data }, { on := 21, ground := Ground.chain }], guard := none }) rfl (fun K hK => ?_) AllReadyH.nil)
  go_simp
  refine (Hn3.out _ (by repeat (first | assumption | refine Keeps.alloc ?_ _ | refine Keeps.drew ?_))).mono ?_
  rintro e W8 ⟨rfl, k8⟩
  clear Hn3
  have f8' : Fresh W1 W8 := fd'.trans k8
  refine hK.out _ _ ?_ (fun hHeld => ?_)
  · first | exact hS11 | (exact HS.out _ (by repeat (first | assumption | refine Keeps.alloc ?_ _ | refine Keeps.drew ?_)))
  clear hK K
  try simp only [Act.put, List.setIfInBounds_toArray, List.set_cons_zero, List.set_cons_succ, Array.getInternal_eq_getElem, List.getElem_toArray, List.getElem_cons_zero, List.getElem_cons_succ]
  refine wpAnyH_ready (rs := [26]) (by kernel_rfl) (by simp) (AllReadyH.cons (o := { dst := some 48, op := Op.call { callee := Callee.value (Operand.func 57), args := #[Operand.tmp 45, Operand.const (Value.string { data := #[115, 112, 111, 111, 108, 47, 110, 101, 119] }), Operand.tmp 47], argTypes := #[49, 9, 9] }, type := 128, pos := "spool.go:46", after := #[{ on := 23, ground := Ground.data }, { on := 25, ground := Ground.data }, { on := 25, ground := Ground.chain }], guard := none }) rfl (fun K hK => ?_) AllReadyH.nil)
  go_simp
  refine (Htwo5.out _).mono ?_
  rintro e we ⟨rfl, hwe⟩
  have Hwe : Hid (we = _) := hwe
  clear hwe Htwo5
  have fe' : Fresh W1 we := (by rw [Hwe.out]; repeat (first | assumption | refine Keeps.alloc ?_ _ | refine Keeps.drew ?_))
  refine hK.out _ _ ?_ (fun hHeld => ?_)
  · first | exact hS11 | (exact HS.out _ (by repeat (first | assumption | refine Keeps.alloc ?_ _ | refine Keeps.drew ?_)))
  clear hK K
  try simp only [Act.put, List.setIfInBounds_toArray, List.set_cons_zero, List.set_cons_succ, Array.getInternal_eq_getElem, List.getElem_toArray, List.getElem_cons_zero, List.getElem_cons_succ]
  refine wpAnyH_ready (rs := [29]) (by kernel_rfl) (by simp) (AllReadyH.cons (o := { dst := some 51, op := Op.buildSlice 124 6 #[(0, Operand.tmp 25), (1, Operand.tmp 30), (2, Operand.tmp 33), (3, Operand.tmp 43), (4, Operand.tmp 48), (5, Operand.tmp 50)], type := 124, pos := "spool.go:41", after := #[{ on := 3, ground := Ground.data }, { on := 8, ground := Ground.data }, { on := 11, ground := Ground.data }, { on := 21, ground := Ground.data }, { on := 26, ground := Ground.data }, { on := 28, ground := Ground.data }], guard := none }) rfl (fun K hK => ?_) AllReadyH.nil)
  go_simp
  refine hK.out _ _ ?_ (fun hHeld => ?_)
  · first | exact hS11 | (exact HS.out _ (by repeat (first | assumption | refine Keeps.alloc ?_ _ | refine Keeps.drew ?_)))
  clear hK K
  try simp only [Act.put, List.setIfInBounds_toArray, List.set_cons_zero, List.set_cons_succ, Array.getInternal_eq_getElem, List.getElem_toArray, List.getElem_cons_zero, List.getElem_cons_succ]
  refine wpAnyH_ready (rs := [30]) (by kernel_rfl) (by simp) (AllReadyH.cons (o := { dst := some 52, op := Op.call { callee := Callee.value (Operand.func 52), args := #[Operand.tmp 22, Operand.tmp 51], argTypes := #[35, 124] }, type := 47, pos := "spool.go:41", after := #[{ on := 0, ground := Ground.data }, { on := 29, ground := Ground.data }, { on := 26, ground := Ground.chain }], guard := none }) rfl (fun K hK => ?_) AllReadyH.nil)
  go_simp
  refine (Hdo.out wa W2 wb wc W6 wd W8 we Hwa.out k2 Hwb.out Hwc.out (k5.trans k6) Hwd.out k8 Hwe.out).mono ?_
  clear Hdo
  rintro e w11 ⟨b', σ', he, hsd, hl11, hsp11, k11⟩
  obtain ⟨kr, hkr⟩ : ∃ kr : Int, kr = (if b' = true then 6 else 0) := ⟨_, rfl⟩
  rw [← hkr] at he
  subst he
  have Hkr : Hid (kr = (if b' = true then 6 else 0)) := hkr
  clear hkr
  have hS11 : (w11.cell? ⟨s, 1, none⟩ = some (.int .i64 lv) ∧ w11.cell? ⟨w0.heap.size, 0, none⟩ = some (.string fa) ∧ w11.cell? ⟨w0.heap.size, 1, none⟩ = some (.string fb) ∧ w11.cell? ⟨w0.heap.size, 2, none⟩ = some (.slice ao l.length cap) ∧ w11.cell? ⟨w0.heap.size, 3, none⟩ = some (.string dd)) := (by
    have hne : ¬ (A w0.heap.size ∨ w0.heap.size = s) := fun e => e.elim hmA (fun e => by have := S0.out.lt; omega)
    exact ⟨(mcells hsp11).2.1, cell_keeps k11 m0 hne, cell_keeps k11 m1 hne, cell_keeps k11 m2 hne, cell_keeps k11 m3 hne⟩)
  refine hK.out _ _ ?_ (fun hHeld => ?_)
  · first | exact hS11 | (exact HS.out _ (by repeat (first | assumption | refine Keeps.alloc ?_ _ | refine Keeps.drew ?_)))
  clear hK K
  try simp only [Act.put, List.setIfInBounds_toArray, List.set_cons_zero, List.set_cons_succ, Array.getInternal_eq_getElem, List.getElem_toArray, List.getElem_cons_zero, List.getElem_cons_succ]
  refine wpAnyH_ready (rs := [31]) (by kernel_rfl) (by simp) (AllReadyH.cons rfl (fun K hK => ?_) AllReadyH.nil)
  go_simp
  refine hK.out _ _ ?_ (fun hHeld => ?_)
  · first | exact hS11 | (exact HS.out _ (by repeat (first | assumption | refine Keeps.alloc ?_ _ | refine Keeps.drew ?_)))
  clear hK K
  try simp only [Act.put, List.setIfInBounds_toArray, List.set_cons_zero, List.set_cons_succ, Array.getInternal_eq_getElem, List.getElem_toArray, List.getElem_cons_zero, List.getElem_cons_succ]
  refine wpAnyH_done (by kernel_rfl) ?_ _
  refine NoPanic.normal ?_
  have hTl : T.size = (mailText fa.data.toList fb.data.toList l dd.data.toList).length := congrArg List.length HTE.out
  have HL11 : Hid (Live w w11 (ext A W1 w11) d K (C + 6) (L + (mailText fa.data.toList fb.data.toList l dd.data.toList).length) σ') := by rw [← hTl]; exact hl11
  have HSD : Hid (sdo (List.map Wr.rel (putWs (mailText fa.data.toList fb.data.toList l dd.data.toList) (lName lv) (lName (lv + 1)) (mName (lv + 1)))) b σ b' σ') := by rw [← HTE.out, ← HL1.out, ← HL2.out, ← HMN.out]; exact hsd
  have HSP : Hid (SpAt w (ext A W1 w11) d L s mw N P lv b' W w11) := (S0.out.fresh km).moved hsp11 k11
  have HK11 : Hid (Keeps (fun i => A i ∨ i = s) w0 w11) := km.ofFresh.trans k11
  have HEX : Hid (∀ i, ext A W1 w11 i → A i ∨ w0.heap.size ≤ i) := fun i hi => hi.elim .inl (fun e => .inr (by have := km.size; have := e.1; omega))
  have h12 := hS11.2.2.2.1
  clear hTl hsd hl11 k11 hS11 HS Hwa Hwb Hwc Hwd Hwe fa' f2' fb' fc' f5' f6' fd' f8' fe' k2 k5 k6 k8 m0 m1 m2 m3 c1
  cases b' with
  | true =>
    have hk6 : kr = 6 := by rw [Hkr.out]; rfl
    subst hk6
    clear Hkr
    go_wp2_with fail
    go_ret2
    exact ⟨true, σ', _, HSD.out, HL11.out, HEX.out, HK11.out.mono (fun i _ e => e.elim .inl (fun e => .inr (.inl e))), .inl ⟨rfl, rfl, HSP.out⟩⟩
  | false =>
    have hk0 : kr = 0 := by rw [Hkr.out]; rfl
    subst hk0
    obtain ⟨hok, hxA, hT, hl2, hlT, hK, hnK, h2K, hmK, hC, hL, hn, hlv0, hlv1, hN, hGW, km, hTs⟩ := Hrest.out
    clear Hkr
    obtain ⟨_, p1, p2, _, _, q1, _, _⟩ := mcells hsp11
    have kset : Keeps (fun k => k = s) w11 (w11.setCell ⟨s, 1, none⟩ (.int .i64 (lv + 1))) := (Keeps.refl (fun k => k = s) w11).setCell (p := ⟨s, 1, none⟩) (fun _ => rfl) _
    have Hset : Hid _ := kset
    have HS12 : Hid (SpAt w (ext A W1 w11) d L s mw N P (lv + 1) false W (w11.setCell ⟨s, 1, none⟩ (.int .i64 (lv + 1)))) := HSP.out.setLast (lv + 1) ⟨by omega, by omega⟩
    have HL12 : Hid (Live w (w11.setCell ⟨s, 1, none⟩ (.int .i64 (lv + 1))) (ext A W1 w11) d K (C + 6) (L + (mailText fa.data.toList fb.data.toList l dd.data.toList).length) σ') := HL11.out.side kset (fun i hi e => HSP.out.nS (e ▸ hi)) (fun i e => e ▸ HSP.out.wS)
    have hsz12 : w11.heap.size = (w11.setCell ⟨s, 1, none⟩ (.int .i64 (lv + 1))).heap.size := by simp
    have Hsz12 : Hid (w11.heap.size = (w11.setCell ⟨s, 1, none⟩ (.int .i64 (lv + 1))).heap.size) := hsz12
    have hsl0 := S0.out.lt
    have h13 := cell_keeps kset h12 (fun e => by omega)
    have HK12 : Hid (Keeps (fun i => A i ∨ i = s) w0 (w11.setCell ⟨s, 1, none⟩ (.int .i64 (lv + 1)))) := HK11.out.then kset (fun i _ e => .inr e)
    clear kset hsz12 hok hxA hT hl2 hlT hK hnK h2K hmK hC hL hGW km hTs
    go_wp2_with fail
    generalize hw12 : w11.setCell ⟨s, 1, none⟩ (.int .i64 (lv + 1)) = w12 at *
    clear hw12 p1 p2 q1 h12 hsp11
    have p2 := (mcells HS12.out.sp).2.2.1
    have hall := all_any ao cap l w12.drew hn Hrest.out.1 (fun j u hj => by
      obtain ⟨g, hg, hc⟩ := HX.out j u hj
      obtain ⟨n1, n2⟩ := Hrest.out.2.1 g hg
      exact ⟨g, hg, cell_keeps HK12.out hc (fun e => e.elim n1 n2)⟩)
    have Hall : Hid _ := hall
    clear hall
    have HP : Hid (∀ (w6 : World), LeftAt w6 w12.heap.size l.length (once l).length (plc (once l)) → Fresh w12 w6 → (w6.cell? ⟨s, 2, none⟩ = some (.map (some mw)) ∧ w6.cell? ⟨w0.heap.size, 2, none⟩ = some (.slice ao l.length cap)) ∧
        ∃ w7, (Instr.mapUpdate 120 (.map (some mw)) (.int .i64 (lv + 1)) (.map (some w12.heap.size))).run Tryz.prog w6 = .ok () w7 ∧ SpAt w (ext A W1 w11) d (L + (mailText fa.data.toList fb.data.toList l dd.data.toList).length) s mw (N + 1) (fun n M => P n M ∨ (n = lv + 1 ∧ M = plc (once l))) (lv + 1) false (putW W (lv + 1) w12.heap.size) w7 ∧ Live w w7 (ext A W1 w11) d K (C + 6) (L + (mailText fa.data.toList fb.data.toList l dd.data.toList).length) σ' ∧ Keeps (fun i => A i ∨ i = s ∨ i = mw) w0 w7 ∧
          w7.cell? ⟨s, 2, none⟩ = some (.map (some mw)) ∧ w7.cell? ⟨w0.heap.size, 2, none⟩ = some (.slice ao l.length cap)) := fun w6 hlf k6 => by
      have S6 := HS12.out.fresh k6
      have c6 := (mcells S6.sp).2.2.1
      have d6 := cell_keeps k6 h13 (fun e => e)
      obtain ⟨w7, hr7, hW7, k7, _⟩ := S6.wt.put (by unfold maxLen; omega) (lv + 1) ⟨by omega, by omega⟩ w12.heap.size
      have hlT := Hrest.out.2.2.2.2.1
      have hw12 : w.heap.size ≤ w12.heap.size := HL12.out.2.2.2.size
      have S7 := S6.putM (L' := L + (mailText fa.data.toList fb.data.toList l dd.data.toList).length) (P' := fun n M => P n M ∨ (n = lv + 1 ∧ M = plc (once l))) (lv + 1) w12.heap.size l.length (once l).length (plc (once l)) hlf hw12 (fun e => Nat.lt_irrefl _ (HL12.out.1 _ e).2) (fun n b' hb' e => by
        obtain ⟨_, _, _, _, _, _, q, _⟩ := HS12.out.lft n b' hb'
        have := q.lt
        omega) (fun e => by have := HS12.out.wt.lt; omega) (by omega) (by omega) (plc_ok (once_nodup l [] List.nodup_nil) (by have := once_len l; omega)) (fun n M h => .inl h) (.inr ⟨rfl, rfl⟩) hW7 k7
      exact ⟨⟨c6, d6⟩, w7, hr7, S7, (HL12.out.fresh k6).side k7 (fun i hi e => HS12.out.nM (e ▸ hi)) (fun i e => e ▸ HS12.out.wM), ((HK12.out.mono (fun i _ e => e.elim .inl (fun e => .inr (.inl e)))).then k6 (fun i _ e => e.elim)).then k7 (fun i _ e => .inr (.inr e)), (mcells S7.sp).2.2.1, cell_keeps k7 d6 (fun e => by omega)⟩
    have Hp2 : Hid _ := p2
    have Hh13 : Hid _ := h13
    refine wp_region_noPanic ?_
    refine wp_region_held_drew (S := fun w' => w'.cell? ⟨s, 2, none⟩ = some (.map (some mw)) ∧ w'.cell? ⟨w0.heap.size, 2, none⟩ = some (.slice ao l.length cap)) (by kernel_rfl) ⟨p2, h13⟩ (fun hHeld => ?_)
    refine wpAnyH_take (i := 0) (oi := { dst := some 60, op := Op.move (Operand.tmp 0), type := 35, pos := "spool.go:53", after := #[], guard := none }) (v := ?u0) rfl (by kernel_rfl) (by kernel_rfl) (by kernel_rfl) (fun _ _ _ h => h) (Or.inl ⟨by rfl, ?iy0⟩) hHeld ?sest0
    case iy0 => intro w hSw; (try dsimp only at hSw); go_simp; (try with_reducible rfl)
    try simp only [Act.put, List.setIfInBounds_toArray, List.set_cons_zero, List.set_cons_succ]
    refine wpAnyH_take (i := 1) (oi := { dst := some 61, op := Op.nilCheck (Operand.tmp 60), type := 0, pos := "spool.go:53", after := #[{ on := 0, ground := Ground.data }], guard := none }) (v := ?u1) rfl (by kernel_rfl) (by kernel_rfl) (by kernel_rfl) (fun _ _ _ h => h) (Or.inl ⟨by rfl, ?iy1⟩) hHeld ?sest1
    case iy1 => intro w hSw; (try dsimp only at hSw); go_simp; (try with_reducible rfl)
    try simp only [Act.put, List.setIfInBounds_toArray, List.set_cons_zero, List.set_cons_succ]
    refine wpAnyH_take (i := 2) (oi := { dst := some 62, op := Op.fieldAddr 122 (Operand.tmp 61) 2, type := 0, pos := "spool.go:53", after := #[{ on := 1, ground := Ground.data }], guard := none }) (v := ?u2) rfl (by kernel_rfl) (by kernel_rfl) (by kernel_rfl) (fun _ _ _ h => h) (Or.inl ⟨by rfl, ?iy2⟩) hHeld ?sest2
    case iy2 => intro w hSw; (try dsimp only at hSw); go_simp; (try with_reducible rfl)
    try simp only [Act.put, List.setIfInBounds_toArray, List.set_cons_zero, List.set_cons_succ]
    refine wpAnyH_take (i := 3) (oi := { dst := some 63, op := Op.load 120 (Operand.tmp 62), type := 120, pos := "spool.go:53", after := #[{ on := 2, ground := Ground.data }], guard := none }) (v := ?u3) rfl (by kernel_rfl) (by kernel_rfl) (by kernel_rfl) (fun _ _ _ h => h) (Or.inl ⟨by rfl, ?iy3⟩) hHeld ?sest3
    case iy3 => intro w hSw; (try dsimp only at hSw); go_simp; (try with_reducible rfl)
    try simp only [Act.put, List.setIfInBounds_toArray, List.set_cons_zero, List.set_cons_succ]
    refine wpAnyH_take (i := 4) (oi := { dst := some 64, op := Op.move (Operand.tmp 7), type := 3, pos := "spool.go:53", after := #[], guard := none }) (v := ?u4) rfl (by kernel_rfl) (by kernel_rfl) (by kernel_rfl) (fun _ _ _ h => h) (Or.inl ⟨by rfl, ?iy4⟩) hHeld ?sest4
    case iy4 => intro w hSw; (try dsimp only at hSw); go_simp; (try with_reducible rfl)
    try simp only [Act.put, List.setIfInBounds_toArray, List.set_cons_zero, List.set_cons_succ]
    refine wpAnyH_take (i := 5) (oi := { dst := some 65, op := Op.fieldAddr 59 (Operand.tmp 3) 1, type := 0, pos := "spool.go:53", after := #[], guard := none }) (v := ?u5) rfl (by kernel_rfl) (by kernel_rfl) (by kernel_rfl) (fun _ _ _ h => h) (Or.inl ⟨by rfl, ?iy5⟩) hHeld ?sest5
    case iy5 => intro w hSw; (try dsimp only at hSw); go_simp; (try with_reducible rfl)
    try simp only [Act.put, List.setIfInBounds_toArray, List.set_cons_zero, List.set_cons_succ]
    refine wpAnyH_take (i := 6) (oi := { dst := some 66, op := Op.load 57 (Operand.tmp 65), type := 57, pos := "spool.go:53", after := #[{ on := 5, ground := Ground.data }], guard := none }) (v := ?u6) rfl (by kernel_rfl) (by kernel_rfl) (by kernel_rfl) (fun _ _ _ h => h) (Or.inl ⟨by rfl, ?iy6⟩) hHeld ?sest6
    case iy6 => intro w hSw; (try dsimp only at hSw); go_simp; (try with_reducible rfl)
    try simp only [Act.put, List.setIfInBounds_toArray, List.set_cons_zero, List.set_cons_succ]
    refine wpAnyH_ready (rs := [7]) (by kernel_rfl) (by simp) (AllReadyH.cons (o := { dst := some 67, op := Op.call { callee := Callee.value (Operand.func 62), args := #[Operand.tmp 66], argTypes := #[57] }, type := 134, pos := "spool.go:53", after := #[{ on := 6, ground := Ground.data }], guard := none }) rfl (fun K hK => ?_) AllReadyH.nil)
    go_simp
    refine Calls.mono Hall.out ?_
    rintro e w6 ⟨rfl, hlf, k6⟩
    obtain ⟨hs6, w7, hr7, HF7⟩ := HP.out w6 hlf ⟨k6.os, k6.tape, k6.output, k6.size, k6.block⟩
    refine hK.out _ _ hs6 (fun hHeld => ?_)
    clear hK K
    try simp only [Act.put, List.setIfInBounds_toArray, List.set_cons_zero, List.set_cons_succ, Array.getInternal_eq_getElem, List.getElem_toArray, List.getElem_cons_zero, List.getElem_cons_succ]
    refine wpAnyH_ready (rs := [8]) (by kernel_rfl) (by simp) (AllReadyH.cons (o := { dst := none, op := Op.mapUpdate 120 (Operand.tmp 63) (Operand.tmp 64) (Operand.tmp 67), type := 0, pos := "spool.go:53", after := #[{ on := 3, ground := Ground.data }, { on := 4, ground := Ground.data }, { on := 7, ground := Ground.data }, { on := 7, ground := Ground.chain }, { on := 0, ground := Ground.phase }, { on := 1, ground := Ground.phase }, { on := 2, ground := Ground.phase }, { on := 3, ground := Ground.phase }, { on := 4, ground := Ground.phase }, { on := 5, ground := Ground.phase }, { on := 6, ground := Ground.phase }, { on := 7, ground := Ground.phase }], guard := none }) rfl (fun K hK => ?_) AllReadyH.nil)
    go_simp
    refine hK.out _ _ ⟨HF7.2.2.2.1, HF7.2.2.2.2⟩ (fun hHeld => ?_)
    clear hK K
    try simp only [Act.put, List.setIfInBounds_toArray, List.set_cons_zero, List.set_cons_succ, Array.getInternal_eq_getElem, List.getElem_toArray, List.getElem_cons_zero, List.getElem_cons_succ]
    refine wpAnyH_done (by kernel_rfl) ?_ _
    refine NoPanic.normal ?_
    have HF8 : Hid _ := HF7
    clear HF7
    go_wp2_with fail
    go_ret2
    obtain ⟨f1, f2, f3, _⟩ := HF8.out
    exact ⟨false, σ', _, HSD.out, f2, HEX.out, f3, .inr ⟨rfl, rfl, _, f1⟩⟩

end
end Go.Proofs.YtegbkpjcjlihmabGreatDoor
