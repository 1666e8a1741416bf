/-
  sweep, Deliver, Clean.
-/
import Derived.Test.YtegbkpjcjlihmabGreatDoorBxd
namespace Go.Proofs.YtegbkpjcjlihmabGreatDoor
open Go.RowKit Go.Maps

theorem owns_new1 (w : World) (base : Nat) (hb : base ≤ w.heap.size) (T : TypeId) (v : Value) : (w.alloc (.cells #[v] T)).ownsRow base T 1 (.slice (some ⟨w.heap.size, 0, none⟩) 1 1) 1 [v] :=
  ⟨rfl, .inr ⟨w.heap.size, 1, #[v], rfl, hb, heap_new _ _, Nat.le_refl _, by unfold maxLen; omega, rfl, rfl⟩⟩

/-- three lists, member by member -/
def AllDo (D : Value → Rel → Nat → Prop) : List Value → List Rel → List Nat → Prop
  | [], [], [] => True
  | v :: vs, R :: Rs, m :: ms => D v R m ∧ AllDo D vs Rs ms
  | _, _, _ => False

theorem AllDo.at {D : Value → Rel → Nat → Prop} : ∀ {vs : List Value} {Rs : List Rel} {ms : List Nat}, AllDo D vs Rs ms → ∀ (i : Nat) v R m, vs[i]? = some v → Rs[i]? = some R → ms[i]? = some m → D v R m
  | [], _, _, _, i, v, R, m, hv, _, _ => by simp at hv
  | v0 :: vs, R0 :: Rs, m0 :: ms, h, 0, v, R, m, hv, hR, hm => by
    simp only [List.getElem?_cons_zero, Option.some.injEq] at hv hR hm
    subst hv hR hm
    exact h.1
  | v0 :: vs, R0 :: Rs, m0 :: ms, h, i + 1, v, R, m, hv, hR, hm => h.2.at i v R m (by simpa using hv) (by simpa using hR) (by simpa using hm)
  | _ :: _, [], _, h, _, _, _, _, _, _, _ => h.elim
  | _ :: _, _ :: _, [], h, _, _, _, _, _, _, _ => h.elim

theorem info92 : (Tryz.prog.info? 92).map (fun i => (i.zero.map (fun z => z.cells.size), i.size, i.bytes)) = some (some 1, 1, 8) := by kernel_rfl
theorem info92' : ∃ i z, Tryz.prog.info? 92 = some i ∧ i.zero = some z ∧ z.cells.size = 1 ∧ i.size = 1 ∧ i.bytes = 8 := by
  obtain ⟨i, hi, h⟩ := Option.map_eq_some_iff.1 info92
  simp only [Prod.mk.injEq] at h
  obtain ⟨z, hz, h1⟩ := Option.map_eq_some_iff.1 h.1
  exact ⟨i, z, hi, hz, h1, h.2.1, h.2.2⟩

theorem grown_box {W W' : World} {v : Value} {base n : Nat} {xs : List Value} {T0 : TypeId} (hg : W.grownBy W' v.ownBlock) (ho : W.ownsRow base T0 1 v n xs) {p : Nat} {cs : Array Value} {T : TypeId} {fr : Nat × Nat} (hp : W.heap[p]? = some (.cells cs T fr)) (hT : T ≠ T0) : W'.heap[p]? = some (.cells cs T fr) := by
  rw [hg.block p (heap_lt hp) (fun e => hT ?_)]
  · exact hp
  · have h1 := owns_tag ho e.symm
    rw [tag_cells hp] at h1
    exact Option.some.inj h1

section
variable {w wr : World} {A : Nat → Prop} {d : Nat} {σ : Dk} {K : List Text} {C L : Nat}

/-- what sweep hands back -/
def Swept (w' : World) (base d : Nat) (σ : Dk) (v : Value) (vals : List Value) : Prop :=
  w'.ownsRow base 92 1 v vals.length vals ∧ ((vals = [] ∧ σ.now freshT = none) ∨ ∃ p, base ≤ p ∧ w'.heap[p]? = some (.cells #[ptr d] 34 (0, 0)) ∧ vals = [.func (.func 102) #[] #[ptr p]] ∧ (σ.now freshT).isSome = true)

set_option maxHeartbeats 2000000 in
theorem sweep_any (h : Live w wr A d K C L σ) :
    Calls Tryz.prog 68 #[ptr d] wr fun e w' => ∃ v vals, e = .returned v ∧ Swept w' wr.heap.size d σ v vals ∧ Live w w' A d K C L σ ∧ Keeps A wr w' := by
  have k0 : Fresh wr (wr.alloc (.cells #[ptr d] 34)) := (Keeps.refl _ wr).alloc _
  have h0 := h.fresh k0
  have hp0 : (wr.alloc (.cells #[ptr d] 34)).heap[wr.heap.size]? = some (.cells #[ptr d] 34 (0, 0)) := heap_new _ _
  have c0 := cell1 hp0
  have hr := h0.read freshB (by unfold maxLen; decide)
  have hA : ¬ A wr.heap.size := fun e => by have := (h.1 _ e).2; omega
  have hs : (σ.read freshB.data.toList).isSome = (σ.now freshT).isSome := by
    show ((σ.now freshT).map σ.cont).isSome = _
    rw [Option.isSome_map]
  rw [hs] at hr
  clear hs h
  generalize ((σ.read freshB.data.toList).getD []).toArray = X at hr
  unfold ptr freshB at *
  go_enter Tryz.func68, Tryz.ntmps68
  go_wp2_with fail
  generalize wr.alloc (.cells #[.pointer (some ⟨d, 0, none⟩)] 34) = w1 at *
  refine hr.mono ?_
  rintro e w2 ⟨rfl, h2, k2, hs2⟩
  clear hs2
  have hp2 := k2.heap hp0 hA
  have kA : Keeps A wr w2 := k0.ofFresh.trans k2
  have H2 : Hid (Live w w2 A d K C L σ) := h2
  clear hr h2 h0 hp0 c0
  cases hn : (σ.now freshT).isSome
  · have HN : Hid (σ.now freshT = none) := Option.not_isSome_iff_eq_none.1 (by rw [hn]; exact Bool.false_ne_true)
    clear hn
    go_wp2
    go_ret
    exact ⟨_, [], rfl, ⟨World.ownsRow_nil _ _ _ _, .inl ⟨rfl, HN.out⟩⟩, H2.out, kA⟩
  · have HN : Hid ((σ.now freshT).isSome = true) := hn
    clear hn
    go_wp2
    go_ret
    have ka : Fresh w2 (w2.alloc (.cells #[.func (.func 102) #[] #[.pointer (some ⟨wr.heap.size, 0, none⟩)]] 92)) := (Keeps.refl _ w2).alloc _
    refine ⟨_, [.func (.func 102) #[] #[.pointer (some ⟨wr.heap.size, 0, none⟩)]], rfl, ⟨owns_new1 w2 _ kA.size 92 _, .inr ⟨wr.heap.size, Nat.le_refl _, ka.heap hp2 (fun e => e), rfl, HN.out⟩⟩, H2.out.fresh ka, kA.trans ka.ofFresh⟩

def createR : Rel := fun σ k σ' => σ.creates freshT k σ'
def appendR (t : Text) : Rel := fun σ k σ' => σ.appends freshT t k σ'
def syncR : Rel := fun σ k σ' => σ.syncs freshT k σ'
def renameR (t : Text) : Rel := fun σ k σ' => σ.renames freshT t k σ'
def removeR : Rel := fun σ k σ' => σ.removes freshT k σ'
def syncDirR : Rel := fun σ k σ' => σ.syncsDir k σ'

def Dk.sweeps (σ : Dk) : List Rel := if (σ.now freshT).isSome = true then [removeR] else []
/-- what Deliver does -/
def Dk.delivers (σ : Dk) (nm data : Text) (e : Int) (σ' : Dk) : Prop :=
  runs (if (σ.now nm).isSome = true then [syncDirR] else σ.sweeps ++ [createR, appendR data, syncR, renameR nm, syncDirR]) σ e σ'

theorem Live.grown {W W' : World} {v : Value} {n b0 : Nat} {xs : List Value} {T : TypeId} (h : Live w W A d K C L σ) (ho : W.ownsRow b0 T 1 v n xs) (hg : W.grownBy W' v.ownBlock) (hA : ∀ i, A i → i < b0) (hw : w.heap.size ≤ b0) : Live w W' A d K C L σ ∧ Keeps (fun i => b0 ≤ i) W W' := by
  have hb : ∀ i, v.ownBlock = some i → b0 ≤ i := fun i hi => (ho.lt i hi).1
  have k : Keeps (fun i => b0 ≤ i) W W' := (Keeps.refl _ W).grown hg (fun i hi _ => hb i hi)
  exact ⟨h.side k (fun i hi e => by have := hA i hi; omega) (fun i e => by omega), k⟩

theorem deliver_end {w5 : World} {D : Nat} (h5 : Live w w5 A d K C L σ) (hA : ∀ i, A i → i < wr.heap.size) (hw : w.heap.size ≤ wr.heap.size) (K5 : Keeps A wr w5) (v : Value) (vals : List Value) (Rs : List Rel) (ms : List Nat) (ho : w5.ownsRow wr.heap.size 92 1 v vals.length vals)
    (hl1 : Rs.length = vals.length) (hl2 : ms.length = vals.length) (hdo : ∀ (i : Nat) v R m, vals[i]? = some v → Rs[i]? = some R → ms[i]? = some m → Does w d K (fun k => wr.heap.size ≤ k ∧ k < w5.heap.size) w5 v R m)
    (hn : vals.length ≤ 6) (hC : C + 6 ≤ 1099511627776) (hD : ms.sum ≤ D) (hL : L + D ≤ 1099511627776) :
    Calls Tryz.prog 73 #[v] w5 fun e w' => ∃ k σ', e = .returned (.int .i64 k) ∧ runs Rs σ k σ' ∧ Live w w' (ext A wr w') d K (C + 6) (L + D) σ' ∧ Keeps A wr w' := by
  refine (steps_any h5 (B := fun k => wr.heap.size ≤ k ∧ k < w5.heap.size) (fun k hk => ⟨fun e => by have := hA k e; omega, hk.2⟩) wr.heap.size v vals Rs ms ho (fun k hk => ⟨(ho.lt k hk).1, (ho.lt k hk).2⟩) hl1 hl2 hdo (by omega) (by omega)).mono ?_
  rintro e w' ⟨k, σ', rfl, h1, h2, h3⟩
  have s1 := K5.size
  have s2 := h3.size
  refine ⟨k, σ', rfl, h1, (h2.mono (by omega) (by omega)).grow (fun i hi => ?_) (fun i hi => ?_), K5.trans h3⟩
  · rcases hi with hi | hi
    · exact .inl hi
    · exact .inr ⟨by omega, hi.2⟩
  · rcases hi with hi | hi
    · exact ⟨(h5.1 i hi).1, by have := (h5.1 i hi).2; omega⟩
    · exact ⟨by omega, hi.2⟩

set_option maxHeartbeats 4000000 in
theorem deliver_any (h : Live w wr A d K C L σ) (hG : Gl w) (hK : K.length ≤ 1099511627776) (u k data : ByteArray) (hu : u.size ≤ 1048576) (hk : k.size ≤ 1048576) (hd : data.size ≤ 1099511627776)
    (hf : freshT ∈ K) (hn : nameOf u.data.toList k.data.toList ∈ K) (hC : C + 6 ≤ 1099511627776) (hL : L + data.size ≤ 1099511627776) :
    Calls Tryz.prog 27 #[ptr d, .string u, .string k, .string data] wr fun e w' => ∃ k' σ', e = .returned (.int .i64 k') ∧ σ.delivers (nameOf u.data.toList k.data.toList) data.data.toList k' σ' ∧ Live w w' (ext A wr w') d K (C + 6) (L + data.size) σ' ∧ Keeps A wr w' := by
  have k0 : Fresh wr (wr.alloc (.cells #[ptr d] 34)) := (Keeps.refl _ wr).alloc _
  have k1 : Fresh (wr.alloc (.cells #[ptr d] 34)) ((wr.alloc (.cells #[ptr d] 34)).alloc (.cells #[.string data] 9)) := (Keeps.refl _ _).alloc _
  have hp : ((wr.alloc (.cells #[ptr d] 34)).alloc (.cells #[.string data] 9)).heap[wr.heap.size]? = some (.cells #[ptr d] 34 (0, 0)) := k1.heap (heap_new _ _) (fun e => e)
  have hq : ((wr.alloc (.cells #[ptr d] 34)).alloc (.cells #[.string data] 9)).heap[wr.heap.size + 1]? = some (.cells #[.string data] 9 (0, 0)) := by
    have := heap_new (wr.alloc (.cells #[ptr d] 34)) (.cells #[.string data] 9)
    have e : (wr.alloc (.cells #[ptr d] 34)).heap.size = wr.heap.size + 1 := by simp
    rwa [e] at this
  have k01 := k0.trans k1
  have h1 := h.fresh k01
  have Hw : Hid (∀ i, A i → i < wr.heap.size) := fun i hi => (h.1 i hi).2
  have Hw0 : Hid (w.heap.size ≤ wr.heap.size) := h.2.2.2.size
  obtain ⟨nm, hnm⟩ : ∃ nm, nm = nameB u k := ⟨_, rfl⟩
  have Hnm : Hid (nm.data.toList = nameOf u.data.toList k.data.toList) := by rw [hnm]; rfl
  have hns : nm.size ≤ maxLen := by
    have := nameOf_len u.data.toList k.data.toList (by have : u.data.toList.length = u.size := rfl; omega)
    rw [hnm]
    show (nameOf u.data.toList k.data.toList).length ≤ maxLen
    have : u.data.toList.length = u.size := rfl
    have : k.data.toList.length = k.size := rfl
    unfold maxLen
    omega
  have hname := name_any u k ((wr.alloc (.cells #[ptr d] 34)).alloc (.cells #[.string data] 9)) (hG.fresh h1.2.2.2) (by omega) (by omega)
  rw [← hnm] at hname
  rw [← Hnm.out] at hn
  obtain ⟨i0, z0, hi, hz0, hz1, hz2, hz3⟩ := info92'
  clear h k0 k1 hnm
  have Hs : Hid (wr.heap.size + 2 ≤ ((wr.alloc (.cells #[ptr d] 34)).alloc (.cells #[.string data] 9)).heap.size) := by
    show _ ≤ _
    simp
  unfold ptr at *
  go_enter Tryz.func27, Tryz.ntmps27
  go_wp2_with fail
  generalize (wr.alloc (.cells #[.pointer (some ⟨d, 0, none⟩)] 34)).alloc (.cells #[.string data] 9) = w1 at *
  refine hname.mono ?_
  rintro e w2 ⟨rfl, k2⟩
  have k3 : Fresh w2 (w2.alloc (.cells #[.string nm] 9)) := (Keeps.refl _ _).alloc _
  have hp3 := (k2.trans k3).heap hp (fun e => e)
  have hq3 := (k2.trans k3).heap hq (fun e => e)
  have hr3 : (w2.alloc (.cells #[.string nm] 9)).heap[w2.heap.size]? = some (.cells #[.string nm] 9 (0, 0)) := heap_new _ _
  have cp3 := cell1 hp3
  have cr3 := cell1 hr3
  have h3 := h1.fresh (k2.trans k3)
  have hread := h3.read nm hns
  have hs : (σ.read nm.data.toList).isSome = (σ.now (nameOf u.data.toList k.data.toList)).isSome := by
    show ((σ.now nm.data.toList).map σ.cont).isSome = _
    rw [Option.isSome_map, Hnm.out]
  rw [hs] at hread
  generalize ((σ.read nm.data.toList).getD []).toArray = X at hread
  have K3 : Fresh wr (w2.alloc (.cells #[.string nm] 9)) := k01.trans (k2.trans k3)
  have hlt2 : wr.heap.size ≤ w2.heap.size := (k01.trans k2).size
  clear hname hp hq h1 k01 h3 hs k2 k3
  unfold ptr at *
  go_wp2_with fail
  generalize w2.alloc (.cells #[.string nm] 9) = w3 at *
  refine hread.mono ?_
  rintro e w4 ⟨rfl, h4, k4, hs4⟩
  clear hs4 hread cp3 cr3
  have hA : ∀ i, wr.heap.size ≤ i → ¬ A i := fun i hi e => by have := Hw.out i e; omega
  have hp4 := k4.heap hp3 (hA _ (Nat.le_refl _))
  have hq4 := k4.heap hq3 (hA _ (by omega))
  have hr4 := k4.heap hr3 (hA _ hlt2)
  have K4 : Keeps A wr w4 := K3.ofFresh.trans k4
  have cp4 := cell1 hp4
  clear hp3 hq3 hr3 k4
  cases hn' : (σ.now (nameOf u.data.toList k.data.toList)).isSome
  · have hsw := sweep_any h4
    have HN0 : Hid ((σ.now (nameOf u.data.toList k.data.toList)).isSome = false) := hn'
    clear hn' h4
    unfold ptr at *
    go_wp2_with fail
    refine hsw.mono ?_
    rintro e w5 ⟨l, vals, rfl, ⟨ho5, hv5⟩, h5, k5⟩
    have hp5 := k5.heap hp4 (hA _ (Nat.le_refl _))
    have hq5 := k5.heap hq4 (hA _ (by omega))
    have hr5 := k5.heap hr4 (hA _ hlt2)
    have ho5' : w5.ownsRow wr.heap.size 92 1 l vals.length vals := owns_base ho5 (fun k hk => Nat.le_trans K4.size (ho5.lt k hk).1)
    have hvl : vals.length ≤ 1 := by
      rcases hv5 with ⟨rfl, _⟩ | ⟨p, _, _, rfl, _⟩ <;> simp
    have K5 : Keeps A wr w5 := K4.trans k5
    have H5 : Hid (Live w w5 A d K C L σ) := h5
    have HV : Hid ((vals = [] ∧ σ.now freshT = none) ∨ ∃ p, w4.heap.size ≤ p ∧ w5.heap[p]? = some (.cells #[ptr d] 34 (0, 0)) ∧ vals = [.func (.func 102) #[] #[ptr p]] ∧ (σ.now freshT).isSome = true) := hv5
    have HK5 : Hid (Keeps A wr w5) := K5
    have z5 : wr.heap.size ≤ w5.heap.size := K5.size
    obtain ⟨g4, hg4⟩ : ∃ g4, g4 = [Value.func (.func 69) #[] #[.pointer (some ⟨wr.heap.size, 0, none⟩)], .func (.func 70) #[] #[.pointer (some ⟨wr.heap.size, 0, none⟩), .pointer (some ⟨wr.heap.size + 1, 0, none⟩)], .func (.func 71) #[] #[.pointer (some ⟨wr.heap.size, 0, none⟩)], .func (.func 72) #[] #[.pointer (some ⟨wr.heap.size, 0, none⟩), .pointer (some ⟨w2.heap.size, 0, none⟩)]] := ⟨_, rfl⟩
    have cp5 := cell1 hp5
    have Hz4 : Hid (w4.heap.size ≤ w5.heap.size ∧ wr.heap.size ≤ w4.heap.size) := ⟨k5.size, K4.size⟩
    clear hsw hp4 hq4 hr4 cp4 ho5 h5 hv5 k5 K4 K5
    go_wp2_with (at_builtin; refine wpList_append_placed _ rfl _ _ 140 rfl wr.heap.size 92 i0 z0 1 8 Tryz.underlying140 hi hz0 hz2 hz3 hz1 (by decide) _ _ _ rfl (ho5'.alloc _) ⟨w5.heap.size, 0, none⟩ 4 4 g4 rfl (by rw [hg4]; rfl) ?c1 ?c2 ?c3 ?c4 ?c5 ?_)
    case c1 =>
      intro j u hj
      rw [hg4] at hj
      match j, hj with
      | 0, hj => simp at hj; subst hj; simp [Addr.add]
      | 1, hj => simp at hj; subst hj; simp [Addr.add]
      | 2, hj => simp at hj; subst hj; simp [Addr.add]
      | 3, hj => simp at hj; subst hj; simp [Addr.add]
    case c2 =>
      intro u hu
      rw [hg4] at hu
      simp at hu
      rcases hu with rfl | rfl | rfl | rfl <;> rfl
    case c3 => unfold maxLen; omega
    case c4 => omega
    case c5 => simp; omega
    intro v6 w6 ho6 hg6 hpl6
    clear hpl6
    have hal5 := ho5'.alloc (.cells g4.toArray 92)
    rw [hg4] at hal5
    have ka5 : Fresh w5 (w5.alloc (.cells g4.toArray 92)) := (Keeps.refl _ w5).alloc _
    rw [hg4] at ka5
    obtain ⟨h6, k6⟩ := (H5.out.fresh ka5).grown hal5 hg6 Hw.out Hw0.out
    have K6 : Keeps A wr w6 := (HK5.out.trans ka5.ofFresh).then k6 (fun i hi e => by omega)
    have hp6 := grown_box hg6 hal5 (ka5.heap hp5 (fun e => e)) (by decide)
    have hq6 := grown_box hg6 hal5 (ka5.heap hq5 (fun e => e)) (by decide)
    have hr6 := grown_box hg6 hal5 (ka5.heap hr5 (fun e => e)) (by decide)
    have HB6 : Hid (∀ p : Nat, w5.heap[p]? = some (Obj.cells #[ptr d] 34 (0, 0)) → w6.heap[p]? = some (Obj.cells #[ptr d] 34 (0, 0))) := fun p hp => grown_box hg6 hal5 (ka5.heap hp (fun e => e)) (by decide)
    have cp6 := cell1 hp6
    have H6 : Hid (Live w w6 A d K C L σ) := h6
    have HK6 : Hid (Keeps A wr w6) := K6
    have z6 : wr.heap.size ≤ w6.heap.size := K6.size
    have Hz6 : Hid (w5.heap.size ≤ w6.heap.size) := Nat.le_trans ka5.size k6.size
    clear hal5 ka5 h6 k6 K6 hp5 hq5 hr5 hg6 cp5 ho5'
    have e6 : (vals ++ g4).length = vals.length + 4 := by simp [hg4]
    go_wp2_with (at_builtin; refine wpList_append_placed _ rfl _ _ 140 rfl wr.heap.size 92 i0 z0 1 8 Tryz.underlying140 hi hz0 hz2 hz3 hz1 (by decide) _ _ _ rfl (ho6.alloc _) ⟨w6.heap.size, 0, none⟩ 1 1 [.func (.func 36) #[.pointer (some ⟨d, 0, none⟩)] #[]] rfl rfl ?d1 ?d2 ?d3 ?d4 ?d5 ?_)
    case d1 =>
      intro j u hj
      match j, hj with
      | 0, hj => simp at hj; subst hj; simp [Addr.add]
    case d2 => intro u hu; simp at hu; subst hu; rfl
    case d3 => unfold maxLen; omega
    case d4 => omega
    case d5 => simp; omega
    intro v7 w7 ho7 hg7 hpl7
    clear hpl7
    have ka6 : Fresh w6 (w6.alloc (.cells #[.func (.func 36) #[.pointer (some ⟨d, 0, none⟩)] #[]] 92)) := (Keeps.refl _ w6).alloc _
    obtain ⟨h7, k7⟩ := (H6.out.fresh ka6).grown (ho6.alloc _) hg7 Hw.out Hw0.out
    have K7 : Keeps A wr w7 := (HK6.out.trans ka6.ofFresh).then k7 (fun i hi e => by omega)
    have hp7 := grown_box hg7 (ho6.alloc _) (ka6.heap hp6 (fun e => e)) (by decide)
    have hq7 := grown_box hg7 (ho6.alloc _) (ka6.heap hq6 (fun e => e)) (by decide)
    have hr7 := grown_box hg7 (ho6.alloc _) (ka6.heap hr6 (fun e => e)) (by decide)
    have s7 : w6.heap.size ≤ w7.heap.size := Nat.le_trans ka6.size k7.size
    have sz := Hz6.out
    have sq := Hz4.out
    have bp : wr.heap.size ≤ wr.heap.size ∧ wr.heap.size < w7.heap.size := ⟨Nat.le_refl _, heap_lt hp7⟩
    have bq : wr.heap.size ≤ wr.heap.size + 1 ∧ wr.heap.size + 1 < w7.heap.size := ⟨by omega, heap_lt hq7⟩
    have br : wr.heap.size ≤ w2.heap.size ∧ w2.heap.size < w7.heap.size := ⟨hlt2, heap_lt hr7⟩
    have e7 : vals.length + 4 + 1 = ((vals ++ g4) ++ [Value.func (.func 36) #[.pointer (some ⟨d, 0, none⟩)] #[]]).length := by simp [hg4]
    rw [e7] at ho7
    have hend : Calls Tryz.prog 73 #[v7] w7 fun e w' => ∃ k' σ', e = .returned (.int .i64 k') ∧ σ.delivers (nameOf u.data.toList k.data.toList) data.data.toList k' σ' ∧ Live w w' (ext A wr w') d K (C + 6) (L + data.size) σ' ∧ Keeps A wr w' := by
      have t1 : Does w d K (fun k => wr.heap.size ≤ k ∧ k < w7.heap.size) w7 (.func (.func 69) #[] #[ptr wr.heap.size]) createR 0 := does_create hp7 bp hK hf
      have t2 : Does w d K (fun k => wr.heap.size ≤ k ∧ k < w7.heap.size) w7 (.func (.func 70) #[] #[ptr wr.heap.size, ptr (wr.heap.size + 1)]) (appendR data.data.toList) data.size := does_append hp7 bp hq7 bq hd
      have t3 : Does w d K (fun k => wr.heap.size ≤ k ∧ k < w7.heap.size) w7 (.func (.func 71) #[] #[ptr wr.heap.size]) syncR 0 := does_sync hp7 bp
      have t4 : Does w d K (fun k => wr.heap.size ≤ k ∧ k < w7.heap.size) w7 (.func (.func 72) #[] #[ptr wr.heap.size, ptr w2.heap.size]) (renameR (nameOf u.data.toList k.data.toList)) 0 := by
        rw [← Hnm.out]
        exact does_rename hp7 bp hr7 br hns hK hn
      have t5 : Does w d K (fun k => wr.heap.size ≤ k ∧ k < w7.heap.size) w7 (.func (.func 36) #[ptr d] #[]) syncDirR 0 := does_syncDir hK
      have hnn : ¬ (σ.now (nameOf u.data.toList k.data.toList)).isSome = true := by rw [HN0.out]; exact Bool.false_ne_true
      rcases HV.out with ⟨hv, hnow⟩ | ⟨p, hp0, hpb, hv, hnow⟩
      · have hds : σ.delivers (nameOf u.data.toList k.data.toList) data.data.toList = runs [createR, appendR data.data.toList, syncR, renameR (nameOf u.data.toList k.data.toList), syncDirR] σ := by
          funext e σ'
          unfold Dk.delivers Dk.sweeps
          rw [if_neg hnn, hnow]
          rfl
        rw [hds]
        rw [hv, hg4] at ho7
        exact deliver_end h7 Hw.out Hw0.out K7 v7 _ _ [0, data.size, 0, 0, 0] ho7 rfl rfl (AllDo.at (D := Does w d K (fun k => wr.heap.size ≤ k ∧ k < w7.heap.size) w7) ⟨t1, t2, t3, t4, t5, trivial⟩) (by simp) hC (by simp) hL
      · have hds : σ.delivers (nameOf u.data.toList k.data.toList) data.data.toList = runs [removeR, createR, appendR data.data.toList, syncR, renameR (nameOf u.data.toList k.data.toList), syncDirR] σ := by
          funext e σ'
          unfold Dk.delivers Dk.sweeps
          rw [if_neg hnn, if_pos hnow]
          rfl
        have hpb7 := grown_box hg7 (ho6.alloc _) (ka6.heap (HB6.out p hpb) (fun e => e)) (by decide)
        have bpb : wr.heap.size ≤ p ∧ p < w7.heap.size := ⟨by omega, heap_lt hpb7⟩
        have t0 : Does w d K (fun k => wr.heap.size ≤ k ∧ k < w7.heap.size) w7 (.func (.func 102) #[] #[ptr p]) removeR 0 := does_remove hpb7 bpb hK
        rw [hds]
        rw [hv, hg4] at ho7
        exact deliver_end h7 Hw.out Hw0.out K7 v7 _ _ [0, 0, data.size, 0, 0, 0] ho7 rfl rfl (AllDo.at (D := Does w d K (fun k => wr.heap.size ≤ k ∧ k < w7.heap.size) w7) ⟨t0, t1, t2, t3, t4, t5, trivial⟩) (by simp) hC (by simp) hL
    clear ka6 h7 k7 K7 hp7 hq7 hr7 bp bq br ho7 hg7 hp6 hq6 hr6 ho6 e6 e7 HB6 HV s7 sz sq
    try unfold ptr at *
    go_wp2_with fail
    refine hend.mono ?_
    rintro e w8 ⟨k', σ', rfl, r1, r2, r3⟩
    go_wp2_with fail
    go_ret
    exact ⟨k', σ', rfl, r1, r2, r3⟩
  · have HN : Hid (σ.delivers (nameOf u.data.toList k.data.toList) data.data.toList = runs [syncDirR] σ) := by
      show σ.delivers _ _ = _
      funext e σ'
      unfold Dk.delivers
      rw [if_pos hn']
    clear hn'
    have ho4 : w4.ownsRow wr.heap.size 92 1 (.slice none 0 0) 0 [] := World.ownsRow_nil _ _ _ _
    have H4 : Hid (Live w w4 A d K C L σ) := h4
    have HK4 : Hid (Keeps A wr w4) := K4
    have z4 : wr.heap.size ≤ w4.heap.size := K4.size
    clear h4 K4
    go_wp2_with (at_builtin; refine wpList_append_placed _ rfl _ _ 140 rfl wr.heap.size 92 i0 z0 1 8 Tryz.underlying140 hi hz0 hz2 hz3 hz1 (by decide) _ _ _ rfl (ho4.alloc _) ⟨w4.heap.size, 0, none⟩ 1 1 [.func (.func 36) #[.pointer (some ⟨d, 0, none⟩)] #[]] rfl rfl ?c1 ?c2 ?c3 ?c4 ?c5 ?_)
    case c1 =>
      intro j u hj
      match j, hj with
      | 0, hj => simp at hj; subst hj; simp [Addr.add]
    case c2 => intro u hu; simp at hu; subst hu; rfl
    case c3 => unfold maxLen; omega
    case c4 => omega
    case c5 => simp; omega
    intro v5 w5 ho5 hg5 hpl
    clear hpl
    have kal : Fresh w4 (w4.alloc (.cells #[.func (.func 36) #[.pointer (some ⟨d, 0, none⟩)] #[]] 92)) := (Keeps.refl _ w4).alloc _
    obtain ⟨h5, k5⟩ := (H4.out.fresh kal).grown (ho4.alloc _) hg5 Hw.out Hw0.out
    have K5 : Keeps A wr w5 := (HK4.out.trans kal.ofFresh).then k5 (fun i hi e => by omega)
    have hend := deliver_end h5 Hw.out Hw0.out K5 v5 [.func (.func 36) #[ptr d] #[]] [syncDirR] [0] ho5 rfl rfl (fun i v R m hv hR hm => by
      match i, hv, hR, hm with
      | 0, hv, hR, hm =>
        simp only [List.getElem?_cons_zero, Option.some.injEq] at hv hR hm
        subst hv hR hm
        exact does_syncDir hK
      | i + 1, hv, _, _ => simp at hv) (by simp) hC (Nat.zero_le data.size) hL
    rw [← HN.out] at hend
    clear kal h5 k5 K5 ho5 hg5 ho4
    try unfold ptr at *
    go_wp2_with fail
    refine hend.mono ?_
    rintro e w6 ⟨k', σ', rfl, r1, r2, r3⟩
    go_wp2_with fail
    go_ret
    exact ⟨k', σ', rfl, r1, r2, r3⟩

end
end Go.Proofs.YtegbkpjcjlihmabGreatDoor
