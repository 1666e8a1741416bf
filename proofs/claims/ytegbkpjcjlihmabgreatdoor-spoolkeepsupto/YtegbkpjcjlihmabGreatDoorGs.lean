/-
  The law's own alive: a plain box. | The player of boxes: deliver.
-/
import Derived.Test.YtegbkpjcjlihmabGreatDoorGj
import Derived.BigQuiet
import Derived.Deep.QuietTactic
import Derived.Test.YtegbkpjcjlihmabGreatDoorGr
namespace Go.Proofs.YtegbkpjcjlihmabGreatDoor
open Go.RowKit Go.Maps

theorem num_any (k : Int) (w : World) : Calls Tryz.prog 29 #[.int .i64 k] w fun e w' => e = .returned (.int .i64 k) ∧ w' = w := by
  go_enter Tryz.func29, Tryz.ntmps29
  go_wp2
  go_ret
  exact ⟨rfl, rfl⟩

def annB : ByteArray := ⟨#[97, 110, 110]⟩
def oneB : ByteArray := ⟨#[49]⟩
def helloB : ByteArray := ⟨#[104, 101, 108, 108, 111]⟩
def againB : ByteArray := ⟨#[97, 103, 97, 105, 110]⟩
def annN : Text := nameOf annB.data.toList oneB.data.toList
def annK : List Text := [freshT, annN]
def annLt (s : Text) : Prop := s = annN
def annD (_ : Text) : Text := helloB.data.toList

theorem annN_let : letterOf annN = some (annB.data.toList, oneB.data.toList) := letterOf_nameOf _ _ (by decide)
theorem annN_ne : annN ≠ freshT := nameOf_ne_fresh _ _ (by decide)
theorem annLt_fresh : ¬ annLt freshT := fun e => annN_ne e.symm
theorem annN_len : annN.length ≤ 100 := by
  have := nameOf_len annB.data.toList oneB.data.toList (by decide)
  have e1 : annB.data.toList.length = 3 := rfl
  have e2 : oneB.data.toList.length = 1 := rfl
  unfold annN
  omega
theorem annK_len : ∀ s ∈ annK, s.length < 4294967281 := by
  intro s hs
  simp only [annK, List.mem_cons, List.mem_nil_iff, or_false] at hs
  rcases hs with rfl | rfl
  · decide
  · have := annN_len; omega
theorem annK_only {ks : List Text} (h : ∀ s ∈ ks, s ∈ annK) : ∀ s ∈ ks, ∀ x, letterOf s = some x → s = annN := fun s hs x hl => by
  have := h s hs
  simp only [annK, List.mem_cons, List.mem_nil_iff, or_false] at this
  rcases this with rfl | rfl
  · rw [letterOf_fresh] at hl; cases hl
  · rfl

/-- one letter, told -/
theorem row_one {w : World} {base : Nat} {v : Value} {x : Ltr} (h : RowT w base v [x]) : ∃ g cap, v = .slice (some ⟨g, 0, none⟩) 1 cap ∧ w.cell? ⟨g, 0, none⟩ = some (.string ⟨x.1.toArray⟩) ∧ w.cell? ⟨g, 1, none⟩ = some (.string ⟨x.2.toArray⟩) ∧ base ≤ g := by
  unfold RowT at h
  obtain ⟨ao, cap, rfl, _, _, hao⟩ := own_form h
  obtain ⟨g, rfl⟩ := hao (by simp)
  exact ⟨g, cap, rfl, own_cell h 0 _ rfl, own_cell h 1 _ rfl, (h.lt g rfl).1⟩

theorem row9_one {w : World} {base : Nat} {v : Value} {x : Text} (h : Row9 w base v [x]) : ∃ g cap, v = .slice (some ⟨g, 0, none⟩) 1 cap ∧ w.cell? ⟨g, 0, none⟩ = some (.string ⟨x.toArray⟩) ∧ base ≤ g := by
  unfold Row9 at h
  obtain ⟨ao, cap, rfl, _, _, hao⟩ := own_form h
  obtain ⟨g, rfl⟩ := hao (by simp)
  exact ⟨g, cap, rfl, own_cell h 0 _ rfl, (h.lt g rfl).1⟩

set_option maxHeartbeats 4000000 in
set_option maxRecDepth 100000 in
theorem boxAlive_any (w wr : World) (hF : Fresh w wr) (hG : Gl w) : Calls Tryz.prog 26 #[] wr fun e w' => e = .returned (.bool true) ∧ Fresh w w' := by
  have hKl : annK.length ≤ 1099511627776 := by decide
  have n0 := new_live annK w wr hF
  go_enter Tryz.func26, Tryz.ntmps26
  go_wp2_with fail
  refine n0.mono ?_
  rintro e w1 ⟨d, rfl, l1, _⟩
  have c1 := deliver_any l1 hG hKl annB oneB helloB (by decide) (by decide) (by decide) (by simp [annK]) (by simp [annK, annN]) (by decide) (by decide)
  have b0 : Boxed annLt annD Dk.empty := Boxed.empty _ _
  have f0 := l1.2.2.1
  have P1 : Hid (∀ k σ', Dk.empty.delivers (nameOf annB.data.toList oneB.data.toList) helloB.data.toList k σ' → k = 0 ∧ Boxed annLt annD σ' ∧ σ'.left = none ∧ (σ'.now annN).isSome = true) := fun k σ' h => by
    obtain ⟨I, lf⟩ := deliver_plain b0 f0 (by simp [annK]) (by simp [annK]) annLt_fresh annN_ne (fun _ => rfl) h
    rcases lf with ⟨_, h1⟩ | ⟨h1, h2, _⟩
    · exact absurd rfl h1
    · exact ⟨h1, I.boxed, I.left rfl, h2⟩
  clear n0 b0 f0 l1
  unfold ptr annB oneB helloB at *
  go_wp2_with fail
  refine c1.mono ?_
  rintro e w2 ⟨k1, σ1, rfl, d1, l2, _⟩
  obtain ⟨rfl, b1, lf1, n1⟩ := P1.out k1 σ1 d1
  have c2 := deliver_any l2 hG hKl annB oneB againB (by decide) (by decide) (by decide) (by simp [annK]) (by simp [annK, annN]) (by decide) (by decide)
  have f1 := l2.2.2.1
  have P2 : Hid (∀ k σ', σ1.delivers (nameOf annB.data.toList oneB.data.toList) againB.data.toList k σ' → k = 0 ∧ Boxed annLt annD σ' ∧ Stays σ' annN) := fun k σ' h => by
    obtain ⟨I, lf⟩ := deliver_plain b1 f1 (by simp [annK]) (by simp [annK]) annLt_fresh annN_ne (fun e => by rw [n1] at e; cases e) h
    rcases lf with ⟨_, h1⟩ | ⟨h1, _, h3⟩
    · exact absurd lf1 h1
    · exact ⟨h1, I.boxed, h3⟩
  clear c1 d1 l2 f1 P1 b1 lf1 n1
  unfold ptr annB oneB againB at *
  go_wp2_with fail
  refine c2.mono ?_
  rintro e w3 ⟨k2, σ2, rfl, d2, l3, _⟩
  obtain ⟨rfl, b2, s2⟩ := P2.out k2 σ2 d2
  have c3 := l3.crash hKl (by decide) (by decide) 0 (.slice none 0 0) [] ⟨none, 0, rfl, by omega, Nat.le_refl _, fun e => absurd rfl e⟩
  have f2 := l3.2.2.1
  have B2 : Hid (Boxed annLt annD σ2) := b2
  have S2 : Hid (Stays σ2 annN) := s2
  have F2 : Hid (Fits annK _ _ σ2) := f2
  clear c2 d2 l3 P2 b2 s2 f2
  unfold ptr at *
  go_wp2_with fail
  refine c3.mono ?_
  rintro e w4 ⟨ks, rfl, hks, l4, _⟩
  generalize hσ : σ2.crashed (min (Int.toNat 0) σ2.chs.length) ks [] = σ3 at *
  have b3 : Boxed annLt annD σ3 := by rw [← hσ]; exact B2.out.crashed F2.out _ _ _
  have s3 : Stays σ3 annN := by rw [← hσ]; exact S2.out.crashed _ _ _
  have f3 := l4.2.2.1
  have n3 : (σ3.now annN).isSome = true := s3.now f3
  have r3 : (σ3.read annN).getD [] = helloB.data.toList := read_boxed b3 f3 rfl n3
  have k3 : ∀ s, (σ3.now s).isSome = true → s ∈ annK := f3.nowK
  clear c3 hks B2 S2 F2 hσ b3 s3 f3
  have c4 := told_any l4 hG hKl annK_len annB
  have P4 : Hid (∀ ks, Sorted σ3.now ks → toldOf σ3 annB.data.toList (sortL (ks.filterMap letterOf)) = [(oneB.data.toList, helloB.data.toList)]) := fun ks hs => by
    rw [told_one annN_let rfl hs (fun s h k' hl => annK_only (fun s h => k3 s ((hs.mem s).1 h)) s h _ hl), if_pos n3, r3]
  have P5 : Hid (∀ ks, Sorted σ3.now ks → Lib.compact ((sortL (ks.filterMap letterOf)).map (·.1)) = [annB.data.toList]) := fun ks hs =>
    users_one annN_let hs ((hs.mem _).2 n3) (annK_only (fun s h => k3 s ((hs.mem s).1 h)))
  clear n3 r3 k3 l4
  unfold ptr annB at *
  go_wp2_with fail
  refine c4.mono ?_
  rintro e w5 ⟨v, ks4, rfl, hs4, hr4, l5, _⟩
  have hr4 : RowT w5 w4.heap.size v [(oneB.data.toList, helloB.data.toList)] := by
    rw [← P4.out ks4 hs4]
    exact hr4
  have c5 := users_any l5 hG hKl annK_len
  have Hr4 : Hid (RowT w5 _ v [(oneB.data.toList, helloB.data.toList)]) := hr4
  obtain ⟨g, cap, rfl, _, _, _⟩ := row_one hr4
  clear c4 hs4 P4 l5 hr4
  unfold ptr at *
  go_wp2_with fail
  refine c5.mono ?_
  rintro e w6 ⟨v', ks5, rfl, hs5, hr5, l6, k6⟩
  rw [P5.out ks5 hs5] at hr5
  have hr4 := k6.owns Hr4.out (fun _ _ e => e)
  obtain ⟨g', cap', e1, q0, q1, _⟩ := row_one (x := (oneB.data.toList, helloB.data.toList)) hr4
  injection e1 with e1 _ _
  injection e1 with e1
  injection e1 with e1
  subst e1
  obtain ⟨g5, cap5, rfl, q2, _⟩ := row9_one hr5
  have F := l6.2.2.2
  clear c5 hs5 P5 l6 hr5 hr4 Hr4 k6
  have o1 : (⟨(oneB.data.toList, helloB.data.toList).1.toArray⟩ : ByteArray) = ⟨#[49]⟩ := rfl
  have o2 : (⟨(oneB.data.toList, helloB.data.toList).2.toArray⟩ : ByteArray) = ⟨#[104, 101, 108, 108, 111]⟩ := rfl
  have o3 : (⟨annB.data.toList.toArray⟩ : ByteArray) = ⟨#[97, 110, 110]⟩ := rfl
  rw [o1] at q0
  rw [o2] at q1
  try rw [o3] at q2
  clear o1 o2 o3
  go_wp2_with (go_at_call 29; refine (num_any _ _).mono ?_; rintro e w' ⟨rfl, rfl⟩)
  go_ret
  exact ⟨rfl, F⟩

end Go.Proofs.YtegbkpjcjlihmabGreatDoor

namespace Go.Proofs.YtegbkpjcjlihmabGreatDoor
open Go.RowKit Go.Maps Go.Sort Go.Lib

theorem Live.more {w wr : World} {A : Nat → Prop} {d : Nat} {K K' : List Text} {C L : Nat} {σ : Dk} (h : Live w wr A d K C L σ) (hs : ∀ s ∈ K, s ∈ K') (hl : K.length ≤ K'.length) : Live w wr A d K' C L σ := by
  obtain ⟨h1, ⟨mn, ms, cv, vals, bv, I⟩, h3, h4⟩ := h
  exact ⟨h1, ⟨mn, ms, cv, vals, bv, I.head, I.now.mono hl, I.safe.mono hl, I.apart, I.row, I.len, I.chg, I.files, I.bufs, I.ownD, I.ownN, I.ownS, I.ownR, I.ownX, I.ownB⟩, ⟨fun i s e => hs s (h3.setK i s e), h3.setIn, h3.setInj, h3.setNow, h3.chgs, h3.sizes, h3.left⟩, h4⟩

/-- what is asked of the names -/
structure NamesOk (K : List Text) : Prop where
  len : K.length ≤ 1099511627
  size : ∀ s ∈ K, s.length < 4294967281
  canon : CanonK K
  fresh : freshT ∈ K

/-- how the player stands -/
structure PSt (w : World) (K : List Text) (p d C L n : Nat) (A : Nat → Prop) (σ : Dk) (D : Text → Text) (l : List Lt3) (stop maybe : Bool) (x1 x2 x3 : ByteArray) (v : Value) (wr : World) : Prop where
  live : Live w wr A d K C L σ
  cell : wr.heap[p]? = some (pCells d v stop maybe x1 x2 x3)
  pA : ¬ A p
  pw : w.heap.size ≤ p
  ls : Lsx wr (fun i => A i ∨ i = p) v l
  st : Bst K D σ l stop maybe (x3Of x1 x2 x3)
  ln : l.length ≤ n
  sz : ∀ y ∈ l, y.1.length ≤ 1048576 ∧ y.2.1.length ≤ 1048576
  sx : x1.size ≤ 1048576 ∧ x2.size ≤ 1048576

theorem PSt.lt {w : World} {K : List Text} {p d C L n : Nat} {A : Nat → Prop} {σ : Dk} {D : Text → Text} {l : List Lt3} {stop maybe : Bool} {x1 x2 x3 : ByteArray} {v : Value} {wr : World} (h : PSt w K p d C L n A σ D l stop maybe x1 x2 x3 v wr) : p < wr.heap.size := (Array.getElem?_eq_some_iff.1 h.cell).1

theorem Lsx.less {w : World} {A A' : Nat → Prop} {v : Value} {l : List Lt3} (h : Lsx w A v l) (hs : ∀ i, A' i → A i) : Lsx w A' v l := by
  obtain ⟨ao, cap, e, h1, h2⟩ := h
  exact ⟨ao, cap, e, h1, fun g hg => ⟨fun e => (h2 g hg).1 (hs g e), (h2 g hg).2⟩⟩

section
variable {w wr w' : World} {K : List Text} {p d C L n : Nat} {A : Nat → Prop} {σ σ' : Dk} {D D' : Text → Text} {l l' : List Lt3} {stop maybe stop' maybe' : Bool} {x1 x2 x3 y1 y2 y3 : ByteArray} {v v' : Value}

/-- the player looks -/
theorem PSt.look (h : PSt w K p d C L n A σ D l stop maybe x1 x2 x3 v wr) (hG : Gl w) (hK : NamesOk K) (hn : n ≤ 1099511627) :
    Calls Tryz.prog 32 #[ptr p] wr fun e w' => ∃ v', e = .returned v' ∧ Lsx w' (fun i => A i ∨ i = p) v' (seen σ l maybe (x3Of x1 x2 x3)) ∧ PSt w K p d C L n A σ D l stop maybe x1 x2 x3 v w' ∧ Keeps A wr w' := by
  have hlt := h.lt
  refine (look_any h.live hG (by have := hK.len; omega) hK.size hK.canon h.cell h.pA (fun i hi => .inl hi) (fun i hi => hi.elim (fun e => (h.live.1 i e).2) (fun e => by omega)) h.ls h.st (by have := h.ln; omega) (fun y hy => by have := h.sz y hy; omega) (by have := h.sx; omega) (by have := h.sx; omega)).mono ?_
  rintro e w' ⟨v', rfl, h1, h2, k⟩
  exact ⟨v', rfl, h1, ⟨h2, k.heap h.cell h.pA, h.pA, h.pw, h.ls.keep k (fun g _ n e => n (.inl e)) (fun _ e => .inl e), h.st, h.ln, h.sz, h.sx⟩, k⟩

/-- what is seen is shown -/
theorem PSt.shows (h : PSt w K p d C L n A σ D l stop maybe x1 x2 x3 v wr) (hG : Gl w) (hK : NamesOk K) (hn : n < 1099511627) (hv : Lsx wr (fun i => A i ∨ i = p) v' (seen σ l maybe (x3Of x1 x2 x3))) :
    Calls Tryz.prog 33 #[ptr d, v'] wr fun e w' => e = .returned (.bool true) ∧ PSt w K p d C L n A σ D l stop maybe x1 x2 x3 v w' ∧ Keeps A wr w' := by
  have hf := h.live.2.2.1
  refine (shows_any h.live hG (by have := hK.len; omega) hK.size hK.canon (hv.less (fun i e => .inl e)) h.st.seen_up (h.st.seen_keys hf) (h.st.seen_data hf) ?_).mono ?_
  · have := h.ln
    unfold seen
    split
    · exact Nat.le_trans withL_len (by omega)
    · omega
  · rintro e w' ⟨rfl, h2, k⟩
    exact ⟨rfl, ⟨h2, k.heap h.cell h.pA, h.pA, h.pw, h.ls.keep k (fun g _ n e => n (.inl e)) (fun _ e => .inl e), h.st, h.ln, h.sz, h.sx⟩, k⟩

/-- a call of the disk -/
theorem PSt.disk (h : PSt w K p d C L n A σ D l stop maybe x1 x2 x3 v wr) {C' L' : Nat} {A' : Nat → Prop} (h2 : Live w w' A' d K C' L' σ') (k : Keeps A wr w') (hA : ∀ i, A' i → A i ∨ wr.heap.size ≤ i) (B : Bst K D' σ' l stop maybe (x3Of x1 x2 x3)) : PSt w K p d C' L' n A' σ' D' l stop maybe x1 x2 x3 v w' := by
  have hlt := h.lt
  refine ⟨h2, k.heap h.cell h.pA, fun e => (hA p e).elim h.pA (fun e => by omega), h.pw, ?_, B, h.ln, h.sz, h.sx⟩
  exact h.ls.keep k (fun g _ n e => n (.inl e)) (fun g e => e.elim (fun e => (hA g e).elim (fun e => .inl (.inl e)) .inr) (fun e => .inl (.inr e)))

/-- the player's own cells are set -/
theorem PSt.set (h : PSt w K p d C L n A σ D l stop maybe x1 x2 x3 v wr) {n' : Nat} (k : Keeps (fun i => i = p) wr w') (hc : w'.heap[p]? = some (pCells d v' stop' maybe' y1 y2 y3)) (hv : Lsx wr (fun i => A i ∨ i = p) v' l') (B : Bst K D' σ l' stop' maybe' (x3Of y1 y2 y3)) (hln : l'.length ≤ n') (hsz : ∀ y ∈ l', y.1.length ≤ 1048576 ∧ y.2.1.length ≤ 1048576) (hsx : y1.size ≤ 1048576 ∧ y2.size ≤ 1048576) : PSt w K p d C L n' A σ D' l' stop' maybe' y1 y2 y3 v' w' :=
  ⟨h.live.side k (fun i hi e => h.pA (e ▸ hi)) (fun i e => by have := h.pw; omega), hc, h.pA, h.pw, hv.keep k (fun g _ n e => n (.inr e)) (fun _ e => .inl e), B, hln, hsz, hsx⟩

theorem PSt.freshen (h : PSt w K p d C L n A σ D l stop maybe x1 x2 x3 v wr) (k : Fresh wr w') : PSt w K p d C L n A σ D l stop maybe x1 x2 x3 v w' :=
  ⟨h.live.fresh k, k.heap h.cell (fun e => e), h.pA, h.pw, h.ls.fresh k, h.st, h.ln, h.sz, h.sx⟩

end

theorem Lsx.rd {w : World} {A : Nat → Prop} {ao : Option Addr} {m cap : Nat} {l : List Lt3} (h : Lsx w A (.slice ao m cap) l) : Rd3 w ao l ∧ ∀ g, ao = some ⟨g, 0, none⟩ → ¬ A g ∧ g < w.heap.size := by
  obtain ⟨a, c, e, h1, h2⟩ := h
  injection e with e1 e2 e3
  subst e1
  exact ⟨h1, h2⟩

theorem Ls.form {w : World} {v : Value} {l : List Lt3} (h : Ls w v l) : ∃ ao m cap, v = .slice ao m cap := let ⟨a, c, e, _⟩ := h; ⟨a, _, c, e⟩

theorem Lsx.len {w : World} {A : Nat → Prop} {v : Value} {l : List Lt3} (h : Lsx w A v l) : ∃ ao cap, v = .slice ao l.length cap := let ⟨a, c, e, _⟩ := h; ⟨a, c, e⟩

def PNext (w : World) (K : List Text) (p d C L n : Nat) (stop : Bool) (wr : World) : Prop := ∃ A σ D l maybe x1 x2 x3 v, PSt w K p d C L n A σ D l stop maybe x1 x2 x3 v wr

theorem Bst.back {K : List Text} {D : Text → Text} {σ : Dk} {l : List Lt3} {stop : Bool} {x x0 : Lt3} (hb : Bst K D σ (withL l x0) stop false x) (hup : UpL l) (hn : lk x0 ∉ l.map lk) : Bst K D σ l stop true x0 where
  up := hup
  boxed := hb.boxed
  stay := fun y hy => hb.stay y (withL_sub hy)
  gone := fun p hp h1 h2 => hb.gone p hp (fun e => ((withL_keys p).1 e).elim (h2 rfl) h1) (fun e => by cases e)
  may := fun _ => by
    have hin : x0 ∈ withL l x0 := by
      unfold withL
      rw [if_neg hn]
      exact (insL_mem x0 x0 l).2 (.inl rfl)
    exact ⟨hn, (hb.stay x0 hin).2⟩
  left := hb.left

/-- an operation, as a value -/
def opV (kind : Int) (us ke da : ByteArray) (nn : Int) (tv : Value) : Value := .agg #[.int .i64 kind, .string us, .string ke, .string da, .int .i64 nn, tv]

section
variable {w wr : World} {K : List Text} {p d C L n : Nat} {A : Nat → Prop} {σ : Dk} {D : Text → Text} {l : List Lt3} {stop maybe : Bool} {x1 x2 x3 : ByteArray} {v : Value}

theorem PSt.at (h : PSt w K p d C L n A σ D l stop maybe x1 x2 x3 v wr) : ∀ (j : Nat) u, #[Value.pointer (some ⟨d, 0, none⟩), v, .bool stop, .bool maybe, .string x1, .string x2, .string x3][j]? = some u → wr.cell? ⟨p, j, none⟩ = some u := fun j u hj => by
  have hp := h.cell
  unfold pCells ptr at hp
  rw [Lib.cell_of_heap hp]; exact hj
theorem PSt.fz (h : PSt w K p d C L n A σ D l stop maybe x1 x2 x3 v wr) (j : Nat) : wr.frozen? ⟨p, j, none⟩ = false := frozen_of_row wr p j _ _ h.cell

set_option maxHeartbeats 8000000 in
set_option maxRecDepth 100000 in
theorem deliverP_any (h : PSt w K p d C L n A σ D l stop maybe x1 x2 x3 v wr) (hG : Gl w) (hK : NamesOk K) (hn : n < 1099511627) (kind : Int) (us ke da : ByteArray) (nn : Int) (tv : Value) (hus : us.size ≤ 1048576) (hke : ke.size ≤ 1048576) (hda : da.size ≤ 1048576) (hnK : nameOf us.data.toList ke.data.toList ∈ K) (hC : C + 6 ≤ 1099511627) (hL : L + da.size ≤ 1099511627)
    (hm : maybe = true → us = x1 ∧ ke = x2 ∧ da = x3) :
    Calls Tryz.prog 65 #[ptr p, opV kind us ke da nn tv] wr fun e w' => e = .returned (.bool true) ∧ PNext w K p d (C + 6) (L + da.size) (n + 1) stop w' := by
  obtain ⟨vao, vcap, rfl⟩ := h.ls.len
  have fa : Fresh wr ((wr.alloc (.cells #[.int .i64 kind, .string us, .string ke, .string da, .int .i64 nn, tv] 71)).alloc (.cells #[.string us, .string ke, .string da] 67)) := ((Keeps.refl _ _).alloc _).alloc _
  have es : (wr.alloc (.cells #[.int .i64 kind, .string us, .string ke, .string da, .int .i64 nn, tv] 71)).heap.size = wr.heap.size + 1 := by simp
  have ho1 := (Keeps.refl (fun _ => False) (wr.alloc (.cells #[.int .i64 kind, .string us, .string ke, .string da, .int .i64 nn, tv] 71))).alloc (.cells #[.string us, .string ke, .string da] 67) |>.heap (heap_new wr (.cells #[.int .i64 kind, .string us, .string ke, .string da, .int .i64 nn, tv] 71)) (fun e => e)
  have hx1 := heap_new (wr.alloc (.cells #[.int .i64 kind, .string us, .string ke, .string da, .int .i64 nn, tv] 71)) (.cells #[.string us, .string ke, .string da] 67)
  rw [es] at hx1
  have HA : Hid (PSt w K p d C L n A σ D l stop maybe x1 x2 x3 (.slice vao l.length vcap) ((wr.alloc (.cells #[.int .i64 kind, .string us, .string ke, .string da, .int .i64 nn, tv] 71)).alloc (.cells #[.string us, .string ke, .string da] 67))) := h.freshen fa
  have hpl := h.lt
  have hsz2 : ((wr.alloc (.cells #[.int .i64 kind, .string us, .string ke, .string da, .int .i64 nn, tv] 71)).alloc (.cells #[.string us, .string ke, .string da] 67)).heap.size = wr.heap.size + 2 := by simp
  have hAw : ∀ i, A i → i < wr.heap.size := fun i hi => (h.live.1 i hi).2
  clear h fa es
  unfold opV ptr at *
  go_enter Tryz.func65, Tryz.ntmps65
  go_wp2_with fail
  generalize (wr.alloc (.cells #[.int .i64 kind, .string us, .string ke, .string da, .int .i64 nn, tv] 71)).alloc (.cells #[.string us, .string ke, .string da] 67) = W at *
  have Hsz2 : Hid (W.heap.size = wr.heap.size + 2) := hsz2
  clear hsz2
  have hdel := deliver_any (HA.out.live.fresh ((Keeps.refl _ W).drew)) hG (by have := hK.len; omega) us ke da hus hke (by omega) hK.fresh hnK (by omega) (by omega)
  have o1 : W.cell? ⟨wr.heap.size, 1, none⟩ = some (.string us) := by rw [Lib.cell_of_heap ho1]; rfl
  have o2 : W.cell? ⟨wr.heap.size, 2, none⟩ = some (.string ke) := by rw [Lib.cell_of_heap ho1]; rfl
  have o3 : W.cell? ⟨wr.heap.size, 3, none⟩ = some (.string da) := by rw [Lib.cell_of_heap ho1]; rfl
  have c0 := HA.out.at 0 _ rfl
  have HX1 : Hid (W.heap[wr.heap.size + 1]? = some (.cells #[.string us, .string ke, .string da] 67)) := hx1
  have HCK : Hid (∀ w', Keeps A W w' → w'.cell? ⟨p, 0, none⟩ = some (.pointer (some ⟨d, 0, none⟩)) ∧ w'.cell? ⟨wr.heap.size, 1, none⟩ = some (.string us) ∧ w'.cell? ⟨wr.heap.size, 2, none⟩ = some (.string ke) ∧ w'.cell? ⟨wr.heap.size, 3, none⟩ = some (.string da)) := fun w' k => by
    have hnw : ¬ A wr.heap.size := fun e => by have := hAw _ e; omega
    exact ⟨cell_keeps k c0 HA.out.pA, cell_keeps k o1 hnw, cell_keeps k o2 hnw, cell_keeps k o3 hnw⟩
  clear hx1 ho1
  go_region_held3 (fun w' => w'.cell? ⟨p, 0, none⟩ = some (.pointer (some ⟨d, 0, none⟩)) ∧ w'.cell? ⟨wr.heap.size, 1, none⟩ = some (.string us) ∧ w'.cell? ⟨wr.heap.size, 2, none⟩ = some (.string ke) ∧ w'.cell? ⟨wr.heap.size, 3, none⟩ = some (.string da)) (first | exact ⟨c0, o1, o2, o3⟩ | exact HCK.out _ k3) (first | (go_at_call 27; refine hdel.mono ?_; rintro e w3 ⟨k', σ', rfl, hdd, h3, k3'⟩; have k3 : Keeps A W w3 := ((Keeps.refl _ W).drew).trans k3'))
  have hfit := HA.out.live.2.2.1
  have hus2 : us.data.toList.length < lim := by have : us.data.toList.length = us.size := rfl; unfold lim; omega
  obtain ⟨D', hcase⟩ := HA.out.st.deliver hfit hK.fresh (x3Of us ke da) hus2 hnK (fun e => by obtain ⟨rfl, rfl, rfl⟩ := hm e; rfl) hdd
  have HAx : Hid (∀ i, ext A W w3 i → A i ∨ W.heap.size ≤ i) := fun i hi => hi.elim .inl (fun e => .inr e.1)
  have H3 : Hid (Live w w3 (ext A W w3) d K (C + 6) (L + da.size) σ') := h3
  have HK3 : Hid (Keeps A W w3) := k3
  have HX3 : Hid (w3.heap[wr.heap.size + 1]? = some (.cells #[.string us, .string ke, .string da] 67)) := k3.heap HX1.out (fun e => by have := hAw _ e; omega)
  have HHM : Hid (maybe = true → us = x1 ∧ ke = x2 ∧ da = x3) := hm
  have hnum := fun w' => num_any k' w'
  clear hdel k3' k3 h3 o1 o2 o3 c0 hdd hm
  rcases hcase with ⟨rfl, hst, hb1, hb2⟩ | ⟨rfl, hnow, hb⟩
  · subst hst
    have HC3 : Hid (w3.heap[p]? = some (pCells d (.slice vao l.length vcap) true maybe x1 x2 x3)) := HK3.out.heap HA.out.cell HA.out.pA
    have HP3 : Hid (∀ D'', Bst K D'' σ' l true maybe (x3Of x1 x2 x3) → PSt w K p d (C + 6) (L + da.size) n (ext A W w3) σ' D'' l true maybe x1 x2 x3 (.slice vao l.length vcap) w3) := fun D'' B => HA.out.disk H3.out HK3.out HAx.out B
    have hp3 := HC3.out
    unfold pCells ptr at hp3
    have cs : ∀ (j : Nat) u, #[Value.pointer (some ⟨d, 0, none⟩), .slice vao l.length vcap, .bool true, .bool maybe, .string x1, .string x2, .string x3][j]? = some u → w3.cell? ⟨p, j, none⟩ = some u := fun j u hj => by
      rw [Lib.cell_of_heap hp3]; exact hj
    have c1 := cs 1 _ rfl
    have c2 := cs 2 _ rfl
    have c3 := cs 3 _ rfl
    have f3 := frozen_of_row w3 p 3 _ _ hp3
    have b0 : w3.cell? ⟨wr.heap.size + 1, 0, none⟩ = some (.string us) := by rw [Lib.cell_of_heap HX3.out]; rfl
    have b1 : w3.cell? ⟨wr.heap.size + 1, 1, none⟩ = some (.string ke) := by rw [Lib.cell_of_heap HX3.out]; rfl
    have HLS3 := HA.out.ls.keep HK3.out (fun g _ n e => n (.inl e)) (fun _ e => .inl e)
    have hfind := find_ref vao vcap l us ke w3.drew (by have := HA.out.ln; omega) HLS3.rd.1
    clear cs hp3 HLS3
    go_wp2_with (go_at_call 29; refine (hnum _).mono ?_; rintro e w' ⟨rfl, hw⟩; have hw := hw.symm; subst hw)
    go_region_held3 (fun w' => w'.cell? ⟨p, 1, none⟩ = some (.slice vao l.length vcap) ∧ w'.cell? ⟨wr.heap.size + 1, 0, none⟩ = some (.string us) ∧ w'.cell? ⟨wr.heap.size + 1, 1, none⟩ = some (.string ke)) (first | exact ⟨c1, b0, b1⟩ | exact ⟨cell_keeps k4 c1 (fun e => e), cell_keeps k4 b0 (fun e => e), cell_keeps k4 b1 (fun e => e)⟩) (first | (go_at_call 100; refine hfind.mono ?_; rintro e w4 ⟨⟨nf, rfl, hnf⟩, k4'⟩; have k4 : Fresh w3 w4 := ((Keeps.refl _ w3).drew).trans k4'))
    have HN : Hid (0 ≤ nf ↔ lk (x3Of us ke da) ∈ l.map lk) := hnf
    have Hk4 : Hid (Fresh w3 w4) := k4
    by_cases hin : 0 ≤ nf
    · have HB1 := hb1 (HN.out.1 hin)
      have HP4 : Hid (PSt w K p d (C + 6) (L + da.size) n (ext A W w3) σ' D' l true maybe x1 x2 x3 (.slice vao l.length vcap) w4) := (HP3.out D' HB1).freshen k4
      clear hnf k4 k4' hb1 hb2 HB1
      go_wp2_with fail
      go_ret
      obtain ⟨q1, q2, q3, q4, q5, q6, q7, q8, q9⟩ := HP4.out
      exact ⟨rfl, _, _, _, _, _, _, _, _, _, q1, q2, q3, q4, q5, q6, by omega, q8, q9⟩
    · have HB2 : Hid (Bst K D' σ' l true true (x3Of us ke da)) := hb2 (fun e => hin (HN.out.2 e))
      have c3' := cell_keeps k4 c3 (fun e => e)
      have HC4 : Hid (w4.heap[p]? = some (pCells d (.slice vao l.length vcap) true maybe x1 x2 x3)) := k4.heap HC3.out (fun e => e)
      clear hnf k4' hb1 hb2 c1 c2 c3 f3
      cases maybe with
      | true =>
        obtain ⟨rfl, rfl, rfl⟩ := HHM.out rfl
        have HP4 : Hid (PSt w K p d (C + 6) (L + da.size) n (ext A W w3) σ' D' l true true us ke da (.slice vao l.length vcap) w4) := (HP3.out D' HB2.out).freshen k4
        clear k4
        go_wp2_with fail
        go_ret
        obtain ⟨q1, q2, q3, q4, q5, q6, q7, q8, q9⟩ := HP4.out
        exact ⟨rfl, _, _, _, _, _, _, _, _, _, q1, q2, q3, q4, q5, q6, by omega, q8, q9⟩
      | false =>
        have hX4 := k4.heap HX3.out (fun e => e)
        have fz : ∀ j, w4.frozen? ⟨p, j, none⟩ = false := fun j => frozen_of_row w4 p j _ _ HC4.out
        have hp4 := HC4.out
        unfold pCells ptr at hp4
        have d4 : w4.cell? ⟨p, 4, none⟩ = some (.string x1) := by rw [Lib.cell_of_heap hp4]; rfl
        have d5 : w4.cell? ⟨p, 5, none⟩ = some (.string x2) := by rw [Lib.cell_of_heap hp4]; rfl
        have d6 : w4.cell? ⟨p, 6, none⟩ = some (.string x3) := by rw [Lib.cell_of_heap hp4]; rfl
        have f3 := fz 3
        have f4 := fz 4
        have f5 := fz 5
        have f6 := fz 6
        have hne : wr.heap.size + 1 ≠ p := by omega
        have hne2 : p ≠ wr.heap.size + 1 := by omega
        have b0 : w4.cell? ⟨wr.heap.size + 1, 0, none⟩ = some (.string us) := by rw [Lib.cell_of_heap hX4]; rfl
        have b1 : w4.cell? ⟨wr.heap.size + 1, 1, none⟩ = some (.string ke) := by rw [Lib.cell_of_heap hX4]; rfl
        have b2 : w4.cell? ⟨wr.heap.size + 1, 2, none⟩ = some (.string da) := by rw [Lib.cell_of_heap hX4]; rfl
        have HPW : Hid (PNext w K p d (C + 6) (L + da.size) (n + 1) true ((((w4.setCell ⟨p, 3, none⟩ (.bool true)).setCell ⟨p, 4, none⟩ (.string us)).setCell ⟨p, 5, none⟩ (.string ke)).setCell ⟨p, 6, none⟩ (.string da))) := by
          have hh := HC4.out
          unfold pCells at hh
          have kS := ((((Keeps.refl (fun i => i = p) w4).setCell (p := ⟨p, 3, none⟩) (fun _ => rfl) (.bool true)).setCell (p := ⟨p, 4, none⟩) (fun _ => rfl) (.string us)).setCell (p := ⟨p, 5, none⟩) (fun _ => rfl) (.string ke)).setCell (p := ⟨p, 6, none⟩) (fun _ => rfl) (.string da)
          have hL4 := H3.out.fresh k4
          have hpA : ¬ ext A W w3 p := fun e => (HAx.out p e).elim HA.out.pA (fun e => by have := Hsz2.out; omega)
          have hls4 := ((HA.out.ls.keep (A' := fun i => ext A W w3 i ∨ i = p) HK3.out (fun g _ n e => n (.inl e)) (fun g e => e.elim (fun e => (HAx.out g e).elim (fun e => .inl (.inl e)) .inr) (fun e => .inl (.inr e)))).fresh k4)
          refine ⟨_, _, _, _, _, _, _, _, _, hL4.side kS (fun i hi e => hpA (e ▸ hi)) (fun i e => by have := HA.out.pw; omega), heap_setCell_at (heap_setCell_at (heap_setCell_at (heap_setCell_at hh 3 _) 4 _) 5 _) 6 _, hpA, HA.out.pw, hls4.keep kS (fun g _ n e => n (.inr e)) (fun _ e => .inl e), HB2.out, by have := HA.out.ln; omega, HA.out.sz, hus, hke⟩
        clear hp4 fz hX4 k4
        go_wp2_with fail
        go_ret
        exact ⟨rfl, HPW.out⟩
  · have HC3 : Hid (w3.heap[p]? = some (pCells d (.slice vao l.length vcap) stop maybe x1 x2 x3)) := HK3.out.heap HA.out.cell HA.out.pA
    have HB : Hid (Bst K D' σ' (withL l (x3Of us ke da)) stop false (x3Of x1 x2 x3)) := hb
    have HNOW : Hid ((σ'.now (nm3 (x3Of us ke da))).isSome = true) := hnow
    have hpA3 : ¬ ext A W w3 p := fun e => (HAx.out p e).elim HA.out.pA (fun e => by have := Hsz2.out; omega)
    have HLS3 : Hid (Lsx w3 (fun i => ext A W w3 i ∨ i = p) (.slice vao l.length vcap) l) := HA.out.ls.keep HK3.out (fun g _ n e => n (.inl e)) (fun g e => e.elim (fun e => (HAx.out g e).elim (fun e => .inl (.inl e)) .inr) (fun e => .inl (.inr e)))
    have hp3 := HC3.out
    unfold pCells ptr at hp3
    have cs : ∀ (j : Nat) u, #[Value.pointer (some ⟨d, 0, none⟩), .slice vao l.length vcap, .bool stop, .bool maybe, .string x1, .string x2, .string x3][j]? = some u → w3.cell? ⟨p, j, none⟩ = some u := fun j u hj => by
      rw [Lib.cell_of_heap hp3]; exact hj
    have c1 := cs 1 _ rfl
    have c3 := cs 3 _ rfl
    have c4 := cs 4 _ rfl
    have c5 := cs 5 _ rfl
    have f1 := frozen_of_row w3 p 1 _ _ hp3
    have f3 := frozen_of_row w3 p 3 _ _ hp3
    have b0 : w3.cell? ⟨wr.heap.size + 1, 0, none⟩ = some (.string us) := by rw [Lib.cell_of_heap HX3.out]; rfl
    have b1 : w3.cell? ⟨wr.heap.size + 1, 1, none⟩ = some (.string ke) := by rw [Lib.cell_of_heap HX3.out]; rfl
    have b2 : w3.cell? ⟨wr.heap.size + 1, 2, none⟩ = some (.string da) := by rw [Lib.cell_of_heap HX3.out]; rfl
    clear cs hp3 hnow hb
    cases maybe with
    | false =>
      go_wp2_with (go_at_call 29; refine (hnum _).mono ?_; rintro e w' ⟨rfl, hw⟩; have hw := hw.symm; subst hw)
      go_quiet (fail)
      have fq : Fresh w3 (w3.drewN nq) := (Keeps.refl _ _).drewN _
      have HC5 : Hid ((w3.drewN nq).heap[p]? = some (pCells d (.slice vao l.length vcap) stop false x1 x2 x3)) := fq.heap HC3.out (fun e => e)
      have HX5 : Hid ((w3.drewN nq).heap[wr.heap.size + 1]? = some (.cells #[.string us, .string ke, .string da] 67)) := fq.heap HX3.out (fun e => e)
      have HL5 : Hid (Live w (w3.drewN nq) (ext A W w3) d K (C + 6) (L + da.size) σ') := H3.out.fresh fq
      have HLS5 : Hid (Lsx (w3.drewN nq) (fun i => ext A W w3 i ∨ i = p) (.slice vao l.length vcap) l) := HLS3.out.fresh fq
      generalize w3.drewN nq = w5 at *
      clear c1 c3 c4 c5 f1 f3 b0 b1 b2 fq
      have hp5 := HC5.out
      unfold pCells ptr at hp5
      have c1 : w5.cell? ⟨p, 1, none⟩ = some (.slice vao l.length vcap) := by rw [Lib.cell_of_heap hp5]; rfl
      have b0 : w5.cell? ⟨wr.heap.size + 1, 0, none⟩ = some (.string us) := by rw [Lib.cell_of_heap HX5.out]; rfl
      have b1 : w5.cell? ⟨wr.heap.size + 1, 1, none⟩ = some (.string ke) := by rw [Lib.cell_of_heap HX5.out]; rfl
      have b2 : w5.cell? ⟨wr.heap.size + 1, 2, none⟩ = some (.string da) := by rw [Lib.cell_of_heap HX5.out]; rfl
      clear hp5
      have hwith := with_ref vao vcap l us ke da w5.drew (by have := HA.out.ln; omega) HLS5.out.rd.1 (fun y hy => by have := HA.out.sz y hy; omega) (by omega) (by omega)
      have HWF : Hid (∀ w8 v8, Ls w8 v8 (withL l (us.data.toList, ke.data.toList, da.data.toList)) → (v8 = .slice vao l.length vcap ∨ ∀ g, v8.ownBlock = some g → w5.drew.heap.size ≤ g ∧ g < w8.heap.size) → Fresh w5.drew w8 → w8.cell? ⟨p, 1, none⟩ = some (.slice vao l.length vcap) ∧ w8.frozen? ⟨p, 1, none⟩ = false ∧ PNext w K p d (C + 6) (L + da.size) (n + 1) stop (w8.setCell ⟨p, 1, none⟩ v8)) := fun w8 v8 hls hv8 k8' => by
        have k8 : Fresh w5 w8 := ((Keeps.refl _ w5).drew).trans k8'
        have hh := k8.heap HC5.out (fun e => e)
        have hL8 := HL5.out.fresh k8
        have kS := (Keeps.refl (fun i => i = p) w8).setCell (p := ⟨p, 1, none⟩) (fun _ => rfl) v8
        have hV : Lsx w8 (fun i => ext A W w3 i ∨ i = p) v8 (withL l (x3Of us ke da)) := by
          rcases hv8 with rfl | hv8
          · obtain ⟨a3, c3, e3, r3⟩ := hls
            refine ⟨a3, c3, e3, r3, fun g hg => ?_⟩
            have : vao = a3 := by injection e3
            obtain ⟨n1, n2⟩ := HLS5.out.rd.2 g (this.trans hg)
            exact ⟨n1, by have := k8.size; omega⟩
          · exact Lsx.ofLs (w := w5.drew) hls (fun i hi => hi.elim (fun e => (HL5.out.1 i e).2) (fun e => by rw [e]; exact (Array.getElem?_eq_some_iff.1 HC5.out).1)) hv8
        refine ⟨cell_keeps k8 c1 (fun e => e), frozen_of_row w8 p 1 _ _ hh, ?_⟩
        unfold pCells at hh
        refine ⟨_, _, _, _, _, _, _, _, _, hL8.side kS (fun i hi e => hpA3 (e ▸ hi)) (fun i e => by have := HA.out.pw; omega), heap_setCell_at hh 1 _, hpA3, HA.out.pw, hV.keep kS (fun g _ n e => n (.inr e)) (fun _ e => .inl e), HB.out, Nat.le_trans withL_len (by have := HA.out.ln; omega), fun y hy => ?_, HA.out.sx⟩
        rcases withL_mem hy with ⟨rfl, _⟩ | hy
        · exact ⟨hus, hke⟩
        · exact HA.out.sz y hy
      go_wp2_with fail
      go_region_law (go_simp; go_wp2_with (go_at_call 75; refine hwith.mono ?_; rintro e w8 ⟨v8, rfl, hls, hv8, k8⟩; obtain ⟨c18, f18, hpn⟩ := HWF.out w8 v8 hls hv8 k8; obtain ⟨a8, m8, p8, rfl⟩ := hls.form; have HPN : Hid (PNext w K p d (C + 6) (L + da.size) (n + 1) stop (w8.setCell ⟨p, 1, none⟩ (.slice a8 m8 p8))) := hpn; clear hls hv8 k8 hpn))
      all_goals
        go_wp2_with (go_at_call 29; refine (hnum _).mono ?_; rintro e w' ⟨rfl, hw⟩; have hw := hw.symm; subst hw)
        go_ret
        exact ⟨rfl, HPN.out⟩
    | true =>
      obtain ⟨rfl, rfl, rfl⟩ := HHM.out rfl
      have hub1 : (us.toList == us.toList) = true := by rw [beq_bytes]; simp
      have hub2 : (ke.toList == ke.toList) = true := by rw [beq_bytes]; simp
      have hnin := (HA.out.st.may rfl).1
      have HBB : Hid (Bst K D' σ' l stop true (x3Of us ke da)) := HB.out.back HA.out.st.up hnin
      go_wp2_with (go_at_call 29; refine (hnum _).mono ?_; rintro e w' ⟨rfl, hw⟩; have hw := hw.symm; subst hw)
      go_quiet (fail)
      have fq : Fresh w3 (w3.drewN nq) := (Keeps.refl _ _).drewN _
      have HP5 : Hid (PSt w K p d (C + 6) (L + da.size) n (ext A W w3) σ' D' l stop true us ke da (.slice vao l.length vcap) (w3.drewN nq)) := (HA.out.disk H3.out HK3.out HAx.out HBB.out).freshen fq
      have HX5 : Hid ((w3.drewN nq).heap[wr.heap.size + 1]? = some (.cells #[.string us, .string ke, .string da] 67)) := fq.heap HX3.out (fun e => e)
      generalize w3.drewN nq = w5 at *
      clear c1 c3 c4 c5 f1 f3 b0 b1 b2 fq
      have hlook := HP5.out.look hG hK (by omega)
      have HSEE : Hid (seen σ' l true (x3Of us ke da) = withL l (x3Of us ke da)) := if_pos ⟨rfl, HNOW.out⟩
      rw [HSEE.out] at hlook
      unfold ptr at hlook
      have hxA : ¬ ext A W w3 (wr.heap.size + 1) := fun e => (HAx.out _ e).elim (fun e => by have := hAw _ e; omega) (fun e => by have := Hsz2.out; omega)
      go_wp2_with fail
      refine hlook.mono ?_
      rintro e w6 ⟨v6, rfl, hv6, hp6, k6⟩
      obtain ⟨l2, hl2⟩ : ∃ l2, l2 = withL l (x3Of us ke da) := ⟨_, rfl⟩
      rw [← hl2] at hv6
      obtain ⟨a6, c6, rfl⟩ := hv6.len
      have HV6 : Hid (Lsx w6 (fun i => ext A W w3 i ∨ i = p) (.slice a6 l2.length c6) l2) := hv6
      have HP6 : Hid (PSt w K p d (C + 6) (L + da.size) n (ext A W w3) σ' D' l stop true us ke da (.slice vao l.length vcap) w6) := hp6
      have HX6 : Hid (w6.heap[wr.heap.size + 1]? = some (.cells #[.string us, .string ke, .string da] 67)) := k6.heap HX5.out hxA
      have hl2n : l2.length ≤ n + 1 := by rw [hl2]; exact Nat.le_trans withL_len (by have := HA.out.ln; omega)
      have HSZ2 : Hid (∀ y ∈ l2, y.1.length ≤ 1048576 ∧ y.2.1.length ≤ 1048576) := fun y hy => by
        rw [hl2] at hy
        rcases withL_mem hy with ⟨rfl, _⟩ | hy
        · exact ⟨hus, hke⟩
        · exact HA.out.sz y hy
      have HWW : Hid (withL l2 (x3Of us ke da) = l2) := by
        refine withL_self ?_
        rw [hl2]
        exact (withL_keys _).2 (.inl rfl)
      have HB7 : Hid (Bst K D' σ' (withL l2 (x3Of us ke da)) stop false (x3Of us ke da)) := by
        show Bst _ _ _ _ _ _ _
        rw [HWW.out, hl2]
        exact HB.out
      have c1 := hp6.at 1 _ rfl
      have c3 := hp6.at 3 _ rfl
      have f1 := hp6.fz 1
      have f3 := hp6.fz 3
      clear hlook hv6 hp6 k6 hl2
      have kS := ((Keeps.refl (fun i => i = p) w6).setCell (p := ⟨p, 1, none⟩) (fun _ => rfl) (.slice a6 l2.length c6)).setCell (p := ⟨p, 3, none⟩) (fun _ => rfl) (.bool false)
      have HC7 : Hid (((w6.setCell ⟨p, 1, none⟩ (.slice a6 l2.length c6)).setCell ⟨p, 3, none⟩ (.bool false)).heap[p]? = some (pCells d (.slice a6 l2.length c6) stop false us ke da)) := by
        have hh := HP6.out.cell
        unfold pCells at hh
        exact heap_setCell_at (heap_setCell_at hh 1 _) 3 _
      have HX7 : Hid (((w6.setCell ⟨p, 1, none⟩ (.slice a6 l2.length c6)).setCell ⟨p, 3, none⟩ (.bool false)).heap[wr.heap.size + 1]? = some (.cells #[.string us, .string ke, .string da] 67)) := kS.heap HX6.out (by omega)
      have HL7 : Hid (Live w ((w6.setCell ⟨p, 1, none⟩ (.slice a6 l2.length c6)).setCell ⟨p, 3, none⟩ (.bool false)) (ext A W w3) d K (C + 6) (L + da.size) σ') := HP6.out.live.side kS (fun i hi e => hpA3 (e ▸ hi)) (fun i e => by have := HA.out.pw; omega)
      have HLS7 : Hid (Lsx ((w6.setCell ⟨p, 1, none⟩ (.slice a6 l2.length c6)).setCell ⟨p, 3, none⟩ (.bool false)) (fun i => ext A W w3 i ∨ i = p) (.slice a6 l2.length c6) l2) := HV6.out.keep kS (fun g _ n e => n (.inr e)) (fun _ e => .inl e)
      clear kS
      go_wp2_with fail
      generalize (w6.setCell ⟨p, 1, none⟩ (.slice a6 l2.length c6)).setCell ⟨p, 3, none⟩ (.bool false) = w7 at *
      clear c1 c3 f1 f3
      have hp7 := HC7.out
      unfold pCells ptr at hp7
      have c1 : w7.cell? ⟨p, 1, none⟩ = some (.slice a6 l2.length c6) := by rw [Lib.cell_of_heap hp7]; rfl
      have b0 : w7.cell? ⟨wr.heap.size + 1, 0, none⟩ = some (.string us) := by rw [Lib.cell_of_heap HX7.out]; rfl
      have b1 : w7.cell? ⟨wr.heap.size + 1, 1, none⟩ = some (.string ke) := by rw [Lib.cell_of_heap HX7.out]; rfl
      have b2 : w7.cell? ⟨wr.heap.size + 1, 2, none⟩ = some (.string da) := by rw [Lib.cell_of_heap HX7.out]; rfl
      clear hp7
      have hwith := with_ref a6 c6 l2 us ke da w7.drew (by omega) HLS7.out.rd.1 (fun y hy => by have := HSZ2.out y hy; omega) (by omega) (by omega)
      have HWF : Hid (∀ w8 v8, Ls w8 v8 (withL l2 (us.data.toList, ke.data.toList, da.data.toList)) → (v8 = .slice a6 l2.length c6 ∨ ∀ g, v8.ownBlock = some g → w7.drew.heap.size ≤ g ∧ g < w8.heap.size) → Fresh w7.drew w8 → w8.cell? ⟨p, 1, none⟩ = some (.slice a6 l2.length c6) ∧ w8.frozen? ⟨p, 1, none⟩ = false ∧ PNext w K p d (C + 6) (L + da.size) (n + 1) stop (w8.setCell ⟨p, 1, none⟩ v8)) := fun w8 v8 hls hv8 k8' => by
        have k8 : Fresh w7 w8 := ((Keeps.refl _ w7).drew).trans k8'
        have hh := k8.heap HC7.out (fun e => e)
        have hL8 := HL7.out.fresh k8
        have kS := (Keeps.refl (fun i => i = p) w8).setCell (p := ⟨p, 1, none⟩) (fun _ => rfl) v8
        have hV : Lsx w8 (fun i => ext A W w3 i ∨ i = p) v8 (withL l2 (x3Of us ke da)) := by
          rcases hv8 with rfl | hv8
          · obtain ⟨a3, c3, e3, r3⟩ := hls
            refine ⟨a3, c3, e3, r3, fun g hg => ?_⟩
            have : a6 = a3 := by injection e3
            obtain ⟨n1, n2⟩ := HLS7.out.rd.2 g (this.trans hg)
            exact ⟨n1, by have := k8.size; omega⟩
          · exact Lsx.ofLs (w := w7.drew) hls (fun i hi => hi.elim (fun e => (HL7.out.1 i e).2) (fun e => by rw [e]; exact (Array.getElem?_eq_some_iff.1 HC7.out).1)) hv8
        refine ⟨cell_keeps k8 c1 (fun e => e), frozen_of_row w8 p 1 _ _ hh, ?_⟩
        unfold pCells at hh
        refine ⟨_, _, _, _, _, _, _, _, _, hL8.side kS (fun i hi e => hpA3 (e ▸ hi)) (fun i e => by have := HA.out.pw; omega), heap_setCell_at hh 1 _, hpA3, HA.out.pw, hV.keep kS (fun g _ n e => n (.inr e)) (fun _ e => .inl e), HB7.out, by rw [HWW.out]; omega, fun y hy => HSZ2.out y (by rw [← HWW.out]; exact hy), HA.out.sx⟩
      go_region_law (go_simp; go_wp2_with (go_at_call 75; refine hwith.mono ?_; rintro e w8 ⟨v8, rfl, hls, hv8, k8⟩; obtain ⟨c18, f18, hpn⟩ := HWF.out w8 v8 hls hv8 k8; obtain ⟨a8, m8, p8, rfl⟩ := hls.form; have HPN : Hid (PNext w K p d (C + 6) (L + da.size) (n + 1) stop (w8.setCell ⟨p, 1, none⟩ (.slice a8 m8 p8))) := hpn; clear hls hv8 k8 hpn))
      all_goals
        go_wp2_with (go_at_call 29; refine (hnum _).mono ?_; rintro e w' ⟨rfl, hw⟩; have hw := hw.symm; subst hw)
        go_ret
        exact ⟨rfl, HPN.out⟩

end
end Go.Proofs.YtegbkpjcjlihmabGreatDoor
