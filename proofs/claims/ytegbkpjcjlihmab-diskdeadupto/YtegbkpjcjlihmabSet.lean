/-
  settle, SyncDir.
-/
import Derived.Test.YtegbkpjcjlihmabOpf
namespace Go.Proofs.Ytegbkpjcjlihmab
open Go.RowKit Go.Maps

theorem own_form {w : World} {base : Nat} {e : TypeId} {size : Nat} {v : Value} {n : Nat} {xs : List Value} (h : w.ownsRow base e size v n xs) : ∃ ao cap, v = .slice ao n cap ∧ cap ≤ maxLen ∧ n ≤ cap ∧ (n ≠ 0 → ∃ g, ao = some ⟨g, 0, none⟩) := by
  rcases h.2 with ⟨rfl, rfl⟩ | ⟨g, cap, cur, rfl, _, _, h1, h2, _⟩
  · exact ⟨none, 0, rfl, by unfold maxLen; omega, Nat.le_refl _, fun h => absurd rfl h⟩
  · exact ⟨_, cap, rfl, h2, h1, fun _ => ⟨g, rfl⟩⟩

theorem own_cell {w : World} {base : Nat} {e : TypeId} {size g n cap : Nat} {xs : List Value} (h : w.ownsRow base e size (.slice (some ⟨g, 0, none⟩) n cap) n xs) (j : Nat) (u : Value) (hu : xs[j]? = some u) : w.cell? ⟨g, j, none⟩ = some u := by
  have := h.cells (g := g) rfl j u hu
  have hadd : (⟨g, 0, none⟩ : Addr).add j = ⟨g, j, none⟩ := by unfold Addr.add; split <;> simp_all
  rwa [hadd] at this

/-- the first so many changes are settled -/
def Dk.settled (σ : Dk) (i : Nat) : Dk := { σ with safe := appAll (σ.chs.take i) σ.safe }

theorem settled_succ {σ : Dk} {i : Nat} {c : Chg} (h : σ.chs[i]? = some c) : (σ.settled (i + 1)).safe = c.app (σ.settled i).safe := by
  simp only [Dk.settled, appAll]
  rw [List.take_add_one, h]
  simp [List.foldl_append]

section
variable {w : World} {A : Nat → Prop} {d : Nat} {σ : Dk} {mn ms : Nat} {cv : Value} {vals : List Value} {bv : Nat → Value} {K : List Text}

/-- a kept change, whatever it is -/
theorem ChgAt.call {w : World} {A : Nat → Prop} {v : Value} {c : Chg} (h : ChgAt w A v c) : (∃ p q, Caught w v c 26 #[ptr p, ptr q]) ∨ (∃ p q r, Caught w v c 30 #[ptr p, ptr q, ptr r]) ∨ (∃ q, Caught w v c 31 #[ptr q]) := by
  rcases c with ⟨s, x⟩ | ⟨a, b, x⟩ | s
  · exact .inl (ChgAt.create h)
  · exact .inr (.inl (ChgAt.rename h))
  · exact .inr (.inr (ChgAt.remove h))

theorem Inner.emptied (h : Inner w A d K.length σ mn ms cv vals bv) {w' : World} (hw : w' = w.setCell ⟨d, 2, none⟩ (.slice none 0 0)) : Inner w' A d K.length { σ with chs := [] } mn ms (.slice none 0 0) [] bv := by
  subst hw
  have k : Keeps (fun i => i = d) w (w.setCell ⟨d, 2, none⟩ (.slice none 0 0)) := (Keeps.refl (fun i => i = d) w).setCell (p := ⟨d, 2, none⟩) (fun _ => rfl) _
  refine h.setHead (left := σ.left) (chs := []) ?_ (k.mono (fun _ _ e => .inl e)) (fun _ h => h) (World.ownsRow_nil _ _ _ _) rfl (fun i v c hv => by simp at hv) (fun k hk => by simp [Value.ownBlock] at hk)
  rw [heap_setCell_at h.head]; rfl

set_option maxHeartbeats 2000000 in
set_option maxRecDepth 100000 in
theorem settle_any (h : Inner w A d K.length σ mn ms cv vals bv) (hK : ∀ i, ∀ s, ((σ.settled i).safe s).isSome = true → s ∈ K) (hKl : K.length ≤ 1099511627776) (keep : Nat) (hk : keep ≤ σ.chs.length) :
    Calls Try.prog 19 #[ptr d, .int .i64 keep] w fun e w' => e = .returned (.tuple #[]) ∧ Inner w' A d K.length { (σ.settled keep) with chs := [] } mn ms (.slice none 0 0) [] bv ∧ Keeps A w w' ∧ w'.heap.size = w.heap.size := by
  have hlen := h.len
  have c2 := h.cell2
  obtain ⟨ao, cap, rfl, hc1, hc2, hao⟩ := own_form h.row
  unfold maxLen at hc1
  have H : Hid (Inner w A d K.length σ mn ms (.slice ao vals.length cap) vals bv) := h
  have hk1 : (keep : Int) ≤ (cap : Int) := by omega
  have hk2 : (0 : Int) ≤ (keep : Int) := by omega
  clear h
  rw [← hlen] at hk
  have Hlen : Hid (vals.length = σ.chs.length) := hlen
  clear hlen
  unfold ptr
  go_enter Try.func19, Try.ntmps19
  go_wp2_with fail
  go_loopw [13] (fun t13 wr => ∃ i : Nat, i ≤ keep ∧ t13 = .int .i64 i ∧ Inner wr A d K.length (σ.settled i) mn ms (.slice ao vals.length cap) vals bv ∧ Keeps (fun k => k = ms) w wr ∧ wr.heap.size = w.heap.size) (fun t13 _ => keep - (intOf t13).toNat)
  case atStart => exact ⟨0, Nat.zero_le _, rfl, H.out, Keeps.refl _ _, rfl⟩
  case round =>
    clear c2
    obtain ⟨i, hi, rfl, hI, kk, hsz⟩ := hrel
    have HI : Hid (Inner wr A d K.length (σ.settled i) mn ms (.slice ao vals.length cap) vals bv) := hI
    have Hsz : Hid (wr.heap.size = w.heap.size) := hsz
    clear hsz
    by_cases hlt : i < keep
    · obtain ⟨g, rfl⟩ := hao (by omega)
      have hiv : i < vals.length := by omega
      obtain ⟨v, hv⟩ : ∃ v, vals[i]? = some v := ⟨vals[i], List.getElem?_eq_getElem hiv⟩
      obtain ⟨c, hc⟩ : ∃ c, σ.chs[i]? = some c := ⟨σ.chs[i]'(by have := Hlen.out; omega), List.getElem?_eq_getElem _⟩
      have hcell := own_cell hI.row i v hv
      have hchg := hI.chg i v c hv hc
      have c1 := hI.cell1
      have hsafe := hI.safe
      have HC : Hid ((σ.settled (i + 1)).safe = c.app (σ.settled i).safe) := settled_succ hc
      clear hv hc hI
      have z1 : (0 : Int) ≤ (i : Int) := by omega
      have z2 : (i : Int) < (keep : Int) := by omega
      rcases hchg.call with ⟨p, q, rfl, hca⟩ | ⟨p, q, r, rfl, hca⟩ | ⟨p, rfl, hca⟩
      all_goals (
        have hca' := hca ms K.length (σ.settled i).safe hsafe (by unfold maxLen; omega)
        clear hca hchg
        unfold ptr at *
        go_wp2_with fail
        refine hca'.mono ?_
        rintro e w1 ⟨rfl, hm, k1, hs1⟩
        have hm' : MapAt w1 ms K.length (σ.settled (i + 1)).safe := by
          have h0 : MapAt w1 ms (K.length + 1) (σ.settled (i + 1)).safe := by rw [HC.out]; exact hm
          exact h0.within (hK (i + 1))
        have h1 := HI.out.setSafe hm' k1
        have Hs1 : Hid (w1.heap.size = w.heap.size) := hs1.trans Hsz.out
        clear hs1 hm
        go_wp2_with fail
        go_roundw
        case rel => exact ⟨i + 1, by omega, by go_num, h1, kk.trans k1, Hs1.out⟩
        case measure => simp [intOf]; omega)
    · have z2 : ¬ (i : Int) < (keep : Int) := by omega
      have ei : i = keep := by omega
      subst ei
      have c2 := hI.cell2
      have f2 := hI.frozen 2
      clear hI
      go_wp2
      go_end0
      refine ⟨rfl, HI.out.emptied rfl, ?_, by rw [← Hsz.out]; simp [World.setCell]⟩
      exact (kk.mono (fun i _ e => by subst e; exact H.out.ownS)).then ((Keeps.refl (fun i => i = d) wr).setCell (p := ⟨d, 2, none⟩) (fun _ => rfl) _) (fun i _ e => by subst e; exact H.out.ownD)

/-- what 'SyncDir' does -/
def Dk.syncsDir (σ : Dk) (e : Int) (σ' : Dk) : Prop :=
  (σ.dead = true ∧ e = 6 ∧ σ' = σ.tick) ∨ (σ.dead = false ∧ e = 0 ∧ σ' = { σ.tick.settled σ.chs.length with chs := [] })

set_option maxHeartbeats 2000000 in
theorem syncDir_any (h : Inner w A d K.length σ mn ms cv vals bv) (hl : ∀ l, σ.left = some l → l < 9223372036854775808) (hK : ∀ i, ∀ s, ((σ.settled i).safe s).isSome = true → s ∈ K) (hKl : K.length ≤ 1099511627776) :
    Calls Try.prog 13 #[ptr d] w fun e w' => ∃ k σ', e = .returned (.int .i64 k) ∧ σ.syncsDir k σ' ∧ DiskAt w' (ext A w w') d K.length σ' ∧ Keeps A w w' := by
  have hr := runs_any h hl
  have H : Hid (Inner w A d K.length σ mn ms cv vals bv) := h
  clear h
  unfold ptr at *
  cases hd : σ.dead
  · rw [hd] at hr
    have HD : Hid (σ.dead = false) := hd
    clear hd
    go_enter Try.func13, Try.ntmps13
    go_wp2_with (go_at_call 24; refine hr.mono ?_)
    rintro e w1 ⟨rfl, h1, k1, hs1⟩
    have Hs1 : Hid (w1.heap.size = w.heap.size) := hs1
    have kA : Keeps A w w1 := k1.mono (fun i _ e => by subst e; exact H.out.ownD)
    have c2 := h1.cell2
    have hst := settle_any h1 (fun i => hK i) hKl σ.chs.length (Nat.le_refl _)
    have hlen := h1.len
    obtain ⟨ao, cap, rfl, _, _, _⟩ := own_form h1.row
    rw [hlen] at c2
    have e0 : σ.tick.chs.length = σ.chs.length := rfl
    rw [e0] at c2
    clear hs1 hr h1 hlen e0
    unfold ptr at *
    go_wp2_with (go_at_call 19; refine hst.mono ?_)
    rintro e w2 ⟨rfl, h2, k2, hs2⟩
    have Hs2 : Hid (w2.heap.size = w1.heap.size) := hs2
    clear hs2
    go_wp2
    go_ret
    refine ⟨0, _, rfl, .inr ⟨HD.out, rfl, rfl⟩, ⟨mn, ms, _, _, bv, h2.grow (fun _ h => .inl h)⟩, kA.trans k2⟩
  · rw [hd] at hr
    have HD : Hid (σ.dead = true) := hd
    clear hd
    go_enter Try.func13, Try.ntmps13
    go_wp2_with (go_at_call 24; refine hr.mono ?_)
    rintro e w1 ⟨rfl, h1, k1, hs1⟩
    have kA : Keeps A w w1 := k1.mono (fun i _ e => by subst e; exact H.out.ownD)
    clear hs1 hr
    go_wp2
    go_ret
    exact ⟨6, σ.tick, rfl, .inl ⟨HD.out, rfl, rfl⟩, ⟨mn, ms, cv, vals, bv, h1.grow (fun _ h => .inl h)⟩, kA⟩
end
end Go.Proofs.Ytegbkpjcjlihmab
