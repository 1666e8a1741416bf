/-
  The reference disk: its log grows: Remove.
-/
import Derived.Test.YtegbkpjcjlihmaaRh
import Derived.Deep.RegionLaw
import Derived.Deep.RegionWith
namespace Go.Proofs.Ytegbkpjcjlihmaa
open Go.RowKit Go.Maps

/-- an append onto a row of one's own, as one step of a region that draws its order -/
theorem step_append_placed {P : Program} {ops : Array Oper} {o : Oper} {a : Act} {w : World} {K : Act → World → Prop} {Q : Exit → Act → World → Prop} {E : Prop}
    (hg : o.guard = none) (s x : Operand) (t : TypeId) (hop : o.op = Op.call { callee := Callee.builtin Builtin.append, args := #[s, x], argTypes := #[t, t] })
    (base : Nat) (e : TypeId) (i : TypeInfo) (z : Value) (size bytes : Nat) (ht : P.underlying t = some (.slice e)) (hi : P.info? e = some i) (hz : i.zero = some z)
    (hsize : i.size = size) (hby : i.bytes = bytes) (hzs : z.cells.size = size) (hsz : 0 < size)
    (v : Value) (n : Nat) (xs : List Value) (hs : a.eval s = v) (hown : w.ownsRow base e size v n xs)
    (ad : Addr) (m c : Nat) (news : List Value) (hx : a.eval x = .slice (some ad) m c) (hl : news.length = m * size) (hnews : ∀ j u, news[j]? = some u → w.cell? (ad.add j) = some u) (h1 : ∀ u ∈ news, u.oneCell' = true)
    (h63 : n + m ≤ maxLen) (hbytes : (n + m) * bytes ≤ 140737488355328) (hbase : base ≤ w.heap.size)
    (h : ∀ v' w', w'.ownsRow base e size v' (n + m) (xs ++ news) → w.grownBy w' v.ownBlock → Placed w v v' → K (a.put o.dst v') w') :
    if Region.wanted o (yielded ops a.tmps) = true then Oper.wp P o a w K Q else E := by
  have hw : Region.wanted o (yielded ops a.tmps) = true := by simp [Region.wanted, hg]
  rw [if_pos hw]
  obtain ⟨v', w', hr, h2, h3, _⟩ := run_append_own (P := P) w base t o.type e i z size bytes ht hi hz hsize hby hzs hsz v n xs hown ad m c news hl hnews h1 h63 hbytes hbase
  have hp := append_place w base t o.type e i z size bytes ht hi hz hsize hby v n xs hown ad m c news hl hnews h1 h63 hbytes hr
  unfold Oper.wp
  simp [execOp, hop, resolve, invoke, builtin, hs, hx, hr, Result.andThen]
  exact h v' w' h2 h3 hp

theorem info109 : (Try.prog.info? 109).map (fun i => (i.zero.map (fun z => z.cells.size), i.size, i.bytes)) = some (some 1, 1, 24) := by kernel_rfl
theorem info109' : ∃ i z, Try.prog.info? 109 = some i ∧ i.zero = some z ∧ z.cells.size = 1 ∧ i.size = 1 ∧ i.bytes = 24 := by
  obtain ⟨i, hi, h⟩ := Option.map_eq_some_iff.1 info109
  simp only [Prod.mk.injEq] at h
  obtain ⟨z, hz, h1⟩ := Option.map_eq_some_iff.1 h.1
  exact ⟨i, z, hi, hz, h1, h.2.1, h.2.2⟩

theorem step_append_log {ops : Array Oper} {o : Oper} {a : Act} {w : World} {K : Act → World → Prop} {Q : Exit → Act → World → Prop} {E : Prop}
    (hg : o.guard = none) (s x : Operand) (hop : o.op = Op.call { callee := Callee.builtin Builtin.append, args := #[s, x], argTypes := #[81, 81] })
    (lv : Value) (vals : List Value) (va : Option Addr) (vn vc : Nat) (hs : a.eval s = lv) (hown : w.ownsRow 0 109 1 lv vals.length vals) (hx : a.eval x = .slice (some ⟨w.heap.size, 0, none⟩) 1 1) (hn : vals.length ≤ 1099511627776)
    (h : ∀ v' w', w'.ownsRow 0 109 1 v' (vals.length + 1) (vals ++ [.slice va vn vc]) → (w.alloc (.cells #[.slice va vn vc] 109)).grownBy w' lv.ownBlock → Placed (w.alloc (.cells #[.slice va vn vc] 109)) lv v' → K (a.put o.dst v') w') :
    if Region.wanted o (yielded ops a.tmps) = true then Oper.wp Try.prog o a (w.alloc (.cells #[.slice va vn vc] 109)) K Q else E := by
  obtain ⟨i0, z0, hi0, hz0, hz1, hz2, hz3⟩ := info109'
  refine step_append_placed hg s x 81 hop 0 109 i0 z0 1 24 Try.underlying81 hi0 hz0 hz2 hz3 hz1 (by decide) lv vals.length vals hs (hown.alloc _) ⟨w.heap.size, 0, none⟩ 1 1 [.slice va vn vc] hx rfl ?_ ?_ (by unfold maxLen; omega) (by omega) (Nat.zero_le _) h
  · intro j u hj
    match j, hj with
    | 0, hj => simp at hj; subst hj; simp [Addr.add]
  · intro u hu; simp at hu; subst hu; rfl

section
variable {w : World} {A : Nat → Prop} {r : Nat} {ρ : Rf} {fv lv : Value} {vals : List Value}

/-- its log has grown; what is still to be stored -/
theorem RefIn.logged (h : RefIn w A r ρ fv lv vals) {w3 w4 : World} (f3 : Fresh w w3) {va : Option Addr} {vn vc : Nat} {l : List Ent} (e3 : EntsAt w3 w.heap.size (.slice va vn vc) l) {v4 : Value} (o4 : w4.ownsRow 0 109 1 v4 (vals.length + 1) (vals ++ [.slice va vn vc])) (g4 : (w3.alloc (.cells #[.slice va vn vc] 109)).grownBy w4 lv.ownBlock) (p4 : Placed (w3.alloc (.cells #[.slice va vn vc] 109)) lv v4) :
    w4.heap[r]? = some (.cells #[fv, lv, .int .i64 ρ.left] 84 (0, 0)) ∧ ∀ W, W = w4.setCell ⟨r, 1, none⟩ v4 → RefAt W (ext A w W) r { ρ with log := ρ.log ++ [l] } ∧ Keeps A w W := by
  have h3 := h.kept (A' := A) f3 (fun _ _ e => e) (fun _ h => h)
  have k4 : Keeps (fun i => lv.ownBlock = some i) w3 w4 := ((Keeps.refl (fun i => lv.ownBlock = some i) w3).alloc _).grown g4 (fun k hk _ => hk)
  have hh : w4.heap[r]? = some (.cells #[fv, lv, .int .i64 ρ.left] 84 (0, 0)) := k4.heap h3.head (fun e => ne_of_tag h3.tagR (h3.tagL e) (by decide) rfl)
  refine ⟨hh, fun W hW => ?_⟩
  have k5 : Keeps (fun i => i = r) w4 W := by rw [hW]; exact (Keeps.refl (fun i => i = r) w4).setCell (p := ⟨r, 1, none⟩) (fun _ => rfl) _
  have s3 := f3.size
  have s4 := k4.size
  have s5 := k5.size
  have k45 : Keeps (fun i => i = r ∨ lv.ownBlock = some i) w3 W := (k4.mono (fun _ _ e => .inr e)).then k5 (fun _ _ e => .inl e)
  have t115 : ∀ j, tag w3 j = some 115 → ¬ (j = r ∨ lv.ownBlock = some j) := fun j hj e => e.elim (fun e => ne_of_tag hj h3.tagR (by decide) e) (fun e => ne_of_tag hj (h3.tagL e) (by decide) rfl)
  have hla := g4.size
  have hls : (w3.alloc (.cells #[.slice va vn vc] 109)).heap.size = w3.heap.size + 1 := by simp
  refine ⟨⟨fv, v4, vals ++ [.slice va vn vc], h3.setLog ?_ k45 (fun _ h => .inl h) ?_ ?_ ?_ ?_ ?_⟩, ?_⟩
  · rw [hW, heap_setCell_at hh]; rfl
  · refine k5.owns (by simpa using o4) (fun k hk e => ne_of_tag (owns_tag o4 hk) (tag_cells hh) (by decide) e)
  · simp [h.len]
  · intro i v l' hv hl'
    by_cases hi : i < vals.length
    · rw [List.getElem?_append_left hi] at hv
      rw [List.getElem?_append_left (by rw [← h.len]; exact hi)] at hl'
      exact h3.entKept k45 t115 hv hl'
    · rw [List.getElem?_append_right (by omega)] at hv
      rw [List.getElem?_append_right (by rw [← h.len]; omega)] at hl'
      have e0 : i - vals.length = 0 := by
        by_cases h0 : i - vals.length = 0
        · exact h0
        · obtain ⟨j, hj⟩ : ∃ j, i - vals.length = j + 1 := ⟨i - vals.length - 1, by omega⟩
          rw [hj] at hv
          simp at hv
      rw [e0] at hv
      rw [← h.len, e0] at hl'
      simp at hv hl'
      subst hv hl'
      exact k45.owns (owns_base e3 (fun _ _ => Nat.zero_le _)) (fun j hj => t115 j (owns_tag e3 hj))
  · intro k hk
    have hl := (o4.lt k hk).2
    rcases p4 with p | p
    · exact .inl (h.ownL k (by rw [← p]; exact hk))
    · rw [p] at hk
      simp only [Option.some.injEq] at hk
      exact .inr ⟨by omega, by omega⟩
  · intro i v hv k hk
    by_cases hi : i < vals.length
    · rw [List.getElem?_append_left hi] at hv
      exact .inl (h.ownE i v hv k hk)
    · rw [List.getElem?_append_right (by omega)] at hv
      have e0 : i - vals.length = 0 := by
        by_cases h0 : i - vals.length = 0
        · exact h0
        · obtain ⟨j, hj⟩ : ∃ j, i - vals.length = j + 1 := ⟨i - vals.length - 1, by omega⟩
          rw [hj] at hv
          simp at hv
      rw [e0] at hv
      simp at hv
      subst hv
      have := e3.lt k hk
      exact .inr ⟨this.1, by omega⟩
  · refine (Keeps.ofFresh f3).then k45 (fun i _ e => ?_)
    rcases e with rfl | e
    · exact h.ownR
    · exact h.ownL i e

theorem RefAt.grow {B : Nat → Prop} (h : RefAt w A r ρ) (hAB : ∀ i, A i → B i) : RefAt w B r ρ := by
  obtain ⟨fv, lv, vals, h⟩ := h
  exact ⟨fv, lv, vals, h.kept (S := fun _ => False) (Keeps.refl _ _) (fun _ _ e => e) hAB⟩

def RRemove (ρ : Rf) (l : List Ent) (s : Text) (e : Int) (ρ' : Rf) : Prop :=
  (ρ.left = 0 ∧ e = 6 ∧ ρ' = ρ.tick) ∨ (ρ.left ≠ 0 ∧ (∀ n, (s, n) ∉ l) ∧ e = 4 ∧ ρ' = ρ.tick) ∨ (ρ.left ≠ 0 ∧ (∃ n, (s, n) ∈ l) ∧ e = 0 ∧ ρ' = { ρ.tick with log := ρ.log ++ [withoutE l s] })

set_option maxHeartbeats 8000000 in
set_option maxRecDepth 100000 in
theorem rremove_any (h : RefIn w A r ρ fv lv vals) (hlf : -1 ≤ ρ.left ∧ ρ.left < 9223372036854775808) {m : Nat} {l : List Ent} (hm : ρ.log.length = m + 1) (hl : ρ.log[m]? = some l) (hll : l.length ≤ 1099511627) (hlog : ρ.log.length ≤ 1099511627) (s : ByteArray) :
    Calls Try.prog 48 #[ptr r, .string s] w fun e w' => ∃ k ρ', e = .returned (.int .i64 k) ∧ RRemove ρ l s.data.toList k ρ' ∧ RefAt w' (ext A w w') r ρ' ∧ Keeps A w w' := by
  have hd := rdead_any h hlf
  have H : Hid (RefIn w A r ρ fv lv vals) := h
  have hvl : vals.length = m + 1 := by rw [h.len]; exact hm
  have hvb : vals.length ≤ 1099511627776 := by rw [h.len]; omega
  have HVL : Hid (vals.length = m + 1) := hvl
  clear h hvl
  unfold ptr at *
  cases hb : (ρ.left == 0)
  · rw [hb] at hd
    have HB : Hid (ρ.left ≠ 0) := by
      show ρ.left ≠ 0
      simpa using hb
    clear hb
    go_enter Try.func48, Try.ntmps48
    go_wp2_with fail
    refine hd.mono ?_
    rintro e w1 ⟨rfl, h1, k1, hs1⟩
    have Hs1 : Hid (w1.heap.size = w.heap.size) := hs1
    have kA : Keeps A w w1 := k1.mono (fun i _ e => by subst e; exact H.out.ownR)
    have hat := rat_any h1 hm hl hll s w1 (Keeps.refl _ w1)
    have H1 : Hid (RefIn w1 A r ρ.tick fv lv vals) := h1
    clear hd h1 hs1
    unfold ptr at hat
    go_wp2_with fail
    refine hat.mono ?_
    rintro e w2 ⟨k, rfl, hk, f2⟩
    have h2 := H1.out.kept (A' := A) f2 (fun _ _ e => e) (fun _ h => h)
    have k2 : Keeps A w w2 := kA.then f2 (fun _ _ e => e.elim)
    have H2 : Hid (RefIn w2 A r ρ.tick fv lv vals) := h2
    clear hat
    rcases hk with ⟨n, rfl, hn⟩ | ⟨rfl, hno⟩
    · have HM : Hid ((s.data.toList, n) ∈ l) := hn
      obtain ⟨v, hv⟩ : ∃ v, vals[m]? = some v := ⟨vals[m]'(by have := HVL.out; omega), List.getElem?_eq_getElem _⟩
      have hE := h2.ents m v l hv hl
      have hnow := rnow_any h2 HVL.out hv w2.drew (Keeps.drew (Keeps.refl _ w2))
      have hcell : ∀ W, Fresh w2 W → W.cell? ⟨r, 1, none⟩ = some lv := fun W f => (h2.kept (A' := A) f (fun _ _ e => e) (fun _ h => h)).cells W rfl |>.2.1
      have hown : ∀ W, Fresh w2 W → W.ownsRow 0 109 1 lv vals.length vals := fun W f => f.owns h2.log (fun _ _ e => e)
      have hents : ∀ W, Fresh w2 W → EntsAt W 0 v l := fun W f => f.owns hE (fun _ _ e => e)
      have c1 : w2.drew.cell? ⟨r, 1, none⟩ = some lv := hcell w2.drew (Keeps.drew (Keeps.refl _ w2))
      obtain ⟨la, ln, lc, rfl⟩ : ∃ a n c, lv = .slice a n c := by
        obtain ⟨a, c, h', _⟩ := own_form' h2.log
        exact ⟨a, _, c, h'⟩
      have z0 : ¬ ((n : Int) < 0) := by omega
      clear h2 hn hv hE
      unfold ptr at hnow
      go_wp2_with fail
      go_region_law (first | (refine step_append_log rfl (.tmp 15) (.tmp 20) rfl (.slice la ln lc) vals va _ vc (by simp [Act.eval]) (hown _ (f3.trans f4)) (by simp [Act.eval]) hvb ?_; intro v5 w5 o5 g5 p5; obtain ⟨a5, c5a, rfl, _⟩ := own_form' o5; have hlg := H2.out.logged (f3.trans f4) (owns_base e4 (fun k hk => Nat.le_trans f3.size (e4.lt k hk).1)) o5 g5 p5; have c5 : w5.cell? ⟨r, 1, none⟩ = some (.slice la ln lc) := (by rw [Lib.cell_of_heap hlg.1]; rfl); have z5 : w5.frozen? ⟨r, 1, none⟩ = false := Lib.frozen_of_heap hlg.1 1) | (go_simp; go_wp2_with (first | (go_at_call 75; refine hnow.mono ?_; rintro e w3 ⟨rfl, f3'⟩; have f3 : Fresh w2 w3 := ⟨f3'.os, f3'.tape, f3'.output, f3'.size, f3'.block⟩; have c3 := hcell w3 f3) | (go_at_call 78; refine (without_any 0 _ l s _ (hents _ f3) (by omega)).mono ?_; rintro e w4 ⟨v4, rfl, e4, f4⟩; obtain ⟨va, vc, rfl, _⟩ := own_form' e4; have c4 := hcell w4 (f3.trans f4); have c4' := hcell (w4.alloc (.cells #[.slice va (withoutE l s.data.toList).length vc] 109)) ((f3.trans f4).alloc _)))))
      all_goals
        refine (by assumption : ∀ (a : Act) (w : World), Code.wp Try.prog _ _ a w → _) _ _ ?_
        have hG := hlg.2 _ rfl
        have sW := hG.2.size
        have s2 := k2.size
        have HG : Hid _ := hG
        clear hlg hG
        go_wp2
        go_ret
        exact ⟨0, _, rfl, .inr (.inr ⟨HB.out, ⟨n, HM.out⟩, rfl, rfl⟩), HG.out.1.grow (fun i hi => hi.elim .inl (fun hi => .inr ⟨by omega, hi.2⟩)), k2.then HG.out.2 (fun _ _ e => e)⟩
    · have HN : Hid (∀ n, (s.data.toList, n) ∉ l) := hno
      clear hno h2
      go_wp2
      go_ret
      exact ⟨4, ρ.tick, rfl, .inr (.inl ⟨HB.out, HN.out, rfl, rfl⟩), ⟨fv, lv, vals, H2.out.kept (S := fun _ => False) (Keeps.refl _ _) (fun _ _ e => e) (fun _ h => .inl h)⟩, k2⟩
  · rw [hb] at hd
    have HB : Hid (ρ.left = 0) := by
      show ρ.left = 0
      simpa using hb
    clear hb
    go_enter Try.func48, Try.ntmps48
    go_wp2_with fail
    refine hd.mono ?_
    rintro e w1 ⟨rfl, h1, k1, _⟩
    have kA : Keeps A w w1 := k1.mono (fun i _ e => by subst e; exact H.out.ownR)
    clear hd
    go_wp2
    go_ret
    exact ⟨6, ρ.tick, rfl, .inl ⟨HB.out, rfl, rfl⟩, ⟨fv, lv, vals, h1.kept (S := fun _ => False) (Keeps.refl _ _) (fun _ _ e => e) (fun _ h => .inl h)⟩, kA⟩
end
end Go.Proofs.Ytegbkpjcjlihmaa
