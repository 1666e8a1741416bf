/-
  (*Reader).Feed.
-/
import Derived.Test.YtegbkpjcjlihmaaRead
namespace Go.Proofs.Ytegbkpjcjlihmaa
open Go.RowKit

/-- an append onto a row of one's own, as one step of a region that draws its order -/
theorem step_append_placed {P : Program} {ops : Array Oper} {o : Oper} {a : Act} {w : World} {K : Act → World → Prop} {Q : Exit → Act → World → Prop} {E : Prop}
    (hg : o.guard = none) (s x : Operand) (t : TypeId) (hop : o.op = Op.call { callee := Callee.builtin Builtin.append, args := #[s, x], argTypes := #[t, t] })
    (base : Nat) (e : TypeId) (i : TypeInfo) (z : Value) (size bytes : Nat) (ht : P.underlying t = some (.slice e)) (hi : P.info? e = some i) (hz : i.zero = some z)
    (hsize : i.size = size) (hby : i.bytes = bytes) (hzs : z.cells.size = size) (hsz : 0 < size)
    (v : Value) (n : Nat) (xs : List Value) (hs : a.eval s = v) (hown : w.ownsRow base e size v n xs)
    (ad : Addr) (m c : Nat) (news : List Value) (hx : a.eval x = .slice (some ad) m c) (hl : news.length = m * size) (hnews : ∀ j u, news[j]? = some u → w.cell? (ad.add j) = some u) (h1 : ∀ u ∈ news, u.oneCell' = true)
    (h63 : n + m ≤ maxLen) (hbytes : (n + m) * bytes ≤ 140737488355328) (hbase : base ≤ w.heap.size)
    (h : ∀ v' w', w'.ownsRow base e size v' (n + m) (xs ++ news) → w.grownBy w' v.ownBlock → Placed w v v' → K (a.put o.dst v') w') :
    if Region.wanted o (yielded ops a.tmps) = true then Oper.wp P o a w K Q else E := by
  have hw : Region.wanted o (yielded ops a.tmps) = true := by simp [Region.wanted, hg]
  rw [if_pos hw]
  obtain ⟨v', w', hr, h2, h3, _⟩ := run_append_own (P := P) w base t o.type e i z size bytes ht hi hz hsize hby hzs hsz v n xs hown ad m c news hl hnews h1 h63 hbytes hbase
  have hp := append_place w base t o.type e i z size bytes ht hi hz hsize hby v n xs hown ad m c news hl hnews h1 h63 hbytes hr
  unfold Oper.wp
  simp [execOp, hop, resolve, invoke, builtin, hs, hx, hr, Result.andThen]
  exact h v' w' h2 h3 hp

theorem LineAt.drewN {w : World} {B most b : Nat} {v : Value} {body : List UInt8} {cr : Bool} (h : LineAt w B most b v body cr) (n : Nat) : LineAt (w.drewN n) B most b v body cr := ⟨h.heap, h.buf, h.ne⟩

theorem endsAt_is (B most b : Nat) (v : Value) (body : List UInt8) (cr : Bool) (c : UInt8) (x : Bool) (hx : (cr && c == 10) = x) (w : World) (h : LineAt w B most b v body cr) :
    Calls Try.prog 26 #[.pointer (some ⟨b, 0, none⟩), .int .u8 c.toNat] w fun e w' => e = .returned (.bool x) ∧ w' = w := by
  subst hx
  exact endsAt_any B most b v body cr c w h

theorem told_agg (B most b : Nat) (v : Value) (body : List UInt8) (cr : Bool) (w : World) (h : LineAt w B most b v body cr) (hm : most ≤ 100000) (hlen : body.length < 4611686018427387904) :
    Calls Try.prog 27 #[.pointer (some ⟨b, 0, none⟩), .int .i64 most] w fun e w' => e = .returned (.agg #[.string ⟨(lineOf most body).1.toArray⟩, .int .i64 (lineOf most body).2]) ∧ Keeps (fun k => v.ownBlock = some k) w w' :=
  told_any B most b v body cr w h hm hlen

/-- what holds behind each byte -/
def FeedInv (w wr : World) (most rb lb0 : Nat) (v0 : Value) (cur0 pre : List UInt8) (ve : Value) : Prop :=
  ∃ lb v, Rd wr most rb lb v (cutFrom cur0 pre).2 ∧ LinesAt wr w.heap.size most ve (cutFrom cur0 pre).1 ∧ (lb = lb0 ∨ w.heap.size ≤ lb) ∧ Newer w v0 v ∧ Keeps (owned rb lb0 v0) w wr

theorem take_snoc (s : ByteArray) (k : Nat) (h : k < s.size) : s.data.toList.take (k + 1) = s.data.toList.take k ++ [s[k]] := by
  rw [List.take_succ_eq_append_getElem (by simpa using h)]; rfl

theorem rows_apart {w : World} {base most rb lb : Nat} {v ve : Value} {cur : List UInt8} {ls : List (List UInt8)} (h : Rd w most rb lb v cur) (hl : LinesAt w base most ve ls) : ∀ k, ve.ownBlock = some k → ¬ (k = lb ∨ v.ownBlock = some k) := by
  intro k hk e
  rcases e with rfl | e
  · obtain ⟨⟨p, hp, hh⟩, _, _⟩ := h.line
    exact own_ne hl hh (by decide) hk
  · exact own_ne_own hl h.line.buf.1 (by decide) k hk e

theorem owned_back {w : World} {rb lb lb1 : Nat} {v v1 : Value} (hlb : lb1 = lb ∨ w.heap.size ≤ lb1) (hnv : Newer w v v1) : ∀ i, i < w.heap.size → (i = lb1 ∨ v1.ownBlock = some i) → owned rb lb v i := by
  intro i hi e
  rcases e with rfl | e
  · rcases hlb with rfl | h
    · exact .inr (.inl rfl)
    · omega
  · rcases hnv i e with h | h
    · exact .inr (.inr h)
    · omega

theorem feed_more {w w1 w2 : World} {most rb lb lb1 : Nat} {v v1 v2 ve : Value} {cur pre c0 : List UInt8} {ls : List (List UInt8)} {c : UInt8} (hend : ¬ (crOf c0 = true ∧ c = 10)) (hs : cutFrom cur pre = step (ls, c0) c)
    (hrd : Rd w1 most rb lb1 v1 c0) (hls : LinesAt w1 w.heap.size most ve ls) (hlb : lb1 = lb ∨ w.heap.size ≤ lb1) (hnv : Newer w v v1) (hk : Keeps (owned rb lb v) w w1)
    (hl2 : LineAt w2 0 most lb1 v2 (bodyOf (c0 ++ [c])) (crOf (c0 ++ [c]))) (hn2 : Newer w1.drew v1 v2) (hk2 : Keeps (fun k => k = lb1 ∨ v1.ownBlock = some k) w1.drew w2) : FeedInv w w2 most rb lb v cur pre ve := by
  rw [step_more hend] at hs
  unfold FeedInv
  rw [hs]
  have hk2' : Keeps (fun k => k = lb1 ∨ v1.ownBlock = some k) w1 w2 := ⟨hk2.os, hk2.tape, hk2.output, hk2.size, hk2.block⟩
  refine ⟨lb1, v2, ⟨hk2'.heap hrd.heap ?_, hl2⟩, hk2'.owns hls (rows_apart hrd hls), hlb, hnv.trans hn2 hk.size, hk.then hk2' (owned_back hlb hnv)⟩
  rintro (e | e)
  · exact hrd.ne e
  · exact hrd.ne2 e

theorem cells_new (w : World) (cs : List Value) (T : TypeId) : ∀ j u, cs[j]? = some u → (w.alloc (.cells cs.toArray T)).cell? ((⟨w.heap.size, 0, none⟩ : Addr).add j) = some u := by
  intro j u hu
  have hadd : (⟨w.heap.size, 0, none⟩ : Addr).add j = ⟨w.heap.size, j, none⟩ := by unfold Addr.add; split <;> simp_all
  rw [hadd, Lib.cell_of_heap (heap_alloc_new w _)]
  simpa using hu

theorem step_append_line {ops : Array Oper} {o : Oper} {a : Act} {w : World} {K : Act → World → Prop} {Q : Exit → Act → World → Prop} {E : Prop}
    (hg : o.guard = none) (s x : Operand) (hop : o.op = Op.call { callee := Callee.builtin Builtin.append, args := #[s, x], argTypes := #[26, 26] })
    (base most : Nat) (ve : Value) (ls : List (List UInt8)) (l : List UInt8) (hs : a.eval s = ve) (hown : LinesAt w base most ve ls)
    (ad : Addr) (hx : a.eval x = .slice (some ad) 1 1) (hc : ∀ j u, (lineCells most l)[j]? = some u → w.cell? (ad.add j) = some u) (hn : ls.length < 1099511627776) (hbase : base ≤ w.heap.size)
    (h : ∀ v' w', LinesAt w' base most v' (ls ++ [l]) → w.grownBy w' ve.ownBlock → Placed w ve v' → K (a.put o.dst v') w') :
    if Region.wanted o (yielded ops a.tmps) = true then Oper.wp Try.prog o a w K Q else E := by
  obtain ⟨i0, hi0, hz0, hz1, hz2⟩ := infoLine'
  refine step_append_placed hg s x 26 hop base 36 i0 _ 2 24 Try.underlying26 hi0 hz0 hz1 hz2 rfl (by decide) ve ls.length _ hs hown ad 1 1 (lineCells most l) hx rfl hc ?_ (by unfold maxLen; omega) (by omega) hbase ?_
  · intro u hu
    simp [lineCells] at hu
    rcases hu with rfl | rfl <;> rfl
  · intro v' w' ho hgr hp
    refine h v' w' ?_ hgr hp
    unfold LinesAt
    simpa using ho

theorem told_lines {w1 w2 : World} {base most rb lb : Nat} {v ve : Value} {cur : List UInt8} {ls : List (List UInt8)} (h : Rd w1 most rb lb v cur) (hl : LinesAt w1 base most ve ls) (hk : Keeps (fun k => v.ownBlock = some k) w1.drew w2) : LinesAt w2 base most ve ls := by
  have hk' : Keeps (fun k => v.ownBlock = some k) w1 w2 := ⟨hk.os, hk.tape, hk.output, hk.size, hk.block⟩
  exact hk'.owns hl (fun k hk e => rows_apart h hl k hk (.inr e))

theorem feed_rb {w w1 w2 w3 : World} {most rb lb1 : Nat} {v1 ve : Value} {c0 : List UInt8} {ls : List (List UInt8)} {O : Obj}
    (hrd : Rd w1 most rb lb1 v1 c0) (hls : LinesAt w1 w.heap.size most ve ls) (hk2 : Keeps (fun k => v1.ownBlock = some k) w1.drew w2) (g3 : (w2.alloc O).grownBy w3 ve.ownBlock) :
    w3.heap[rb]? = some (.cells #[.int .i64 most, .pointer (some ⟨lb1, 0, none⟩)] 64 (0, 0)) := by
  have hk' : Keeps (fun k => v1.ownBlock = some k) w1 w2 := ⟨hk2.os, hk2.tape, hk2.output, hk2.size, hk2.block⟩
  have h2 := hk'.heap hrd.heap hrd.ne2
  have hlt := heap_lt h2
  rw [g3.block rb (by simp; omega) (fun e => own_ne hls hrd.heap (by decide) e.symm), Lib.alloc_old w2 _ rb hlt]
  exact h2

theorem feed_end {w w1 w2 w3 : World} {most rb lb lb1 : Nat} {v v1 v3 ve : Value} {cur pre c0 : List UInt8} {ls : List (List UInt8)} {c : UInt8} {O : Obj} (hend : crOf c0 = true ∧ c = 10) (hs : cutFrom cur pre = step (ls, c0) c)
    (hrd : Rd w1 most rb lb1 v1 c0) (hls : LinesAt w1 w.heap.size most ve ls) (hnv : Newer w v v1) (hk : Keeps (owned rb lb v) w w1)
    (hk2 : Keeps (fun k => v1.ownBlock = some k) w1.drew w2) (o3 : LinesAt w3 w.heap.size most v3 (ls ++ [bodyOf c0])) (g3 : (w2.alloc O).grownBy w3 ve.ownBlock) :
    FeedInv w ((w3.alloc (.cells #[.pointer none, .slice none 0 0, .int .i64 0, .bool false] 62)).setCell ⟨rb, 1, none⟩ (.pointer (some ⟨w3.heap.size, 0, none⟩))) most rb lb v cur pre v3 := by
  have hb3 := feed_rb hrd hls hk2 g3
  have hlt3 := heap_lt hb3
  have hk' : Keeps (fun k => v1.ownBlock = some k) w1 w2 := ⟨hk2.os, hk2.tape, hk2.output, hk2.size, hk2.block⟩
  have hw2 : Keeps (owned rb lb v) w w2 := hk.then hk' (fun i hi e => by
    rcases hnv i e with h | h
    · exact .inr (.inr h)
    · omega)
  have hw3 : Keeps (owned rb lb v) w w3 := (hw2.alloc O).grown g3 (fun k e hk => by
    have := (hls.lt k e).1
    omega)
  obtain ⟨he1, rfl⟩ := hend
  rw [step_end he1] at hs
  unfold FeedInv
  rw [hs]
  have hb4 : (w3.alloc (.cells #[.pointer none, .slice none 0 0, .int .i64 0, .bool false] 62)).heap[rb]? = some (.cells #[.int .i64 most, .pointer (some ⟨lb1, 0, none⟩)] 64 (0, 0)) := (Lib.alloc_old w3 _ rb hlt3).trans hb3
  have hk5 : Keeps (fun k => k = rb) (w3.alloc (.cells #[.pointer none, .slice none 0 0, .int .i64 0, .bool false] 62)) ((w3.alloc (.cells #[.pointer none, .slice none 0 0, .int .i64 0, .bool false] 62)).setCell ⟨rb, 1, none⟩ (.pointer (some ⟨w3.heap.size, 0, none⟩))) := (Keeps.refl (fun k => k = rb) _).setCell (p := ⟨rb, 1, none⟩) (fun _ => rfl) _
  refine ⟨w3.heap.size, .slice none 0 0, ⟨?_, ?_⟩, ?_, .inr hw3.size, ?_, ?_⟩
  · rw [heap_setCell_at hb4]; rfl
  · exact hk5.line (new_line w3 most) (by omega) (fun k hk => by simp [Value.ownBlock] at hk)
  · exact hk5.owns (o3.alloc _) (fun k hk e => own_ne o3 hb3 (by decide) (by rw [hk, e]))
  · intro k hk; simp [Value.ownBlock] at hk
  · exact (hw3.alloc _).setCell (p := ⟨rb, 1, none⟩) (fun _ => .inl rfl) _

set_option maxHeartbeats 2000000 in
set_option maxRecDepth 100000 in
theorem feed_any (most rb lb : Nat) (v : Value) (cur : List UInt8) (s : ByteArray) (w : World) (h : Rd w most rb lb v cur) (hm : most ≤ 100000) (hlen : cur.length + s.size < 1099511627776) :
    Calls Try.prog 10 #[.pointer (some ⟨rb, 0, none⟩), .string s] w fun e w' => ∃ ve, e = .returned ve ∧ FeedInv w w' most rb lb v cur s.data.toList ve := by
  have c1 : w.cell? ⟨rb, 1, none⟩ = some (.pointer (some ⟨lb, 0, none⟩)) := by rw [Lib.cell_of_heap h.heap]; rfl
  have H0 : Hid (Rd w most rb lb v cur) := h
  clear h
  go_enter Try.func10, Try.ntmps10
  go_wp2_with fail
  go_loopw [5, 18] (fun t5 t18 wr => ∃ i : Nat, i ≤ s.size ∧ t18 = .int .i64 i ∧ FeedInv w wr most rb lb v cur (s.data.toList.take i) t5) (fun _ t18 _ => s.size - (intOf t18).toNat)
  case atStart =>
    refine ⟨0, Nat.zero_le _, rfl, lb, v, ?_, ?_, .inl rfl, Newer.refl _ _, Keeps.refl _ _⟩
    · exact H0.out
    · exact World.ownsRow_nil _ _ _ _
  case round =>
    clear c1 H0
    obtain ⟨i, hi, rfl, lb1, v1, hrd, hls, hlb, hnv, hk⟩ := hrel
    by_cases hlt : i < s.size
    · have hcl := cut_lengths (s.data.toList.take i) cur
      have htl : (s.data.toList.take i).length ≤ i := List.length_take_le _ _
      have hts := take_snoc s i hlt
      have hsn := cut_snoc cur (s.data.toList.take i) s[i]
      rw [← hts] at hsn
      generalize hcut : cutFrom cur (s.data.toList.take i) = st at *
      obtain ⟨ls, c0⟩ := st
      have HS : Hid (cutFrom cur (s.data.toList.take (i + 1)) = step (ls, c0) s[i]) := hsn
      simp only [] at hrd hls hcl
      clear hsn hts hcut
      have hLn := hrd.line
      have c0' : wr.cell? ⟨rb, 0, none⟩ = some (.int .i64 most) := by rw [Lib.cell_of_heap hrd.heap]; rfl
      have c1' : wr.cell? ⟨rb, 1, none⟩ = some (.pointer (some ⟨lb1, 0, none⟩)) := by rw [Lib.cell_of_heap hrd.heap]; rfl
      have hi1 : (0 : Int) ≤ (i : Int) := by omega
      have hi2 : (i : Int) < (s.size : Int) := by omega
      obtain ⟨c, hc⟩ : ∃ c, s[i] = c := ⟨_, rfl⟩
      rw [hc] at HS
      by_cases hend : crOf c0 = true ∧ c = 10
      · obtain ⟨he1, he2⟩ := hend
        have heb : (crOf c0 && c == 10) = true := by rw [he1, he2]; rfl
        have HE : Hid (crOf c0 = true ∧ c = 10) := ⟨he1, he2⟩
        clear he1 he2
        go_wp2_with fail
        go_quiet ((go_at_call 26; exact Calls.quiet_of_same (endsAt_is 0 most lb1 v1 _ _ c _ heb _ (hLn.drewN _))))
        have hF : Fresh wr (wr.drewN nq) := (Keeps.refl _ _).drewN nq
        generalize wr.drewN nq = w1 at hF ⊢
        have hrd1 := hF.rd hrd (fun _ _ e => e)
        have hls1 : LinesAt w1 w.heap.size most u5 ls := hF.owns hls (fun _ _ e => e)
        have hk1 := hk.trans hF.ofFresh
        have d0 : w1.cell? ⟨rb, 0, none⟩ = some (.int .i64 most) := by rw [Lib.cell_of_heap hrd1.heap]; rfl
        have d1 : w1.cell? ⟨rb, 1, none⟩ = some (.pointer (some ⟨lb1, 0, none⟩)) := by rw [Lib.cell_of_heap hrd1.heap]; rfl
        have hl1 : LineAt w1.drew 0 most lb1 v1 (bodyOf c0) (crOf c0) := ⟨hrd1.line.heap, hrd1.line.buf, hrd1.line.ne⟩
        have hl0 : (bodyOf c0).length < 4611686018427387904 := by have := body_length_le c0; omega
        have hls0 : ls.length < 1099511627776 := by omega
        clear hrd hls hk hF c0' c1' hLn
        go_wp2_with fail
        go_region_law (first | (refine step_append_line rfl (.tmp 29) (.tmp 39) rfl w.heap.size most u5 ls (bodyOf c0) (by simp [Act.eval]) (o2.alloc _) ⟨w2.heap.size, 0, none⟩ (by simp [Act.eval]) (cells_new _ _ _) hls0 (Nat.le_trans s2 (by simp)) ?_; intro v3 w3 o3 g3 p3) | (go_simp; go_wp2_with (go_at_call 27; refine (told_agg 0 most lb1 v1 (bodyOf c0) (crOf c0) _ hl1 hm hl0).mono ?_; rintro e w2 ⟨rfl, hk2⟩; have o2 := told_lines hrd1 hls1 hk2; have s2 := Nat.le_trans hk1.size hk2.size)))
        all_goals
          have hb3 := feed_rb hrd1 hls1 hk2 g3
          have hlt3 := heap_lt hb3
          have e3 : (w3.alloc (.cells #[.pointer none, .slice none 0 0, .int .i64 0, .bool false] 62)).cell? ⟨rb, 1, none⟩ = some (.pointer (some ⟨lb1, 0, none⟩)) := by
            rw [Lib.cell_of_heap ((Lib.alloc_old w3 _ rb hlt3).trans hb3)]; rfl
          have f3 : (w3.alloc (.cells #[.pointer none, .slice none 0 0, .int .i64 0, .bool false] 62)).frozen? ⟨rb, 1, none⟩ = false := Lib.frozen_of_heap ((Lib.alloc_old w3 _ rb hlt3).trans hb3) 1
          have hfin := feed_end HE.out HS.out hrd1 hls1 hnv hk1 hk2 o3 g3
          rw [World.setCell_alloc_past _ _ _ _ hlt3] at hfin
          clear hb3 o3 g3 p3
          go_wp2
          go_roundw
          case rel => exact ⟨i + 1, by omega, by go_num, hfin⟩
          case measure => simp [intOf]; omega
      · have heb : (crOf c0 && c == 10) = false := by
          rw [Bool.eq_false_iff]
          intro h
          rw [Bool.and_eq_true] at h
          exact hend ⟨h.1, beq_iff_eq.1 h.2⟩
        have HE : Hid (¬ (crOf c0 = true ∧ c = 10)) := hend
        clear hend
        go_wp2_with fail
        go_quiet ((go_at_call 26; exact Calls.quiet_of_same (endsAt_is 0 most lb1 v1 _ _ c _ heb _ (hLn.drewN _))))
        have hF : Fresh wr (wr.drewN nq) := (Keeps.refl _ _).drewN nq
        generalize wr.drewN nq = w1 at hF ⊢
        have hrd1 := hF.rd hrd (fun _ _ e => e)
        have hls1 : LinesAt w1 w.heap.size most u5 ls := hF.owns hls (fun _ _ e => e)
        have hk1 := hk.trans hF.ofFresh
        have d0 : w1.cell? ⟨rb, 0, none⟩ = some (.int .i64 most) := by rw [Lib.cell_of_heap hrd1.heap]; rfl
        have d1 : w1.cell? ⟨rb, 1, none⟩ = some (.pointer (some ⟨lb1, 0, none⟩)) := by rw [Lib.cell_of_heap hrd1.heap]; rfl
        have hl1 : LineAt w1.drew 0 most lb1 v1 (bodyOf c0) (crOf c0) := ⟨hrd1.line.heap, hrd1.line.buf, hrd1.line.ne⟩
        have hl0 : c0.length < 4611686018427387000 := by omega
        clear hrd hls hk hF c0' c1' hLn
        go_wp2_with fail
        go_region_with (go_at_call 28; refine (take_any 0 most lb1 v1 c0 c _ hl1 hm hl0 (Nat.zero_le _)).mono ?_; rintro e w2 ⟨rfl, v2, hl2, hn2, hk2⟩)
        all_goals
          go_wp2
          go_roundw
          case rel => exact ⟨i + 1, by omega, by go_num, feed_more HE.out HS.out hrd1 hls1 hlb hnv hk1 hl2 hn2 hk2⟩
          case measure => simp [intOf]; omega
    · obtain rfl : i = s.size := by omega
      go_wp2
      go_ret
      refine ⟨_, rfl, lb1, v1, ?_, ?_, hlb, hnv, hk⟩
      · rw [List.take_of_length_le (by simp)] at hrd; exact hrd
      · rw [List.take_of_length_le (by simp)] at hls; exact hls

end Go.Proofs.Ytegbkpjcjlihmaa
