/-
  The law WireReads: its walk.
-/
import Derived.Test.YtegbkpjcjlihmaaTwo
namespace Go.Proofs.Ytegbkpjcjlihmaa
open Go.RowKit

/-- what came up to the k-th piece -/
def upTo (ls : List (List UInt8)) (k : Nat) : List UInt8 := (ls.take k).flatten

theorem upTo_snoc (ls : List (List UInt8)) (k : Nat) (l : List UInt8) (h : ls[k]? = some l) : upTo ls (k + 1) = upTo ls k ++ l := by
  unfold upTo
  rw [List.take_add_one, h]
  simp

theorem upTo_le (ls : List (List UInt8)) (k : Nat) : (upTo ls k).length ≤ ls.flatten.length := by
  conv => rhs; rw [← List.take_append_drop k ls]
  unfold upTo
  rw [List.flatten_append, List.length_append]
  omega

theorem str_two (a l t : List UInt8) (h : t = a ++ l) : Value.string ((⟨a.toArray⟩ : ByteArray) ++ ⟨l.toArray⟩) = Value.string ⟨t.toArray⟩ := by
  rw [h]
  congr 1

/-- what holds behind the k-th piece -/
def ReadInv (w wr : World) (most rb ro : Nat) (ls : List (List UInt8)) (xl k : Nat) (last want : Value) : Prop :=
  ∃ lb v lbo vo curo prev, Two w wr most rb lb v (cutFrom [] (upTo ls k)).2 ro lbo vo curo ∧ curo.length ≤ k * xl ∧ LinesAt wr w.heap.size most last prev ∧ RLinesAt wr w.heap.size most want prev ∧ prev.length < 1099511627776

set_option maxHeartbeats 4000000 in
set_option maxRecDepth 100000 in
theorem lawReads_some (most : Nat) (h1 : 1 ≤ most) (h2 : most ≤ 100000) (v : Value) (ls : List (List UInt8)) (x : ByteArray) (m : Int) (w : World) (hm : w.cell? ⟨0, 0, none⟩ = some (.int .i64 m)) (hv : Strs w v ls)
    (hn : ls.length < 1099511627776) (hT : ls.flatten.length < 4294967281) (hx : (ls.length + 1) * x.size < 1099511627776) :
    Calls Try.prog 3 #[.int .i64 most, v, .string x] w fun e w' => e = .returned (.bool true) ∧ Fresh w w' := by
  obtain ⟨ao, cap, hve, hc1, hc2, hao⟩ := hv
  subst hve
  have HA : Hid (ls.length ≠ 0 → ∃ b off, ao = some ⟨b, off, none⟩ ∧ ∀ k l, ls[k]? = some l → w.cell? ⟨b, off + k, none⟩ = some (.string ⟨l.toArray⟩)) := hao
  clear hao
  have a1 : decide ((most : Int) < 1) = false := decide_eq_false (by omega)
  have a2 : decide ((100000 : Int) < (most : Int)) = false := decide_eq_false (by omega)
  go_enter Try.func3, Try.ntmps3
  go_wp2_with fail
  refine (new_some most h1 h2 w).mono ?_
  rintro e w1 ⟨rb, rfl, lb, vr, hr1, n1, f1⟩
  go_wp2_with fail
  refine (new_some most h1 h2 w1).mono ?_
  rintro e w2 ⟨ro, rfl, lbo, vo, hr2, n2, f2⟩
  have hTwo := Two.make hr1 n1 f1 hr2 n2 f2
  clear hr1 n1 f1 hr2 n2 f2
  go_wp2_with fail
  go_loopw [9, 10, 11, 12, 13] (fun t9 t10 t11 t12 t13 wr => ∃ k : Nat, k ≤ ls.length ∧ t13 = .int .i64 k ∧ t9 = .string ⟨(upTo ls k).toArray⟩ ∧ t10 = .int .i64 (cutFrom [] (upTo ls k)).1.length ∧ ReadInv w wr most rb ro ls x.size k t11 t12) (fun _ _ _ _ t13 _ => ls.length - (intOf t13).toNat)
  case atStart =>
    refine ⟨0, Nat.zero_le _, rfl, rfl, rfl, lb, vr, lbo, vo, [], [], hTwo, Nat.zero_le _, World.ownsRow_nil _ _ _ _, World.ownsRow_nil _ _ _ _, by decide⟩
  case round =>
    clear hTwo a1 a2
    obtain ⟨k, hk, rfl, rfl, rfl, lb, vr, lbo, vo, curo, prev, hTwo, hco, hlast, hwant, hpl⟩ := hrel
    by_cases hlt : k < ls.length
    · obtain ⟨b, off, rfl, hc⟩ := HA.out (by omega)
      obtain ⟨l, hl⟩ : ∃ l, ls[k]? = some l := ⟨ls[k], List.getElem?_eq_getElem hlt⟩
      have hcw := hc k l hl
      have Hup : Hid (upTo ls (k + 1) = upTo ls k ++ l) := upTo_snoc ls k l hl
      have hub := upTo_le ls (k + 1)
      have hul := congrArg List.length (upTo_snoc ls k l hl)
      rw [List.length_append] at hul
      have hcutA := cutFrom_append [] (upTo ls k) l
      rw [← upTo_snoc ls k l hl] at hcutA
      have hcl := cut_lengths (upTo ls k) []
      obtain ⟨⟨c1, cur⟩, hC⟩ : ∃ st, cutFrom [] (upTo ls k) = st := ⟨_, rfl⟩
      rw [hC] at hTwo hcutA hcl ⊢
      simp only [List.length_nil, Nat.zero_add] at hTwo hcutA hcl ⊢
      have hcl2 := cut_lengths l cur
      obtain ⟨⟨nl, nr⟩, hN⟩ : ∃ st, cutFrom cur l = st := ⟨_, rfl⟩
      rw [hN] at hcutA hcl2
      simp only [] at hcutA hcl2
      have HC : Hid (cutFrom [] (upTo ls (k + 1)) = (c1 ++ nl, nr)) := hcutA
      have HN : Hid (cutFrom cur l = (nl, nr)) := hN
      have hb1 : curo.length + x.size < 1099511627776 := by
        have e : (k + 1) * x.size ≤ (ls.length + 1) * x.size := Nat.mul_le_mul_right _ (by omega)
        rw [Nat.add_mul, Nat.one_mul] at e
        omega
      have HB : Hid (k * x.size + x.size = (k + 1) * x.size) := by show _ = _; rw [Nat.add_mul, Nat.one_mul]
      have hb2 : (upTo ls k).length + l.length < 4294967281 := by omega
      have hels : (⟨l.toArray⟩ : ByteArray).data.toList = l := by simp
      have hsl : (⟨l.toArray⟩ : ByteArray).size = l.length := by show l.toArray.size = _; simp
      have hL : ∀ w4, Calls Try.prog 11 #[.string ⟨(upTo ls (k + 1)).toArray⟩, .int .i64 most, .int .i64 c1.length] w4 fun e w' => ∃ v, e = .returned v ∧ RLinesAt w' w4.heap.size most v nl ∧ Fresh w4 w' := by
        intro w4
        have e0 : (⟨(upTo ls (k + 1)).toArray⟩ : ByteArray).data.toList = upTo ls (k + 1) := by simp
        have h := lines_any ⟨(upTo ls (k + 1)).toArray⟩ most c1.length (by show (upTo ls (k + 1)).toArray.size < _; rw [List.size_toArray]; omega) (by omega) (by rw [e0, HC.out]; simp) w4
        rw [e0, HC.out] at h
        simpa using h
      have hQ : ∀ w4, Calls Try.prog 13 #[.string ⟨(upTo ls (k + 1)).toArray⟩] w4 fun e w' => ∃ v, e = .returned (.tuple #[v, .string ⟨nr.toArray⟩]) ∧ TextsAt w' w4.heap.size v (c1 ++ nl) ∧ Fresh w4 w' := by
        intro w4
        have e0 : (⟨(upTo ls (k + 1)).toArray⟩ : ByteArray).data.toList = upTo ls (k + 1) := by simp
        have h := refCut_any ⟨(upTo ls (k + 1)).toArray⟩ (by show (upTo ls (k + 1)).toArray.size < _; rw [List.size_toArray]; omega) w4
        rw [e0, HC.out] at h
        exact h
      have HL : Hid (∀ w4, Calls Try.prog 11 #[.string ⟨(upTo ls (k + 1)).toArray⟩, .int .i64 most, .int .i64 c1.length] w4 fun e w' => ∃ v, e = .returned v ∧ RLinesAt w' w4.heap.size most v nl ∧ Fresh w4 w') := hL
      have HQ : Hid (∀ w4, Calls Try.prog 13 #[.string ⟨(upTo ls (k + 1)).toArray⟩] w4 fun e w' => ∃ v, e = .returned (.tuple #[v, .string ⟨nr.toArray⟩]) ∧ TextsAt w' w4.heap.size v (c1 ++ nl) ∧ Fresh w4 w') := hQ
      have hb3 : cur.length + (⟨l.toArray⟩ : ByteArray).size < 1099511627776 := by rw [hsl]; omega
      have hb4 : nl.length < 1099511627776 := by omega
      have hb5 : nr.length < 4611686018427387904 := by omega
      have hb6 : c1.length + nl.length < 1099511627776 := by omega
      clear hcutA hl hc hub hul HA hC hN hels hsl hL hQ
      have z2 : (k : Int) < (ls.length : Int) := by omega
      have hcr := hTwo.fr
      have hcw1 := Fresh.cell hcr hcw
      clear hcr
      go_wp2_with fail
      refine (feed_any most ro lbo vo curo x wr hTwo.o h2 hb1).mono ?_
      rintro e w3 ⟨vx, rfl, hF3⟩
      obtain ⟨lbo3, vo3, hT3, _, hk3⟩ := hTwo.symm.feed hF3
      have hlast3 : LinesAt w3 w.heap.size most u11 prev := hk3.owns hlast (rows_free hTwo.o hlast (by decide) (by decide) (by decide))
      have hwant3 : RLinesAt w3 w.heap.size most u12 prev := hk3.owns hwant (rows_free hTwo.o hwant (by decide) (by decide) (by decide))
      have hco3 : (cutFrom curo x.data.toList).2.length ≤ (k + 1) * x.size := by
        have := (cut_lengths x.data.toList curo).1
        rw [← Lib.size_eq] at this
        rw [← HB.out]
        omega
      have hcw3 := Fresh.cell hT3.fr hcw
      clear hF3 hTwo hlast hwant hk3 hco hb1 hcw1
      go_wp2_with fail
      refine (feed_any most rb lb vr cur ⟨l.toArray⟩ w3 hT3.symm.r h2 hb3).mono ?_
      rintro e w4 ⟨ve, rfl, hF4⟩
      have hels : (⟨l.toArray⟩ : ByteArray).data.toList = l := by simp
      rw [hels] at hF4
      clear hels
      obtain ⟨lb4, v4, hT4, hls4, hk4⟩ := hT3.symm.feed hF4
      rw [HN.out] at hT4 hls4
      have hlast4 : LinesAt w4 w.heap.size most u11 prev := hk4.owns hlast3 (rows_free hT3.symm.r hlast3 (by decide) (by decide) (by decide))
      have hwant4 : RLinesAt w4 w.heap.size most u12 prev := hk4.owns hwant3 (rows_free hT3.symm.r hwant3 (by decide) (by decide) (by decide))
      have hcw4 := Fresh.cell hT4.fr hcw
      have hs34 := hT3.fr.size
      clear hF4 hlast3 hwant3 hk4 hcw3
      go_wp2_with fail
      rw [str_two (upTo ls k) l _ Hup.out]
      refine (HL.out w4).mono ?_
      rintro e w5 ⟨vm, rfl, hm5, hf5⟩
      have hT5 := hT4.fresh hf5
      have hls5 : LinesAt w5 w3.heap.size most ve nl := hf5.owns hls4 (fun _ _ e => e)
      have hlast5 : LinesAt w5 w.heap.size most u11 prev := hf5.owns hlast4 (fun _ _ e => e)
      have hwant5 : RLinesAt w5 w.heap.size most u12 prev := hf5.owns hwant4 (fun _ _ e => e)
      have hs45 := hT4.fr.size
      clear hT4 hls4 hlast4 hwant4 hf5 hcw4
      go_wp2_with fail
      refine (same_any most _ _ ve vm nl hb4 w5 hls5 hm5).mono ?_
      rintro e w6 ⟨rfl, hf6⟩
      have hT6 := hT5.fresh hf6
      have hls6 : LinesAt w6 w3.heap.size most ve nl := hf6.owns hls5 (fun _ _ e => e)
      have hm6 : RLinesAt w6 w4.heap.size most vm nl := hf6.owns hm5 (fun _ _ e => e)
      have hlast6 : LinesAt w6 w.heap.size most u11 prev := hf6.owns hlast5 (fun _ _ e => e)
      have hwant6 : RLinesAt w6 w.heap.size most u12 prev := hf6.owns hwant5 (fun _ _ e => e)
      clear hT5 hls5 hm5 hlast5 hwant5 hf6
      go_wp2_with fail
      refine (same_any most _ _ u11 u12 prev hpl w6 hlast6 hwant6).mono ?_
      rintro e w7 ⟨rfl, hf7⟩
      have hT7 := hT6.fresh hf7
      have hls7 : LinesAt w7 w3.heap.size most ve nl := hf7.owns hls6 (fun _ _ e => e)
      have hm7 : RLinesAt w7 w4.heap.size most vm nl := hf7.owns hm6 (fun _ _ e => e)
      clear hT6 hls6 hm6 hlast6 hwant6 hf7
      go_wp2_with fail
      refine (HQ.out w7).mono ?_
      rintro e w8 ⟨vq, rfl, _, hf8⟩
      have hT8 := hT7.fresh hf8
      have hls8 : LinesAt w8 w.heap.size most ve nl := owns_base (hf8.owns hls7 (fun _ _ e => e)) (fun j e => Nat.le_trans hs34 (hls7.lt j e).1)
      have hm8 : RLinesAt w8 w.heap.size most vm nl := owns_base (hf8.owns hm7 (fun _ _ e => e)) (fun j e => Nat.le_trans hs45 (hm7.lt j e).1)
      clear hT7 hls7 hm7 hf8
      obtain ⟨aoe, cpe, rfl, _, _, _⟩ := own_form hls8
      go_wp2_with fail
      refine (rest_any most rb lb4 v4 nr w8 hT8.r hb5).mono ?_
      rintro e w9 ⟨rfl, rfl⟩
      go_wp2_with fail
      go_roundw
      case rel =>
        refine ⟨k + 1, by omega, by go_num, rfl, ?_, lb4, v4, lbo3, vo3, (cutFrom curo x.data.toList).2, nl, ?_, hco3, hls8, hm8, hb4⟩
        · rw [HC.out]
          simp
        · rw [HC.out]
          exact hT8
      case measure => simp [intOf]; omega
    · have z2 : ¬ (k : Int) < (ls.length : Int) := by omega
      have hfr := hTwo.fr
      have hmr := Fresh.cell hfr hm
      clear hTwo hlast hwant HA
      go_wp2_with fail
      refine (alive_any m wr hmr).mono ?_
      rintro e w3 ⟨rfl, hf3⟩
      go_wp2_with fail
      go_ret
      exact ⟨rfl, hfr.trans hf3⟩

set_option maxHeartbeats 4000000 in
set_option maxRecDepth 100000 in
theorem lawReads_none (most : Int) (h : most < 1 ∨ 100000 < most) (v : Value) (x : ByteArray) (m : Int) (w : World) (hm : w.cell? ⟨0, 0, none⟩ = some (.int .i64 m)) :
    Calls Try.prog 3 #[.int .i64 most, v, .string x] w fun e w' => e = .returned (.bool true) ∧ Fresh w w' := by
  have hN := new_none most h w
  have hb : (decide (most < 1) || decide (100000 < most)) = true := by simpa using h
  by_cases h1 : most < 1
  · have a1 : decide (most < 1) = true := decide_eq_true h1
    clear h hb h1
    go_enter Try.func3, Try.ntmps3
    go_wp2_with fail
    refine hN.mono ?_
    rintro e w1 ⟨rfl, rfl⟩
    go_wp2_with fail
    refine hN.mono ?_
    rintro e w1 ⟨rfl, rfl⟩
    go_wp2_with fail
    refine (alive_any m _ hm).mono ?_
    rintro e w3 ⟨rfl, hf3⟩
    go_wp2_with fail
    go_ret
    exact ⟨rfl, hf3⟩
  · have a1 : decide (most < 1) = false := decide_eq_false h1
    have a2 : decide (100000 < most) = true := decide_eq_true (by omega)
    clear h hb h1
    go_enter Try.func3, Try.ntmps3
    go_wp2_with fail
    refine hN.mono ?_
    rintro e w1 ⟨rfl, rfl⟩
    go_wp2_with fail
    refine hN.mono ?_
    rintro e w1 ⟨rfl, rfl⟩
    go_wp2_with fail
    refine (alive_any m _ hm).mono ?_
    rintro e w3 ⟨rfl, hf3⟩
    go_wp2_with fail
    go_ret
    exact ⟨rfl, hf3⟩

theorem lawReads (most : Int) (v : Value) (ls : List (List UInt8)) (x : ByteArray) (m : Int) (w : World) (hm : w.cell? ⟨0, 0, none⟩ = some (.int .i64 m)) (hv : Strs w v ls)
    (hn : ls.length < 1099511627776) (hT : ls.flatten.length < 4294967281) (hx : (ls.length + 1) * x.size < 1099511627776) :
    Calls Try.prog 3 #[.int .i64 most, v, .string x] w fun e w' => e = .returned (.bool true) ∧ Fresh w w' := by
  by_cases h : most < 1 ∨ 100000 < most
  · exact lawReads_none most h v x m w hm
  · obtain ⟨n, rfl⟩ := Int.eq_ofNat_of_zero_le (show 0 ≤ most by omega)
    exact lawReads_some n (by omega) (by omega) v ls x m w hm hv hn hT hx

end Go.Proofs.Ytegbkpjcjlihmaa
