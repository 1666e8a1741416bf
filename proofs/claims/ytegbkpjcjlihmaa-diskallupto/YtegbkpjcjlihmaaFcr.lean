/-
  A file behind a crash.
-/
import Derived.Test.YtegbkpjcjlihmaaSet
import Derived.BigQuiet
import Derived.Deep.RegionWith
namespace Go.Proofs.Ytegbkpjcjlihmaa
open Go.RowKit Go.Maps

/-- what is left of c, n of it safe -/
def survive (c : Text) (n : Nat) (tail : Int) : Text := c.take (n + min tail.toNat (c.length - n))

theorem survive_len (c : Text) (n : Nat) (tail : Int) : (survive c n tail).length ≤ c.length := by
  unfold survive
  exact List.length_take_le' _ _

theorem extract_list (s : ByteArray) (a b : Nat) : (s.extract a b).data.toList = (s.data.toList.take b).drop a := by
  rw [Lib.extract_data, List.drop_take]

theorem survive_extract (c : Text) (n : Nat) (tail : Int) (hn : n ≤ c.length) (B : ByteArray) (hB : B = ⟨c.toArray⟩) :
    (B.extract 0 ((n : Int) + min (max tail 0) ((c.length : Int) - n)).toNat).data.toList = survive c n tail := by
  rw [extract_list, hB]
  have e : ((n : Int) + min (max tail 0) ((c.length : Int) - n)).toNat = n + min tail.toNat (c.length - n) := by omega
  rw [e]
  simp [survive]

theorem survive_length (c : Text) (n : Nat) (tail : Int) (hn : n ≤ c.length) : ((survive c n tail).length : Int) = max ((n : Int) + min (max tail 0) ((c.length : Int) - n)) 0 := by
  unfold survive
  rw [List.length_take]
  omega

set_option maxHeartbeats 2000000 in
set_option maxRecDepth 100000 in
theorem fcrash_any (x : Nat) (v : Value) (c : Text) (n : Nat) (tail : Int) (w : World) (h : FileAt w x v c n) (hn : n ≤ c.length) (hc : c.length ≤ 1099511627776) :
    Calls Try.prog 71 #[ptr x, .int .i64 tail] w fun e w' => e = .returned (.tuple #[]) ∧ ∃ v', FileAt w' x v' (survive c n tail) (survive c n tail).length ∧ Newer w v v' ∧ Keeps (fun k => k = x ∨ v.ownBlock = some k) w w' := by
  obtain ⟨⟨p, hp, hh⟩, hb⟩ := h
  have c2 : w.cell? ⟨x, 2, none⟩ = some (.int .i64 n) := by rw [Lib.cell_of_heap hh]; rfl
  have HH : Hid (w.heap[x]? = some (.cells #[p, v, .int .i64 n] 101 (0, 0))) := hh
  have HB : Hid (Buf w v c) := hb
  have hlen : ∀ m, Calls Try.prog 66 #[.pointer (some ⟨x, 0, none⟩)] (w.drewN m) fun e w' => e = .returned (.int .i64 c.length) ∧ w' = w.drewN m := fun m => len_any x 101 _ v c (w.drewN m) hh rfl hb
  clear hh hb
  unfold ptr
  go_enter Try.func71, Try.ntmps71
  go_wp2_with fail
  go_quiet ((go_at_call 66; exact Calls.quiet_of_same (hlen _)))
  have hF : Fresh w (w.drewN nq) := (Keeps.refl _ _).drewN nq
  have hh1 := hF.heap HH.out (fun e => e)
  have hb1 := hF.buf HB.out (fun _ _ e => e)
  clear hlen c2
  generalize w.drewN nq = w1 at hF hh1 hb1 ⊢
  obtain ⟨B, hB⟩ : ∃ B : ByteArray, B = ⟨c.toArray⟩ := ⟨_, rfl⟩
  have hBs : (B.size : Int) = c.length := by rw [hB]; simp [ByteArray.size]
  have hstr := string_any x 101 _ v c w1.drew hh1 rfl hb1
  rw [← hB] at hstr
  have hlo : (0 : Int) ≤ (n : Int) + min (max tail 0) ((c.length : Int) - n) := by omega
  have hhi : (n : Int) + min (max tail 0) ((c.length : Int) - n) ≤ (B.size : Int) := by omega
  have hwr : IntKind.i64.wrap ((n : Int) + min (max tail 0) ((c.length : Int) - n)) = (n : Int) + min (max tail 0) ((c.length : Int) - n) := IntWalk.i64_in _ ⟨by omega, by omega⟩
  have HBs : Hid ((B.size : Int) = c.length) := hBs
  have HBB : Hid (B = ⟨c.toArray⟩) := hB
  clear hBs hB
  have d2 : w1.drew.cell? ⟨x, 2, none⟩ = some (.int .i64 n) := by rw [Lib.cell_of_heap (w := w1.drew) hh1]; rfl
  have HH1 : Hid (w1.heap[x]? = some (.cells #[p, v, .int .i64 n] 101 (0, 0))) := hh1
  have HB1 : Hid (Buf w1 v c) := hb1
  have hload : ∀ w2, Keeps (fun k => v.ownBlock = some k) w1.drew w2 → w2.cell? ⟨x, 2, none⟩ = some (.int .i64 n) := fun w2 k2 => by
    rw [Lib.cell_of_heap (k2.heap (w := w1.drew) hh1 (fun e => ne_of_tag (tag_cells hh1) (hb1.tag e) (by decide) rfl))]; rfl
  clear hh1 hb1
  go_wp2_with fail
  go_region_with (go_at_call 33; refine hstr.mono ?_; rintro e w2 ⟨rfl, k2, hb2, hs2⟩; have e2 := hload w2 k2; clear hs2)
  all_goals
    have hh2 : w2.heap[x]? = some (.cells #[p, v, .int .i64 n] 101 (0, 0)) := k2.heap (w := w1.drew) HH1.out (fun e => ne_of_tag (tag_cells HH1.out) (HB1.out.tag e) (by decide) rfl)
    have g0 : w2.cell? ⟨x, 0, none⟩ = some p := by rw [Lib.cell_of_heap hh2]; rfl
    have g1 : w2.cell? ⟨x, 1, none⟩ = some v := by rw [Lib.cell_of_heap hh2]; rfl
    have g2 : w2.cell? ⟨x, 2, none⟩ = some (.int .i64 n) := by rw [Lib.cell_of_heap hh2]; rfl
    have f0 := Lib.frozen_of_heap hh2 0
    have f1 := Lib.frozen_of_heap hh2 1
    have f2 := Lib.frozen_of_heap hh2 2
    have hs0 := heap_setCell_at hh2 0 (.pointer none)
    have hs1 := heap_setCell_at hs0 1 (.slice none 0 0)
    have hs2 := heap_setCell_at hs1 2 (.int .i64 (max ((n : Int) + min (max tail 0) ((c.length : Int) - n)) 0))
    have k3 := (((Keeps.refl (fun k => k = x) w2).setCell (p := ⟨x, 0, none⟩) (fun _ => rfl) (.pointer none)).setCell (p := ⟨x, 1, none⟩) (fun _ => rfl) (.slice none 0 0)).setCell (p := ⟨x, 2, none⟩) (fun _ => rfl) (.int .i64 (max ((n : Int) + min (max tail 0) ((c.length : Int) - n)) 0))
    have hT := survive_extract c n tail hn B HBB.out
    have hTs : (B.extract 0 ((n : Int) + min (max tail 0) ((c.length : Int) - n)).toNat).size ≤ c.length := by
      have := survive_len c n tail
      rw [← hT] at this
      rw [Lib.size_eq]; exact this
    have hws := writeString_any x (.pointer none) (.slice none 0 0) (.int .i64 (max ((n : Int) + min (max tail 0) ((c.length : Int) - n)) 0)) [] (B.extract 0 ((n : Int) + min (max tail 0) ((c.length : Int) - n)).toNat) _ hs2 (.inl rfl) (Buf.nil _) (by simp; omega)
    have K3 : Hid (Keeps (fun k => k = x) w2 (((w2.setCell ⟨x, 0, none⟩ (.pointer none)).setCell ⟨x, 1, none⟩ (.slice none 0 0)).setCell ⟨x, 2, none⟩ (.int .i64 (max ((n : Int) + min (max tail 0) ((c.length : Int) - n)) 0)))) := k3
    have HT : Hid ((B.extract 0 ((n : Int) + min (max tail 0) ((c.length : Int) - n)).toNat).data.toList = survive c n tail) := hT
    clear hh2 hs0 hs1 hs2 k3 hT hTs hload
    go_wp2_with fail
    refine hws.mono ?_
    rintro e w3 ⟨rfl, v', hh3, hb3, hnew, k4⟩
    have k4s := k4.size
    go_wp2
    go_end0
    refine ⟨rfl, v', ⟨⟨self x, .inr rfl, ?_⟩, ?_⟩, ?_, ?_⟩
    · rw [survive_length c n tail hn]; exact hh3
    · rw [← HT.out]; exact hb3
    · intro k hk
      rcases hnew k hk with h' | h'
      · simp [Value.ownBlock] at h'
      · have h1 := hF.size
        have h2 : w1.drew.heap.size ≤ w2.heap.size := k2.size
        have h3 := K3.out.size
        have h4 : w1.drew.heap.size = w1.heap.size := rfl
        exact .inr (by omega)
    · have a1 : Keeps (fun k => k = x ∨ v.ownBlock = some k) w w1.drew := (Keeps.ofFresh hF).drew
      refine ((a1.then k2 (fun _ _ e => .inr e)).then K3.out (fun _ _ e => .inl e)).then k4 (fun i hi e => ?_)
      rcases e with e | e
      · exact .inl e
      · simp [Value.ownBlock] at e
end Go.Proofs.Ytegbkpjcjlihmaa
