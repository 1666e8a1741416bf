/-
  The law WireStuffs: its walk.
-/
import Derived.Test.YtegbkpjcjlihmaaAlive
namespace Go.Proofs.Ytegbkpjcjlihmaa
open Go.RowKit

/-- append(nil, l...): a list of texts of one's own -/
theorem wpList_append_arg_texts {ops : Array Oper} {rest : List Oper} {o : Oper} {a : Act} {w : World} {Q : Exit → Act → World → Prop} (hgd : o.guard = none) (s x : Operand)
    (ho : o.op = .call { callee := .builtin .append, args := #[s, x], argTypes := #[22, 22] })
    (ls : List (List UInt8)) (v : Value) (hs : a.eval s = .slice none 0 0) (hx : a.eval x = v) (hv : Strs w v ls) (hn : ls.length < 1099511627776)
    (h : ∀ v' w', TextsAt w' w.heap.size v' ls → Fresh w w' → wpList Try.prog ops Q rest (a.put o.dst v') w') : wpList Try.prog ops Q (o :: rest) a w := by
  obtain ⟨i0, hi0, hz0, hz1, hz2⟩ := infoStr'
  obtain ⟨ao, cap, rfl, hc1, hc2, hao⟩ := hv
  by_cases h0 : ls.length = 0
  · have hl : ls = [] := List.length_eq_zero_iff.1 h0
    subst hl
    refine wpList_plain hgd fun _ hK => ?_
    have hr : (Builtin.append_ #[22, 22] o.type #[.slice none 0 0, .slice ao 0 cap]).run Try.prog w = .ok (.slice none 0 0) w := by
      cases ao <;> simp [Builtin.append_, run_underlying Try.underlying22, sizeOf, typeInfo, hi0, Builtin.lenOf, Builtin.firstCells, loadCells, loadCellsFrom]
    unfold Oper.wp execOp
    simp only [List.length_nil] at hx
    simp only [ho, resolve, invoke, builtin, Sem.run_bind, Sem.run_pure, Result.andThen_ok, List.map_toArray, List.map_cons, List.map_nil, hs, hx, hr]
    exact hK _ _ (h _ _ (World.ownsRow_nil _ _ _ _) (Keeps.refl _ _))
  · obtain ⟨b, off, rfl, hc⟩ := hao h0
    refine wpList_append_placed w hgd s x 22 ho w.heap.size 9 i0 _ 1 16 Try.underlying22 hi0 hz0 hz1 hz2 rfl (by decide) (.slice none 0 0) 0 [] hs (World.ownsRow_nil _ _ _ _) ⟨b, off, none⟩ ls.length cap (ls.map strV) hx (by simp) ?_ ?_ (by unfold maxLen; omega) (by omega) (Nat.le_refl _) ?_
    · intro j u hj
      rw [List.getElem?_map] at hj
      obtain ⟨l, hl, rfl⟩ := Option.map_eq_some_iff.1 hj
      have hadd : (⟨b, off, none⟩ : Addr).add j = ⟨b, off + j, none⟩ := by unfold Addr.add; split <;> simp_all
      rw [hadd]
      exact hc j l hl
    · intro u hu
      obtain ⟨l, _, rfl⟩ := List.mem_map.1 hu
      rfl
    · intro v' w' ho hgr _
      refine h v' w' (by simpa [TextsAt] using ho) ((Keeps.refl _ w).grown hgr (fun k e _ => by simp [Value.ownBlock] at e))

set_option maxHeartbeats 4000000 in
set_option maxRecDepth 100000 in
theorem lawStuffs (d0 : List UInt8) (v : Value) (ls : List (List UInt8)) (m : Int) (w : World) (hm : w.cell? ⟨0, 0, none⟩ = some (.int .i64 m)) (hv : Strs w v ls) (hd : d0.length < 4294967281) (hn : ls.length < 1099511627776) (hp : (plainL ls).length < 1099511627776) :
    Calls Try.prog 5 #[.string ⟨d0.toArray⟩, v] w fun e w' => e = .returned (.bool true) ∧ Fresh w w' := by
  have HV : Hid (Strs w v ls) := hv
  obtain ⟨ao, cap, hve, hc1, hc2, hao⟩ := hv
  subst hve
  go_enter Try.func5, Try.ntmps5
  go_wp2_with (at_builtin; refine wpList_append_arg_texts rfl (.tmp 9) (.tmp 10) rfl ls _ rfl rfl HV.out hn ?_)
  intro v1 w1 ht1 hf1
  have hm1 := hf1.cell hm
  go_wp2_with fail
  refine (stuff_any d0 m hd w1 hm1).mono ?_
  rintro e w2 ⟨rfl, hf2⟩
  have hs2 := hf2.strs ht1.strs
  go_wp2_with fail
  refine (plain_any v1 ls w2 hs2 hp).mono ?_
  rintro e w3 ⟨rfl, hf3⟩
  have hs3 := hf3.strs hs2
  have hF : Fresh w w3 := (hf1.trans hf2).trans hf3
  obtain ⟨bo, cb, rfl, hd1, hd2, hbo⟩ := hs3
  clear ht1 hs2 hf1 hf2 hf3 hm1
  have HB : Hid (ls.length ≠ 0 → ∃ b off, bo = some ⟨b, off, none⟩ ∧ ∀ k l, ls[k]? = some l → w3.cell? ⟨b, off + k, none⟩ = some (.string ⟨l.toArray⟩)) := hbo
  have HA : Hid (ls.length ≠ 0 → ∃ b off, ao = some ⟨b, off, none⟩ ∧ ∀ k l, ls[k]? = some l → w.cell? ⟨b, off + k, none⟩ = some (.string ⟨l.toArray⟩)) := hao
  clear hbo hao
  go_wp2_with fail
  go_loopw [8] (fun t8 wr => ∃ k : Nat, k ≤ ls.length ∧ t8 = .int .i64 k ∧ Fresh w3 wr) (fun t8 _ => ls.length - (intOf t8).toNat)
  case atStart => exact ⟨0, Nat.zero_le _, rfl, Keeps.refl _ _⟩
  case round =>
    obtain ⟨k, hk, rfl, hf⟩ := hrel
    by_cases hlt : k < ls.length
    · obtain ⟨ba, oa, rfl, ca⟩ := HA.out (by omega)
      obtain ⟨bb, ob, rfl, cbb⟩ := HB.out (by omega)
      obtain ⟨l, hl⟩ : ∃ l, ls[k]? = some l := ⟨ls[k], List.getElem?_eq_getElem hlt⟩
      have e1 := hf.cell (hF.cell (ca k l hl))
      have e2 := hf.cell (cbb k l hl)
      clear HA HB HV hl ca cbb
      have z1 : (0 : Int) ≤ (k : Int) := by omega
      have z2 : (k : Int) < (ls.length : Int) := by omega
      go_wp2_with fail
      go_quiet (fail)
      go_wp2_with fail
      go_roundw
      case rel => exact ⟨k + 1, by omega, by go_num, hf.drewN _⟩
      case measure => simp [intOf]; omega
    · have z2 : ¬ (k : Int) < (ls.length : Int) := by omega
      have hFr : Fresh w wr := hF.trans hf
      have hmr := hFr.cell hm
      go_wp2_with fail
      refine (refStuff_any d0 hd wr).mono ?_
      rintro e w4 ⟨rfl, hf4⟩
      have hF4 : Fresh w w4 := hFr.trans hf4
      go_wp2_with fail
      refine (refPlain_any _ ls w4 (hF4.strs HV.out) hp).mono ?_
      rintro e w5 ⟨rfl, rfl⟩
      go_wp2_with fail
      refine (alive_any m _ (hf4.cell hmr)).mono ?_
      rintro e w6 ⟨rfl, hf6⟩
      go_wp2_with fail
      go_ret
      exact ⟨rfl, hF4.trans hf6⟩

end Go.Proofs.Ytegbkpjcjlihmaa
