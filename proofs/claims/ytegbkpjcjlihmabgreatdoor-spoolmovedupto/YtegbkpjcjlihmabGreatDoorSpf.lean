/-
  The text of a mail.
-/
import Derived.Test.YtegbkpjcjlihmabGreatDoorGo
import Derived.Test.YtegbkpjcjlihmabGreatDoorGi
namespace Go.Proofs.YtegbkpjcjlihmabGreatDoor
open Go.RowKit

/-- what an address is as words -/
def twoOf (p : Ltr) : List Text := [p.1, p.2]

/-- bytes of a text -/
def baOf (t : Text) : ByteArray := ⟨t.toArray⟩

/-- the text of words, plain -/
def wt (xs : List Text) : Text := wtext (xs.map baOf)

/-- the text of a mail -/
def mailText (a b : Text) (l : List Ltr) (d : Text) : Text := wt [a, b, wt (l.flatMap twoOf), d]

theorem encStr_ba (t : Text) : encStr t = .string (baOf t) := rfl

theorem two_len (l : List Ltr) : (l.flatMap twoOf).length = 2 * l.length := by
  induction l with
  | nil => rfl
  | cons x l ih => simp [twoOf] at ih ⊢; omega

set_option maxHeartbeats 4000000 in
set_option maxRecDepth 100000 in
theorem written_any (a b d : ByteArray) (ao : Option Addr) (cap : Nat) (l : List Ltr) (w : World) (hG : Gl w) (hn : l.length ≤ 1099511627) (hx : ∀ j u, (l.flatMap encL)[j]? = some u → ∃ g, ao = some ⟨g, 0, none⟩ ∧ w.cell? ⟨g, j, none⟩ = some u)
    (hl : (mailText a.data.toList b.data.toList l d.data.toList).length ≤ 1099511627776) (hl2 : (wt (l.flatMap twoOf)).length ≤ 1099511627776) :
    Calls Tryz.prog 58 #[.agg #[.string a, .string b, .slice ao l.length cap, .string d]] w fun e w' => e = .returned (.string (baOf (mailText a.data.toList b.data.toList l d.data.toList))) ∧ Fresh w w' := by
  have hm := mixed
  obtain ⟨i0, z0, hi, hz0, hz1, hz2, hz3⟩ := info9'
  have k0 : Hid (Fresh w (w.alloc (.cells #[.string a, .string b, .slice ao l.length cap, .string d] 59))) := (Keeps.refl _ w).alloc _
  have hm0 : Hid ((w.alloc (.cells #[.string a, .string b, .slice ao l.length cap, .string d] 59)).heap[w.heap.size]? = some (.cells #[.string a, .string b, .slice ao l.length cap, .string d] 59)) := heap_new _ _
  have HX : Hid (∀ j u, (l.flatMap encL)[j]? = some u → ∃ g, ao = some ⟨g, 0, none⟩ ∧ w.cell? ⟨g, j, none⟩ = some u) := hx
  clear hx
  go_enter Tryz.func58, Tryz.ntmps58
  go_wp2_with fail
  go_loopw [3, 9] (fun t3 t9 wr => ∃ (i : Nat), i ≤ l.length ∧ t9 = .int .i64 i ∧ Row9 wr w.heap.size t3 ((l.take i).flatMap twoOf) ∧ Fresh w wr ∧ wr.heap[w.heap.size]? = some (.cells #[.string a, .string b, .slice ao l.length cap, .string d] 59)) (fun _ t9 _ => l.length - (intOf t9).toNat)
  case atStart => exact ⟨0, Nat.zero_le _, rfl, World.ownsRow_nil _ _ _ _, k0.out, hm0.out⟩
  case round =>
    obtain ⟨i, hile, rfl, hT, kk, hmm⟩ := hrel
    have HT : Hid (wr.ownsRow w.heap.size 9 1 u3 ((l.take i).flatMap twoOf).length (((l.take i).flatMap twoOf).map encStr)) := hT
    have HM : Hid (wr.heap[w.heap.size]? = some (.cells #[.string a, .string b, .slice ao l.length cap, .string d] 59)) := hmm
    have elen : ((l.take i).flatMap twoOf).length = 2 * i := by rw [two_len, List.length_take]; omega
    clear hT hmm k0 hm0
    by_cases hlt : i < l.length
    · obtain ⟨x, hx⟩ : ∃ x, l[i]? = some x := ⟨l[i], List.getElem?_eq_getElem hlt⟩
      have hx! : l[i]! = x := by
        rw [getElem!_pos l i hlt]
        rw [List.getElem?_eq_getElem hlt] at hx
        exact Option.some.inj hx
      have f0 := flat_at l (i * 2) (by omega)
      have f1 := flat_at l (i * 2 + 1) (by omega)
      have d0 : i * 2 / 2 = i := by omega
      have d1 : (i * 2 + 1) / 2 = i := by omega
      have d2 : i * 2 % 2 = 0 := by omega
      have d3 : (i * 2 + 1) % 2 = 1 := by omega
      rw [d0, d2, hx!] at f0
      rw [d1, d3, hx!] at f1
      obtain ⟨g, rfl, hc0⟩ := HX.out _ _ f0
      obtain ⟨g', hg', hc1⟩ := HX.out _ _ f1
      obtain rfl : g = g' := by simpa using hg'
      have hc0 : wr.cell? ⟨g, i * 2, none⟩ = some (.string ⟨x.1.toArray⟩) := cell_keeps kk hc0 (fun e => e)
      have hc1 : wr.cell? ⟨g, i * 2 + 1, none⟩ = some (.string ⟨x.2.toArray⟩) := cell_keeps kk hc1 (fun e => e)
      have HN : Hid (((l.take (i + 1)).flatMap twoOf) = ((l.take i).flatMap twoOf) ++ [x.1, x.2]) := by
        show _ = _
        rw [List.take_add_one, hx, List.flatMap_append]; rfl
      obtain ⟨X, hX⟩ : ∃ X : ByteArray, X = ⟨x.1.toArray⟩ := ⟨_, rfl⟩
      obtain ⟨Y, hY⟩ : ∃ Y : ByteArray, Y = ⟨x.2.toArray⟩ := ⟨_, rfl⟩
      rw [← hX] at hc0
      rw [← hY] at hc1
      have HX1 : Hid (X = ⟨x.1.toArray⟩) := hX
      have HY1 : Hid (Y = ⟨x.2.toArray⟩) := hY
      have z1 : (0 : Int) ≤ (i : Int) := by omega
      have z2 : (i : Int) < (l.length : Int) := by omega
      have k3 : Fresh wr (wr.alloc (.cells #[.string X, .string Y] 56)) := (Keeps.refl _ _).alloc _
      have HT3 : (wr.alloc (.cells #[.string X, .string Y] 56)).ownsRow w.heap.size 9 1 u3 ((l.take i).flatMap twoOf).length (((l.take i).flatMap twoOf).map encStr) := k3.owns HT.out (fun _ _ e => e)
      have HM3 : Hid ((wr.alloc (.cells #[.string X, .string Y] 56)).heap[w.heap.size]? = some (.cells #[.string a, .string b, .slice (some ⟨g, 0, none⟩) l.length cap, .string d] 59)) := k3.heap HM.out (fun e => e)
      have HK3 : Hid (Fresh w (wr.alloc (.cells #[.string X, .string Y] 56))) := kk.trans k3
      have hsz3 : w.heap.size ≤ wr.heap.size := kk.size
      have HT3' : Hid ((wr.alloc (.cells #[.string X, .string Y] 56)).ownsRow w.heap.size 9 1 u3 ((l.take i).flatMap twoOf).length (((l.take i).flatMap twoOf).map encStr)) := HT3
      clear hx hx! f0 f1 d0 d1 d2 d3 hX hY k3 hg'
      rw [elen] at HT3
      go_wp2_with (at_builtin; refine wpList_append_placed _ rfl _ _ 43 rfl w.heap.size 9 i0 z0 1 16 Tryz.underlying43 hi hz0 hz2 hz3 hz1 (by decide) _ _ _ rfl (HT3.alloc _) ⟨wr.heap.size + 1, 0, none⟩ 2 2 [.string X, .string Y] rfl rfl (fun j u hj => by match j, hj with | 0, hj => simp at hj; subst hj; simp [Addr.add] | 1, hj => simp at hj; subst hj; simp [Addr.add]) (fun u hu => by simp at hu; rcases hu with rfl | rfl <;> rfl) (by unfold maxLen; omega) (by omega) (by simp; omega) ?_)
      intro v6 w6 ho6 hg6 hpl6
      clear hpl6
      have ka : Fresh (wr.alloc (.cells #[.string X, .string Y] 56)) ((wr.alloc (.cells #[.string X, .string Y] 56)).alloc (.cells #[.string X, .string Y] 9)) := (Keeps.refl _ _).alloc _
      have k6 : Keeps (fun i => w.heap.size ≤ i) ((wr.alloc (.cells #[.string X, .string Y] 56)).alloc (.cells #[.string X, .string Y] 9)) w6 := (Keeps.refl _ _).grown hg6 (fun i hi _ => ((HT3'.out.alloc (.cells #[.string X, .string Y] 9)).lt i hi).1)
      have K6 : Fresh w w6 := (HK3.out.trans ka).then k6 (fun i hi e => by omega)
      have hM6 : Hid (w6.heap[w.heap.size]? = some (.cells #[.string a, .string b, .slice (some ⟨g, 0, none⟩) l.length cap, .string d] 59)) := grown_other hg6 (HT3'.out.alloc (.cells #[.string X, .string Y] 9)) (ka.heap HM3.out (fun e => e)) (by decide)
      have hT6 : Hid (Row9 w6 w.heap.size v6 ((l.take (i + 1)).flatMap twoOf)) := by
        show Row9 _ _ _ _
        rw [HN.out]
        unfold Row9
        rw [List.length_append, List.map_append, elen]
        have e2 : [x.1, x.2].map encStr = [.string X, .string Y] := by rw [HX1.out, HY1.out]; rfl
        rw [e2]
        exact ho6
      clear ho6 hg6 ka k6 HT3
      go_wp2_with fail
      go_roundw
      case rel => exact ⟨i + 1, by omega, by go_num, hT6.out, K6, hM6.out⟩
      case measure => simp [intOf]; omega
    · have ei : i = l.length := by omega
      subst ei
      have z2 : ¬ (l.length : Int) < (l.length : Int) := by omega
      have HT2 : Row9 wr w.heap.size u3 (l.flatMap twoOf) := by
        have := HT.out
        rw [List.take_length] at this
        exact this
      clear HT elen HX
      obtain ⟨ro, rc, rfl, hr1, hr2, hro⟩ := own_form HT2
      have hlen2 := two_len l
      obtain ⟨W1, hW1⟩ : ∃ W1 : ByteArray, W1 = baOf (wt (l.flatMap twoOf)) := ⟨_, rfl⟩
      have cw : Calls Tryz.prog 96 #[.slice ro (l.flatMap twoOf).length rc] wr.drew fun e w' => e = .returned (.string W1) ∧ Fresh wr.drew w' := by
        have := words_any ro rc ((l.flatMap twoOf).map baOf) wr.drew (hG.fresh kk.drew) (by rw [List.length_map]; omega) (fun j u hu => by
          rw [List.getElem?_map, Option.map_eq_some_iff] at hu
          obtain ⟨t, ht, rfl⟩ := hu
          have hj : j < (l.flatMap twoOf).length := (List.getElem?_eq_some_iff.1 ht).1
          obtain ⟨g, rfl⟩ := hro (by omega)
          exact ⟨g, rfl, own_cell HT2 j _ (by rw [List.getElem?_map, ht]; rfl)⟩) hl2
        rw [List.length_map] at this
        rw [hW1]; exact this
      have c2 : ∀ W : World, Fresh w W → Calls Tryz.prog 96 #[.slice (some ⟨W.heap.size, 0, none⟩) 4 4] (W.alloc (.cells #[.string a, .string b, .string W1, .string d] 9)) fun e w' => e = .returned (.string (baOf (mailText a.data.toList b.data.toList l d.data.toList))) ∧ Fresh w w' := fun W kW => by
        have ka : Fresh W (W.alloc (.cells #[.string a, .string b, .string W1, .string d] 9)) := (Keeps.refl _ _).alloc _
        have hw : wtext [a, b, W1, d] = mailText a.data.toList b.data.toList l d.data.toList := by rw [hW1]; rfl
        have hh := heap_new W (.cells #[.string a, .string b, .string W1, .string d] 9)
        have := words_any (some ⟨W.heap.size, 0, none⟩) 4 [a, b, W1, d] (W.alloc (.cells #[.string a, .string b, .string W1, .string d] 9)) (hG.fresh (kW.trans ka)) (by simp) (fun j u hu => by
          refine ⟨_, rfl, ?_⟩
          rw [Lib.cell_of_heap hh]
          match j, hu with
          | 0, hu => simp at hu; subst hu; rfl
          | 1, hu => simp at hu; subst hu; rfl
          | 2, hu => simp at hu; subst hu; rfl
          | 3, hu => simp at hu; subst hu; rfl) (by rw [hw]; exact hl)
        refine this.mono ?_
        rintro e w' ⟨rfl, k⟩
        exact ⟨by rw [hw]; rfl, (kW.trans ka).trans k⟩
      obtain ⟨R, hR⟩ : ∃ R : ByteArray, R = baOf (mailText a.data.toList b.data.toList l d.data.toList) := ⟨_, rfl⟩
      rw [← hR] at c2
      have HR : Hid (R = baOf (mailText a.data.toList b.data.toList l d.data.toList)) := hR
      obtain ⟨m0, m1, m2, m3, -, -, -, -⟩ := mcells HM.out
      have HM5 : Hid (∀ W : World, Fresh wr.drew W → W.heap[w.heap.size]? = some (.cells #[.string a, .string b, .slice ao l.length cap, .string d] 59)) := fun W k => k.heap HM.out (fun e => e)
      clear hlen2 hW1 hro HT2 hr1 hr2 hR HM m2 hi hz0 hz1 hz2 hz3 hn hl hl2
      generalize (l.flatMap twoOf).length = nn at *
      go_wp2_with fail
      go_region_law (go_simp; go_wp2_with (first | (go_at_call_of 96 (Value.slice ro nn rc); refine cw.mono ?_; rintro e w5 ⟨rfl, k5⟩; have p0 := (mcells (HM5.out w5 k5)).1; have p1 := (mcells (HM5.out w5 k5)).2.1; have p3 := (mcells (HM5.out w5 k5)).2.2.2.1) | (go_at_call 96; refine (c2 w5 (kk.drew.trans k5)).mono ?_; rintro e w6 ⟨rfl, k6⟩)))
      all_goals
        clear cw c2 p0 p1 p3
        go_wp2_with fail
        go_ret
        exact ⟨by rw [← HR.out]; rfl, k6⟩

end Go.Proofs.YtegbkpjcjlihmabGreatDoor
