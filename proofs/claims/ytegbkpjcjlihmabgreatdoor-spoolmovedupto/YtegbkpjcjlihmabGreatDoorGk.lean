/-
  The spool's names, in memory. | A word taken off a text. | A mail taken off a text.
-/
import Derived.Test.YtegbkpjcjlihmabGreatDoorGf
import Derived.Lib.ItoaLen
import Derived.BigQuiet
import Derived.Deep.QuietTactic
import Derived.Test.YtegbkpjcjlihmabGreatDoorGa
import Derived.Test.YtegbkpjcjlihmabGreatDoorSra
import Derived.Test.YtegbkpjcjlihmabGreatDoorSet
import Derived.Deep.RegionLaw
import Derived.Deep.RegionWith
namespace Go.Proofs.YtegbkpjcjlihmabGreatDoor
open Go.RowKit

/-- a name with a number behind it -/
def numName (kind : Text) (n : Int) : Text := kind ++ Lib.itoa n
def numB (kind : ByteArray) (n : Int) : ByteArray := ⟨(numName kind.data.toList n).toArray⟩

set_option maxHeartbeats 1000000 in
theorem numbered_any (kind : ByteArray) (n : Int) (w : World) (hG : Gl w) (hk : kind.size ≤ 1048576) (h0 : -9223372036854775808 ≤ n) (h1 : n ≤ 9223372036854775807) :
    Calls Tryz.prog 61 #[.string kind, .int .i64 n] w fun e w' => e = .returned (.string (numB kind n)) ∧ Fresh w w' := by
  have hl := Lib.itoa_length_le n h0 h1
  obtain ⟨I, hI⟩ : ∃ I : ByteArray, I = ⟨(Lib.itoa n).toArray⟩ := ⟨_, rfl⟩
  have hIs : I.size ≤ 21 := by rw [hI]; exact hl
  have hc := Tryz.strconv_Itoa n h0 h1 w hG.tab
  rw [← hI] at hc
  have e1 : ∀ W : World, (Op.stringOp .add kind I).run Tryz.prog W = .ok (.string (kind ++ I)) W := fun W => run_string_add_sum W _ _ (by omega)
  have ht : Hid (kind ++ I = numB kind n) := by
    refine ba_ext ?_
    rw [ba_add, hI]
    rfl
  generalize kind ++ I = t at *
  clear hI hIs hl
  go_enter Tryz.func61, Tryz.ntmps61
  go_wp2_with fail
  refine hc.mono ?_
  rintro e w1 ⟨rfl, q, os, rfl⟩
  go_wp2_with fail
  go_ret
  exact ⟨by rw [← ht.out]; rfl, fresh_grow _ _ _⟩

theorem atoi_sat (s : ByteArray) (hs : s.size ≤ 281474976710656) (w : World) (hG : Gl w) :
    Calls Tryz.prog 126 #[.string s] w fun e w' => ((∃ n : Int, Lib.atoiAll s.data.toList = .ok n ∧ e = .returned (.tuple #[.int .i64 n, .nilIface])) ∨ (∃ (n : Int) (t : TypeId) (p : Value), (∀ v, Lib.atoiAll s.data.toList ≠ .ok v) ∧ (-9223372036854775808 ≤ n ∧ n ≤ 9223372036854775807) ∧ e = .returned (.tuple #[.int .i64 n, .iface t p]))) ∧ Fresh w w' := by
  cases h : Lib.atoiAll s.data.toList with
  | ok v =>
    refine (Tryz.strconv_Atoi_ok s (by omega) v h w).mono ?_
    rintro e w' ⟨rfl, hw⟩
    refine ⟨.inl ⟨v, rfl, rfl⟩, ?_⟩
    rcases hw with rfl | ⟨t, rfl⟩
    · exact Keeps.refl _ _
    · exact fresh_bytes _ _ _
  | «syntax» =>
    obtain ⟨tp, p, hv⟩ := hG.syn
    refine (Tryz.strconv_Atoi_syntax_var s hs h tp p w hv).mono ?_
    rintro e w' ⟨N, rfl, _, _, hb⟩
    exact ⟨.inr ⟨_, _, _, fun _ e => by (cases e), by omega, rfl⟩, Keeps.ofBelow hb⟩
  | range =>
    obtain ⟨tp, p, hv⟩ := hG.rng
    refine (Tryz.strconv_Atoi_range_var s hs h tp p w hv).mono ?_
    rintro e w' ⟨N, rfl, _, _, hb⟩
    exact ⟨.inr ⟨_, _, _, fun _ e => by (cases e), Lib.atoiSat_bounds _, rfl⟩, Keeps.ofBelow hb⟩

/-- the number of a name of that kind -/
def numberOf (name kind : Text) : Option Int :=
  if kind.isPrefixOf name = true then (match Lib.atoiAll (name.drop kind.length) with | .ok n => some n | _ => none) else none

set_option maxHeartbeats 2000000 in
theorem numberOf_any (name kind : ByteArray) (w : World) (hG : Gl w) (hs : name.size ≤ 281474976710656) :
    Calls Tryz.prog 92 #[.string name, .string kind] w fun e w' => ∃ (n : Int) (r : Bool), e = .returned (.tuple #[.int .i64 n, .bool r]) ∧ numberOf name.data.toList kind.data.toList = (if r = true then some n else none) ∧ (-9223372036854775808 ≤ n ∧ n ≤ 9223372036854775807) ∧ Fresh w w' := by
  obtain ⟨R, hR⟩ : ∃ R : ByteArray, R = ⟨(Lib.trimPrefix name.data.toList kind.data.toList).toArray⟩ := ⟨_, rfl⟩
  obtain ⟨b1, hb1⟩ : ∃ b : Bool, b = Lib.hasPrefix name.data.toList kind.data.toList := ⟨_, rfl⟩
  have c1 : Calls Tryz.prog 125 #[.string name, .string kind] w fun e w' => e = .returned (.tuple #[.string R, .bool b1]) ∧ w' = w := by
    rw [hR, hb1]; exact Tryz.strings_CutPrefix name kind w
  have hRs : R.size ≤ 281474976710656 := by
    rw [hR]
    show (Lib.trimPrefix name.data.toList kind.data.toList).length ≤ _
    have : name.data.toList.length = name.size := rfl
    unfold Lib.trimPrefix
    split
    · rw [List.length_drop]; omega
    · omega
  have HN : Hid (numberOf name.data.toList kind.data.toList = if b1 = true then (match Lib.atoiAll R.data.toList with | .ok n => some n | _ => none) else none) := by
    show numberOf _ _ = _
    unfold numberOf
    have hp : Lib.hasPrefix name.data.toList kind.data.toList = kind.data.toList.isPrefixOf name.data.toList := rfl
    rw [← hp, ← hb1]
    cases b1 with
    | false => rfl
    | true =>
      have : R.data.toList = name.data.toList.drop kind.data.toList.length := by
        rw [hR, ba_mk]
        unfold Lib.trimPrefix
        rw [← hb1]; rfl
      rw [this]
  have c2 := atoi_sat R hRs w hG
  clear hb1 hR hRs
  go_enter Tryz.func92, Tryz.ntmps92
  go_wp2_with fail
  refine c1.mono ?_
  rintro e w1 ⟨rfl, rfl⟩
  go_wp2_with fail
  refine c2.mono ?_
  rintro e w2 ⟨he, k2⟩
  clear c1 c2
  rcases he with ⟨n, hn, rfl⟩ | ⟨n, t, p, hn, hb, rfl⟩
  · have hb := Lib.atoiAll_bounds hn
    cases b1
    · have h0 : Hid (numberOf name.data.toList kind.data.toList = none) := HN.out.trans (if_neg Bool.false_ne_true)
      clear HN
      go_wp2_with fail
      go_quiet (fail)
      go_wp2_with fail
      go_ret2
      exact ⟨n, false, rfl, h0.out, hb, k2.drewN _⟩
    · have h0 : Hid (numberOf name.data.toList kind.data.toList = some n) := by
        show _ = _
        rw [HN.out, if_pos rfl, hn]
      clear HN
      go_wp2_with fail
      go_quiet (fail)
      go_wp2_with fail
      go_ret2
      exact ⟨n, true, rfl, h0.out, hb, k2.drewN _⟩
  · have h0 : Hid (numberOf name.data.toList kind.data.toList = none) := by
      show _ = _
      rw [HN.out]
      cases b1 with
      | false => rfl
      | true =>
        cases h : Lib.atoiAll R.data.toList with
        | ok v => exact absurd h (hn v)
        | «syntax» => rfl
        | range => rfl
    clear HN
    cases b1
    all_goals
      go_wp2_with fail
      go_quiet (fail)
      go_wp2_with fail
      go_ret2
      exact ⟨n, false, rfl, h0.out, hb, k2.drewN _⟩

end Go.Proofs.YtegbkpjcjlihmabGreatDoor

namespace Go.Proofs.YtegbkpjcjlihmabGreatDoor
open Go.RowKit

theorem gPow' : Tryz.prog.globalNamed "internal/strconv.uint64pow10" = some 3 := by kernel_rfl
theorem gES' : Tryz.prog.globalNamed "strconv.ErrSyntax" = some 1 := by kernel_rfl
theorem gER' : Tryz.prog.globalNamed "strconv.ErrRange" = some 2 := by kernel_rfl

/-- the variables stand, whatever else is written -/
theorem Gl.keep {S : Nat → Prop} {w w' : World} (h : Gl w) (k : Keeps S w w') (hS : ∀ i, i < 8 → ¬ S i) : Gl w' := by
  obtain ⟨tp, p, hs⟩ := h.syn
  obtain ⟨tp', p', hr⟩ := h.rng
  obtain ⟨m, hm⟩ := h.max
  exact ⟨var_fresh k (fun g e => hS g (by rw [gPow'] at e; injection e with e; omega)) h.tab, ⟨tp, p, var_fresh k (fun g e => hS g (by rw [gES'] at e; injection e with e; omega)) hs⟩,
    ⟨tp', p', var_fresh k (fun g e => hS g (by rw [gER'] at e; injection e with e; omega)) hr⟩, ⟨m, cell_keeps k hm (hS 0 (by omega))⟩⟩

/-- a is the word that is taken off s, b what is left -/
def Word (s a b : Text) : Prop := ∃ k : Nat, k ≤ (Lib.cut s [58]).2.1.length ∧ (∀ v, Lib.atoiAll (Lib.cut s [58]).1 = .ok v → (k : Int) = max 0 (min v (Lib.cut s [58]).2.1.length)) ∧ a = (Lib.cut s [58]).2.1.take k ∧ b = (Lib.cut s [58]).2.1.drop k

set_option maxHeartbeats 2000000 in
theorem word_any (p : Nat) (s : ByteArray) (w : World) (hG : Gl w) (hp : w.heap[p]? = some (.cells #[.string s] 160 (0, 0))) (hs : s.size < 4294967281) :
    Calls Tryz.prog 116 #[ptr p] w fun e w' => ∃ a b : ByteArray, e = .returned (.string a) ∧ Word s.data.toList a.data.toList b.data.toList ∧ w'.heap[p]? = some (.cells #[.string b] 160 (0, 0)) ∧ Keeps (fun k => k = p) w w' := by
  obtain ⟨m, hm⟩ := hG.max
  obtain ⟨S, hS⟩ : ∃ S : ByteArray, S = ⟨(Lib.cut s.data.toList [58]).1.toArray⟩ := ⟨_, rfl⟩
  obtain ⟨T, hT⟩ : ∃ T : ByteArray, T = ⟨(Lib.cut s.data.toList [58]).2.1.toArray⟩ := ⟨_, rfl⟩
  obtain ⟨b2, hb2⟩ : ∃ b : Bool, b = (Lib.cut s.data.toList [58]).2.2 := ⟨_, rfl⟩
  have c1 : Calls Tryz.prog 130 #[.string s, .string ⟨#[58]⟩] w fun e w' => e = .returned (.tuple #[.string S, .string T, .bool b2]) ∧ ∃ n, w' = w.drewN n := by
    rw [hS, hT, hb2]; exact Tryz.strings_Cut s ⟨#[58]⟩ m w (by omega) hm
  have hl := cut_len s.data.toList [58]
  have hSs : S.size ≤ 281474976710656 := by
    have h1 := hl.1
    rw [hS]
    show (Lib.cut s.data.toList [58]).1.length ≤ _
    have : s.data.toList.length = s.size := rfl
    omega
  have hTs : T.size ≤ 281474976710656 := by
    have h1 := hl.2
    rw [hT]
    show (Lib.cut s.data.toList [58]).2.1.length ≤ _
    have : s.data.toList.length = s.size := rfl
    omega
  have HW : Hid (∀ (n : Int) (k : Nat) (a b : ByteArray), (k : Int) = max 0 (min n T.size) → ((∃ v, Lib.atoiAll S.data.toList = .ok v ∧ n = v) ∨ (∀ v, Lib.atoiAll S.data.toList ≠ .ok v)) → a.data.toList = T.data.toList.take k → b.data.toList = T.data.toList.drop k → Word s.data.toList a.data.toList b.data.toList) := fun n k a b hk hn ha hb => by
    have e1 : S.data.toList = (Lib.cut s.data.toList [58]).1 := by rw [hS]
    have e2 : T.data.toList = (Lib.cut s.data.toList [58]).2.1 := by rw [hT]
    have e3 : T.size = (Lib.cut s.data.toList [58]).2.1.length := by rw [← e2]; rfl
    refine ⟨k, by omega, fun v hv => ?_, by rw [ha, e2], by rw [hb, e2]⟩
    rw [← e1] at hv
    rcases hn with ⟨v', h1, rfl⟩ | h1
    · rw [h1] at hv
      injection hv with hv
      rw [hk, hv, e3]
    · exact absurd hv (h1 v)
  have cp := Lib.cell_of_heap hp
  have cp0 : w.cell? ⟨p, 0, none⟩ = some (.string s) := by rw [cp]; rfl
  clear hS hT hb2 hl cp hm
  unfold ptr at *
  go_enter Tryz.func116, Tryz.ntmps116
  go_wp2_with fail
  refine c1.mono ?_
  rintro e w1 ⟨rfl, n1, rfl⟩
  have k1 : Fresh w (w.drewN n1) := (Keeps.refl _ w).drewN n1
  have c2 := atoi_sat S hSs (w.drewN n1) (hG.fresh k1)
  generalize w.drewN n1 = w1 at *
  go_wp2_with fail
  refine c2.mono ?_
  rintro e w2 ⟨he, k2⟩
  have k12 := k1.trans k2
  have hp2 := k12.heap hp (fun e => e)
  have cp2 : w2.cell? ⟨p, 0, none⟩ = some (.string s) := by rw [Lib.cell_of_heap hp2]; rfl
  have fp2 := Lib.frozen_of_heap hp2 0
  obtain ⟨n, ev, hn, he', hbd⟩ : ∃ (n : Int) (ev : Value), ((∃ v, Lib.atoiAll S.data.toList = .ok v ∧ n = v) ∨ (∀ v, Lib.atoiAll S.data.toList ≠ .ok v)) ∧ e = .returned (.tuple #[.int .i64 n, ev]) ∧ (-9223372036854775808 ≤ n ∧ n ≤ 9223372036854775807) := by
    rcases he with ⟨n, h1, h2⟩ | ⟨n, t, p, h1, h2, h3⟩
    · exact ⟨n, _, .inl ⟨n, h1, rfl⟩, h2, Lib.atoiAll_bounds h1⟩
    · exact ⟨n, _, .inr h1, h3, h2⟩
  subst he'
  clear he c1 c2 hp cp0 k1 k2
  obtain ⟨k, hk⟩ : ∃ k : Nat, (k : Int) = max 0 (min n T.size) := ⟨(max 0 (min n (T.size : Int))).toNat, by omega⟩
  have hkl : k ≤ T.size := by omega
  have HK : Hid ((k : Int) = max 0 (min n T.size)) := hk
  have HN : Hid ((∃ v, Lib.atoiAll S.data.toList = .ok v ∧ n = v) ∨ (∀ v, Lib.atoiAll S.data.toList ≠ .ok v)) := hn
  clear hn hk
  go_wp2_with fail
  go_ret
  have ek : (max 0 (min n (T.size : Int))).toNat = k := by rw [← HK.out]; rfl
  rw [ek]
  have x1 : (T.extract 0 k).data.toList = T.data.toList.take k := by simp [ByteArray.data_extract]
  have x2 : (T.extract k T.size).data.toList = T.data.toList.drop k := by
    simp only [ByteArray.data_extract, Array.toList_extract, List.extract]
    exact List.take_of_length_le (by simp)
  refine ⟨T.extract 0 k, T.extract k T.size, rfl, HW.out n k _ _ HK.out HN.out x1 x2, ?_, ?_⟩
  · rw [heap_setCell_at hp2]; rfl
  · exact (Keeps.ofFresh (S := fun k => k = p) k12).setCell (p := ⟨p, 0, none⟩) (fun _ => rfl) _

/-- two words, an address -/
def Addr2 (s a b c : Text) : Prop := ∃ t, Word s a t ∧ Word t b c

theorem Word.len {s a b : Text} (h : Word s a b) : a.length + b.length ≤ s.length ∧ (s ≠ [] → b.length < s.length) := by
  obtain ⟨k, h1, _, rfl, rfl⟩ := h
  have hc : (Lib.cut s [58]).2.1.length ≤ s.length ∧ (s ≠ [] → (Lib.cut s [58]).2.1.length < s.length) := by
    unfold Lib.cut
    split
    · rename_i h
      constructor
      · simp
      · intro hs
        have : 0 < s.length := List.length_pos_iff.2 hs
        simp only [List.length_drop, List.length_cons, List.length_nil]
        omega
    · exact ⟨by simp, fun hs => List.length_pos_iff.2 hs⟩
  refine ⟨?_, fun hs => ?_⟩
  · rw [List.length_take, List.length_drop]; omega
  · have := hc.2 hs
    rw [List.length_drop]; omega

set_option maxHeartbeats 2000000 in
theorem address_any (p : Nat) (s : ByteArray) (w : World) (hG : Gl w) (hp : w.heap[p]? = some (.cells #[.string s] 160 (0, 0))) (hs : s.size < 4294967281) (hp8 : 8 ≤ p) :
    Calls Tryz.prog 115 #[ptr p] w fun e w' => ∃ a b c : ByteArray, e = .returned (.agg #[.string a, .string b]) ∧ Addr2 s.data.toList a.data.toList b.data.toList c.data.toList ∧ w'.heap[p]? = some (.cells #[.string c] 160 (0, 0)) ∧ Keeps (fun k => k = p) w w' := by
  have k0 : Fresh w (w.alloc (.cells #[.string ⟨#[]⟩, .string ⟨#[]⟩] 56)) := (Keeps.refl _ w).alloc _
  have hr0 : (w.alloc (.cells #[.string ⟨#[]⟩, .string ⟨#[]⟩] 56)).heap[w.heap.size]? = some (.cells #[.string ⟨#[]⟩, .string ⟨#[]⟩] 56) := heap_new _ _
  have c1 := word_any p s (w.alloc (.cells #[.string ⟨#[]⟩, .string ⟨#[]⟩] 56)) (hG.fresh k0) (k0.heap hp (fun e => e)) hs
  have hpl := heap_lt hp
  unfold ptr at *
  go_enter Tryz.func115, Tryz.ntmps115
  go_wp2_with fail
  generalize w.alloc (.cells #[.string ⟨#[]⟩, .string ⟨#[]⟩] 56) = w0 at *
  refine c1.mono ?_
  rintro e w1 ⟨a, t, rfl, hw1, hp1, k1⟩
  have hl1 := hw1.len
  have ht : t.size < 4294967281 := by
    have e1 : s.data.toList.length = s.size := rfl
    have e2 : t.data.toList.length = t.size := rfl
    omega
  have k01 : Keeps (fun k => k = p) w w1 := k0.ofFresh.trans k1
  have c2 := word_any p t w1 (hG.keep k01 (fun i hi e => by omega)) hp1 ht
  have hr1 := k1.heap hr0 (fun e => by omega)
  clear c1 hl1 hr0
  unfold ptr at *
  go_wp2_with fail
  refine c2.mono ?_
  rintro e w2 ⟨b, c, rfl, hw2, hp2, k2⟩
  have hr2 := k2.heap hr1 (fun e => by omega)
  obtain ⟨q0, q1, f0, f1⟩ := cells2 hr2
  have k02 : Keeps (fun k => k = p) w w2 := k01.trans k2
  clear c2 hr1 k1 k2 k01 k0
  have HF : Hid (∃ t, Word s.data.toList a.data.toList t ∧ Word t b.data.toList c.data.toList) := ⟨_, hw1, hw2⟩
  clear hw1 hw2
  have KS : Hid (((w2.setCell ⟨w.heap.size, 0, none⟩ (.string a)).setCell ⟨w.heap.size, 1, none⟩ (.string b)).heap[p]? = some (.cells #[.string c] 160 (0, 0)) ∧ Keeps (fun k => k = p) w ((w2.setCell ⟨w.heap.size, 0, none⟩ (.string a)).setCell ⟨w.heap.size, 1, none⟩ (.string b))) := by
    have ks : Keeps (fun k => k = w.heap.size) w2 ((w2.setCell ⟨w.heap.size, 0, none⟩ (.string a)).setCell ⟨w.heap.size, 1, none⟩ (.string b)) := ((Keeps.refl (fun k => k = w.heap.size) w2).setCell (p := ⟨w.heap.size, 0, none⟩) (fun _ => rfl) _).setCell (p := ⟨w.heap.size, 1, none⟩) (fun _ => rfl) _
    exact ⟨ks.heap hp2 (fun e => by omega), k02.then ks (fun i hi e => by omega)⟩
  have q2 : ((w2.setCell ⟨w.heap.size, 0, none⟩ (.string a)).setCell ⟨w.heap.size, 1, none⟩ (.string b)).cell? ⟨w.heap.size, 0, none⟩ = some (.string a) := by go_simp
  have q3 : ((w2.setCell ⟨w.heap.size, 0, none⟩ (.string a)).setCell ⟨w.heap.size, 1, none⟩ (.string b)).cell? ⟨w.heap.size, 1, none⟩ = some (.string b) := by go_simp
  go_wp2_with fail
  refine bodyPost_ret (v := .agg #[.string a, .string b]) (by simp [results, Tryz.results115, go_sem, q2, q3]) rfl ?_
  exact ⟨a, b, c, rfl, HF.out, KS.out.1, KS.out.2⟩

end Go.Proofs.YtegbkpjcjlihmabGreatDoor

namespace Go.Proofs.YtegbkpjcjlihmabGreatDoor
open Go.RowKit

/-- an append onto a row of one's own, as one step of a region that draws its order -/
theorem step_append_placed {P : Program} {ops : Array Oper} {o : Oper} {a : Act} {w : World} {K : Act → World → Prop} {Q : Exit → Act → World → Prop} {E : Prop}
    (hg : o.guard = none) (s x : Operand) (t : TypeId) (hop : o.op = Op.call { callee := Callee.builtin Builtin.append, args := #[s, x], argTypes := #[t, t] })
    (base : Nat) (e : TypeId) (i : TypeInfo) (z : Value) (size bytes : Nat) (ht : P.underlying t = some (.slice e)) (hi : P.info? e = some i) (hz : i.zero = some z)
    (hsize : i.size = size) (hby : i.bytes = bytes) (hzs : z.cells.size = size) (hsz : 0 < size)
    (v : Value) (n : Nat) (xs : List Value) (hs : a.eval s = v) (hown : w.ownsRow base e size v n xs)
    (ad : Addr) (m c : Nat) (news : List Value) (hx : a.eval x = .slice (some ad) m c) (hl : news.length = m * size) (hnews : ∀ j u, news[j]? = some u → w.cell? (ad.add j) = some u) (h1 : ∀ u ∈ news, u.oneCell' = true)
    (h63 : n + m ≤ maxLen) (hbytes : (n + m) * bytes ≤ 140737488355328) (hbase : base ≤ w.heap.size)
    (h : ∀ v' w', w'.ownsRow base e size v' (n + m) (xs ++ news) → w.grownBy w' v.ownBlock → Placed w v v' → K (a.put o.dst v') w') :
    if Region.wanted o (yielded ops a.tmps) = true then Oper.wp P o a w K Q else E := by
  have hw : Region.wanted o (yielded ops a.tmps) = true := by simp [Region.wanted, hg]
  rw [if_pos hw]
  obtain ⟨v', w', hr, h2, h3, _⟩ := run_append_own (P := P) w base t o.type e i z size bytes ht hi hz hsize hby hzs hsz v n xs hown ad m c news hl hnews h1 h63 hbytes hbase
  have hp := append_place w base t o.type e i z size bytes ht hi hz hsize hby v n xs hown ad m c news hl hnews h1 h63 hbytes hr
  unfold Oper.wp
  simp [execOp, hop, resolve, invoke, builtin, hs, hx, hr, Result.andThen]
  exact h v' w' h2 h3 hp

theorem info56 : (Tryz.prog.info? 56).map (fun i => (i.zero.map (fun z => z.cells.size), i.size, i.bytes)) = some (some 2, 2, 32) := by kernel_rfl
theorem info56' : ∃ i z, Tryz.prog.info? 56 = some i ∧ i.zero = some z ∧ z.cells.size = 2 ∧ i.size = 2 ∧ i.bytes = 32 := by
  obtain ⟨i, hi, h⟩ := Option.map_eq_some_iff.1 info56
  simp only [Prod.mk.injEq] at h
  obtain ⟨z, hz, h1⟩ := Option.map_eq_some_iff.1 h.1
  exact ⟨i, z, hi, hz, h1, h.2.1, h.2.2⟩

theorem step_append_addr {ops : Array Oper} {o : Oper} {a : Act} {w : World} {K : Act → World → Prop} {Q : Exit → Act → World → Prop} {E : Prop}
    (hg : o.guard = none) (s x : Operand) (hop : o.op = Op.call { callee := Callee.builtin Builtin.append, args := #[s, x], argTypes := #[57, 57] })
    (base : Nat) (lv : Value) (l : List Ltr) (X Y : ByteArray) (hs : a.eval s = lv) (hown : w.ownsRow base 56 2 lv l.length (l.flatMap encL)) (hx : a.eval x = .slice (some ⟨w.heap.size, 0, none⟩) 1 1) (hn : l.length ≤ 1099511627776) (hb : base ≤ w.heap.size)
    (h : ∀ v' w', w'.ownsRow base 56 2 v' (l.length + 1) (l.flatMap encL ++ [.string X, .string Y]) → (w.alloc (.cells #[.string X, .string Y] 56)).grownBy w' lv.ownBlock → K (a.put o.dst v') w') :
    if Region.wanted o (yielded ops a.tmps) = true then Oper.wp Tryz.prog o a (w.alloc (.cells #[.string X, .string Y] 56)) K Q else E := by
  obtain ⟨i0, z0, hi0, hz0, hz1, hz2, hz3⟩ := info56'
  refine step_append_placed hg s x 57 hop base 56 i0 z0 2 32 Tryz.underlying57 hi0 hz0 hz2 hz3 hz1 (by decide) lv l.length (l.flatMap encL) hs (hown.alloc _) ⟨w.heap.size, 0, none⟩ 1 1 [.string X, .string Y] hx rfl ?_ ?_ (by unfold maxLen; omega) (by omega) (by simp; omega) (fun v' w' h1 h2 _ => h v' w' h1 h2)
  · intro j u hj
    match j, hj with
    | 0, hj => simp at hj; subst hj; simp [Addr.add]
    | 1, hj => simp at hj; subst hj; simp [Addr.add]
  · intro u hu
    simp at hu
    rcases hu with rfl | rfl <;> rfl

theorem grown_other {W W' : World} {v : Value} {base n sz : Nat} {xs : List Value} {T0 : TypeId} (hg : W.grownBy W' v.ownBlock) (ho : W.ownsRow base T0 sz v n xs) {p : Nat} {cs : Array Value} {T : TypeId} {fr : Nat × Nat} (hp : W.heap[p]? = some (.cells cs T fr)) (hT : T ≠ T0) : W'.heap[p]? = some (.cells cs T fr) := by
  rw [hg.block p (heap_lt hp) (fun e => hT ?_)]
  · exact hp
  · have h1 := owns_tag ho e.symm
    rw [tag_cells hp] at h1
    exact Option.some.inj h1

/-- addresses taken off s, up to c -/
def Chain : List Ltr → Text → Text → Prop
  | [], s, c => s = c
  | (a, b) :: l, s, c => s ≠ [] ∧ ∃ t, Addr2 s a b t ∧ Chain l t c

theorem Chain.snoc : ∀ {l : List Ltr} {s c a b d : Text}, Chain l s c → c ≠ [] → Addr2 c a b d → Chain (l ++ [(a, b)]) s d
  | [], s, c, a, b, d, h, hc, h2 => by
    have h : s = c := h
    subst h
    exact ⟨hc, d, h2, rfl⟩
  | (x, y) :: l, s, c, a, b, d, ⟨h0, t, h1, h3⟩, hc, h2 => ⟨h0, t, h1, Chain.snoc h3 hc h2⟩

theorem Addr2.len {s a b c : Text} (h : Addr2 s a b c) : a.length + b.length + c.length ≤ s.length ∧ (s ≠ [] → c.length < s.length) := by
  obtain ⟨t, h1, h2⟩ := h
  have l1 := h1.len
  have l2 := h2.len
  refine ⟨by omega, fun hs => ?_⟩
  have := l1.2 hs
  omega

structure MSt (w0 wr : World) (p mb q : Nat) (a b : ByteArray) (tv : Value) (l : List Ltr) (c r : ByteArray) : Prop where
  m : wr.heap[mb]? = some (.cells #[.string a, .string b, tv, .string ⟨#[]⟩] 59 (0, 0))
  to : wr.heap[q]? = some (.cells #[.string c] 160 (0, 0))
  src : wr.heap[p]? = some (.cells #[.string r] 160 (0, 0))
  row : wr.ownsRow w0.heap.size 56 2 tv l.length (l.flatMap encL)
  k : Keeps (fun k => k = p) w0 wr
  mge : w0.heap.size ≤ mb
  qge : w0.heap.size ≤ q
  pl : p < w0.heap.size

theorem MSt.next {w wr w4 w5 : World} {p mb q : Nat} {a b c r x y z : ByteArray} {tv v5 : Value} {l : List Ltr} (M : MSt w wr p mb q a b tv l c r) (hqm : q ≠ mb) (k4 : Keeps (fun k => k = q) wr.drew w4) (hq4 : w4.heap[q]? = some (.cells #[.string z] 160 (0, 0))) (hrow4 : w4.ownsRow w.heap.size 56 2 tv l.length (l.flatMap encL))
    (g5 : (w4.alloc (.cells #[.string x, .string y] 56)).grownBy w5 tv.ownBlock) (o5 : w5.ownsRow w.heap.size 56 2 v5 (l.length + 1) (l.flatMap encL ++ [.string x, .string y])) (hm5 : w5.heap[mb]? = some (.cells #[.string a, .string b, tv, .string ⟨#[]⟩] 59 (0, 0)))
    (hres : wr.heap[w.heap.size]? = some (.cells #[.string ⟨#[]⟩, .string ⟨#[]⟩, .slice none 0 0, .string ⟨#[]⟩] 59 (0, 0))) (hmb : w.heap.size < mb) :
    MSt w ((w5.setCell ⟨mb, 2, none⟩ v5).alloc (.cells #[.string z] 160)) p mb (w5.setCell ⟨mb, 2, none⟩ v5).heap.size a b v5 (l ++ [(x.data.toList, y.data.toList)]) z r ∧
    ((w5.setCell ⟨mb, 2, none⟩ v5).alloc (.cells #[.string z] 160)).heap[w.heap.size]? = some (.cells #[.string ⟨#[]⟩, .string ⟨#[]⟩, .slice none 0 0, .string ⟨#[]⟩] 59 (0, 0)) ∧ (w5.setCell ⟨mb, 2, none⟩ v5).cell? ⟨q, 0, none⟩ = some (.string z) := by
  have ka : Fresh w4 (w4.alloc (.cells #[.string x, .string y] 56)) := (Keeps.refl _ _).alloc _
  have ho := hrow4.alloc (.cells #[.string x, .string y] 56)
  have k5 : Keeps (fun i => w.heap.size ≤ i) (w4.alloc (.cells #[.string x, .string y] 56)) w5 := (Keeps.refl _ _).grown g5 (fun i hi _ => (ho.lt i hi).1)
  have k6 : Keeps (fun i => i = mb) w5 (w5.setCell ⟨mb, 2, none⟩ v5) := (Keeps.refl (fun i => i = mb) w5).setCell (p := ⟨mb, 2, none⟩) (fun _ => rfl) _
  have k7 : Fresh (w5.setCell ⟨mb, 2, none⟩ v5) ((w5.setCell ⟨mb, 2, none⟩ v5).alloc (.cells #[.string z] 160)) := (Keeps.refl _ _).alloc _
  have hq := M.qge
  have hpl := M.pl
  have qr : q ≠ w.heap.size := fun e => by
    have h1 := M.to
    rw [e, hres] at h1
    simp at h1
  have hq6 : (w5.setCell ⟨mb, 2, none⟩ v5).heap[q]? = some (.cells #[.string z] 160 (0, 0)) := k6.heap (grown_other g5 ho (ka.heap hq4 (fun e => e)) (by decide)) (fun e => hqm e)
  refine ⟨⟨?_, heap_new _ _, ?_, ?_, ?_, M.mge, ?_, M.pl⟩, ?_, ?_⟩
  · refine k7.heap ?_ (fun e => e)
    rw [heap_setCell_at hm5]; rfl
  · exact k7.heap (k6.heap (grown_other g5 ho (ka.heap (k4.heap M.src (fun e => by omega)) (fun e => e)) (by decide)) (fun e => by omega)) (fun e => e)
  · have h1 : (w5.setCell ⟨mb, 2, none⟩ v5).ownsRow w.heap.size 56 2 v5 (l.length + 1) (l.flatMap encL ++ [.string x, .string y]) := k6.owns o5 (fun j hj e => by
      have t1 := owns_tag o5 hj
      have t2 := tag_cells hm5
      rw [e, t2] at t1
      exact absurd (Option.some.inj t1) (by decide))
    have h2 := k7.owns h1 (fun _ _ e => e)
    rw [List.length_append, List.flatMap_append]
    exact h2
  · have K4 : Keeps (fun k => k = p) w w4 := M.k.drew.then k4 (fun i hi e => by omega)
    have K5 : Keeps (fun k => k = p) w w5 := (K4.trans ka.ofFresh).then k5 (fun i hi e => by omega)
    exact (K5.then k6 (fun i hi e => by omega)).trans k7.ofFresh
  · have s1 := M.k.size
    have s2 := k4.size
    have s3 := ka.size
    have s4 := k5.size
    have s5 := k6.size
    have e1 : wr.drew.heap.size = wr.heap.size := rfl
    omega
  · exact k7.heap (k6.heap (grown_other g5 ho (ka.heap (k4.heap hres (fun e => qr e.symm)) (fun e => e)) (by decide)) (fun e => by omega)) (fun e => e)
  · rw [Lib.cell_of_heap hq6]; rfl

/-- how much is still to be read -/
def toLen (v : Value) (w : World) : Nat :=
  match v with
  | .pointer (some ad) => (match w.cell? ad with | some (.string s) => s.size | _ => 0)
  | _ => 0

theorem toLen_at {w : World} {q : Nat} {c : ByteArray} (h : w.heap[q]? = some (.cells #[.string c] 160 (0, 0))) : toLen (.pointer (some ⟨q, 0, none⟩)) w = c.size := by
  have : w.cell? ⟨q, 0, none⟩ = some (.string c) := by rw [Lib.cell_of_heap h]; rfl
  simp [toLen, this]

theorem mcells {w : World} {b : Nat} {x0 x1 x2 x3 : Value} {T : TypeId} (h : w.heap[b]? = some (.cells #[x0, x1, x2, x3] T (0, 0))) :
    w.cell? ⟨b, 0, none⟩ = some x0 ∧ w.cell? ⟨b, 1, none⟩ = some x1 ∧ w.cell? ⟨b, 2, none⟩ = some x2 ∧ w.cell? ⟨b, 3, none⟩ = some x3 ∧
    w.frozen? ⟨b, 0, none⟩ = false ∧ w.frozen? ⟨b, 1, none⟩ = false ∧ w.frozen? ⟨b, 2, none⟩ = false ∧ w.frozen? ⟨b, 3, none⟩ = false := by
  refine ⟨?_, ?_, ?_, ?_, Lib.frozen_of_heap h 0, Lib.frozen_of_heap h 1, Lib.frozen_of_heap h 2, Lib.frozen_of_heap h 3⟩ <;> rw [Lib.cell_of_heap h] <;> rfl

set_option maxHeartbeats 4000000 in
set_option maxRecDepth 100000 in
theorem mail_any (p : Nat) (s : ByteArray) (w : World) (hG : Gl w) (hp : w.heap[p]? = some (.cells #[.string s] 160 (0, 0))) (hs : s.size < 4294967281) (hp8 : 8 ≤ p) :
    Calls Tryz.prog 86 #[ptr p] w fun e w' => ∃ (a b d r : ByteArray) (tv : Value) (l : List Ltr) (t1 t2 t3 : Text), e = .returned (.agg #[.string a, .string b, tv, .string d]) ∧ Addr2 s.data.toList a.data.toList b.data.toList t1 ∧ Word t1 t2 t3 ∧ Chain l t2 [] ∧ Word t3 d.data.toList r.data.toList ∧
      w'.ownsRow w.heap.size 56 2 tv l.length (l.flatMap encL) ∧ w'.heap[p]? = some (.cells #[.string r] 160 (0, 0)) ∧ Keeps (fun k => k = p) w w' := by
  have hpl := heap_lt hp
  obtain ⟨i0, z0, hi, hz0, hz1, hz2, hz3⟩ := info56'
  have k0 : Fresh w (w.alloc (.cells #[.string ⟨#[]⟩, .string ⟨#[]⟩, .slice none 0 0, .string ⟨#[]⟩] 59)) := (Keeps.refl _ w).alloc _
  have hr0 := heap_new w (.cells #[.string ⟨#[]⟩, .string ⟨#[]⟩, .slice none 0 0, .string ⟨#[]⟩] 59)
  have c1 := address_any p s (w.alloc (.cells #[.string ⟨#[]⟩, .string ⟨#[]⟩, .slice none 0 0, .string ⟨#[]⟩] 59)) (hG.fresh k0) (k0.heap hp (fun e => e)) hs hp8
  unfold ptr at *
  go_enter Tryz.func86, Tryz.ntmps86
  go_wp2_with fail
  generalize w.alloc (.cells #[.string ⟨#[]⟩, .string ⟨#[]⟩, .slice none 0 0, .string ⟨#[]⟩] 59) = w0 at *
  refine c1.mono ?_
  rintro e w1 ⟨a, b, t, rfl, hA1, hp1, k1⟩
  have hr1 := k1.heap hr0 (fun e => by omega)
  have k01 : Keeps (fun k => k = p) w w1 := k0.ofFresh.trans k1
  clear c1 hr0 k1 k0
  have kw : Keeps (fun k => k = p) w (w1.alloc (.cells #[.string a, .string b, .slice none 0 0, .string ⟨#[]⟩] 59)) := k01.trans ((Keeps.refl _ w1).alloc _)
  have ka : Fresh w1 (w1.alloc (.cells #[.string a, .string b, .slice none 0 0, .string ⟨#[]⟩] 59)) := (Keeps.refl _ w1).alloc _
  have hm1 := heap_new w1 (.cells #[.string a, .string b, .slice none 0 0, .string ⟨#[]⟩] 59)
  have lA := hA1.len
  have ht : t.size < 4294967281 := by
    have e1 : s.data.toList.length = s.size := rfl
    have e2 : t.data.toList.length = t.size := rfl
    omega
  have c2 := word_any p t (w1.alloc (.cells #[.string a, .string b, .slice none 0 0, .string ⟨#[]⟩] 59)) (hG.keep kw (fun i hi e => by omega)) (ka.heap hp1 (fun e => e)) ht
  have hr1a := ka.heap hr1 (fun e => e)
  have hw1 : w.heap.size < w1.heap.size := heap_lt hr1
  have HA1 : Hid (Addr2 s.data.toList a.data.toList b.data.toList t.data.toList) := hA1
  clear hA1 lA ka hr1 hp1 k01
  unfold ptr at *
  go_wp2_with fail
  generalize w1.alloc (.cells #[.string a, .string b, .slice none 0 0, .string ⟨#[]⟩] 59) = w2 at *
  refine c2.mono ?_
  rintro e w3 ⟨tw, r, rfl, hW1, hp3, k3⟩
  have hr3 := k3.heap hr1a (fun e => by omega)
  have hm3 := k3.heap hm1 (fun e => by omega)
  have kw3 : Keeps (fun k => k = p) w w3 := kw.trans k3
  have ka3 : Fresh w3 (w3.alloc (.cells #[.string tw] 160)) := (Keeps.refl _ w3).alloc _
  have M0 : Hid (MSt w (w3.alloc (.cells #[.string tw] 160)) p w1.heap.size w3.heap.size a b (.slice none 0 0) [] tw r) :=
    ⟨ka3.heap hm3 (fun e => e), heap_new _ _, ka3.heap hp3 (fun e => e), World.ownsRow_nil _ _ _ _, kw3.trans ka3.ofFresh, by omega, kw3.size, hpl⟩
  have HR0 : Hid ((w3.alloc (.cells #[.string tw] 160)).heap[w.heap.size]? = some (.cells #[.string ⟨#[]⟩, .string ⟨#[]⟩, .slice none 0 0, .string ⟨#[]⟩] 59 (0, 0))) := ka3.heap hr3 (fun e => e)
  have lW := hW1.len
  have htw : tw.size < 4294967281 := by
    have e1 : t.data.toList.length = t.size := rfl
    have e2 : tw.data.toList.length = tw.size := rfl
    omega
  have hrs : r.size < 4294967281 := by
    have e1 : t.data.toList.length = t.size := rfl
    have e2 : r.data.toList.length = r.size := rfl
    omega
  have HW1 : Hid (Word t.data.toList tw.data.toList r.data.toList) := hW1
  have hmb : w.heap.size < w1.heap.size := hw1
  clear c2 hW1 lW hm3 hp3 k3 kw3 ka3 hr3 hr1a hm1 kw hw1
  go_wp2_with fail
  go_loopw [4] (fun t4 wr => ∃ (q : Nat) (tv : Value) (l : List Ltr) (c : ByteArray), t4 = .pointer (some ⟨q, 0, none⟩) ∧ MSt w wr p w1.heap.size q a b tv l c r ∧ Chain l tw.data.toList c.data.toList ∧ c.size < 4294967281 ∧ l.length ≤ 4294967281 - c.size ∧ wr.heap[w.heap.size]? = some (.cells #[.string ⟨#[]⟩, .string ⟨#[]⟩, .slice none 0 0, .string ⟨#[]⟩] 59 (0, 0))) (fun t4 wr => toLen t4 wr)
  case atStart => exact ⟨_, _, [], tw, rfl, M0.out, rfl, htw, by simp, HR0.out⟩
  case round =>
    obtain ⟨q, tv, l, c, rfl, M, hch, hc, hlc, hres⟩ := hrel
    have ct : wr.cell? ⟨q, 0, none⟩ = some (.string c) := by rw [Lib.cell_of_heap M.to]; rfl
    have HM : Hid (MSt w wr p w1.heap.size q a b tv l c r) := M
    have HC : Hid (Chain l tw.data.toList c.data.toList) := hch
    have HRes : Hid (wr.heap[w.heap.size]? = some (.cells #[.string ⟨#[]⟩, .string ⟨#[]⟩, .slice none 0 0, .string ⟨#[]⟩] 59 (0, 0))) := hres
    clear M0 HR0 hch hres
    by_cases hc0 : c = ⟨#[]⟩
    · subst hc0
      have cw := word_any p r wr (hG.keep M.k (fun i hi e => by omega)) M.src hrs
      have hmge := M.mge
      obtain ⟨ta, tn, tc, rfl⟩ : ∃ a n c, tv = .slice a n c := by
        obtain ⟨x, y, h', _⟩ := own_form M.row
        exact ⟨x, _, y, h'⟩
      clear M
      unfold ptr at *
      go_wp2_with fail
      refine cw.mono ?_
      rintro e w4 ⟨dd, r2, rfl, hW2, hp4, k4⟩
      have hm4 := k4.heap HM.out.m (fun e => by omega)
      have hr4 := k4.heap HRes.out (fun e => by omega)
      obtain ⟨m0, m1, m2, m3, n0, n1, n2, n3⟩ := mcells hm4
      obtain ⟨o0, o1, o2, o3, l0, l1, l2, l3⟩ := mcells hr4
      have hrow4 := k4.owns HM.out.row (fun j hj e => by
        have := (HM.out.row.lt j hj).1
        omega)
      have K4 : Keeps (fun k => k = p) w w4 := HM.out.k.trans k4
      have hne : w1.heap.size ≠ w.heap.size := by omega
      have HFin : Hid (Word r.data.toList dd.data.toList r2.data.toList ∧ w4.heap[p]? = some (.cells #[.string r2] 160 (0, 0)) ∧ w4.ownsRow w.heap.size 56 2 (.slice ta tn tc) l.length (l.flatMap encL) ∧ Keeps (fun k => k = p) w w4 ∧ w4.heap[w1.heap.size]? = some (.cells #[.string a, .string b, .slice ta tn tc, .string ⟨#[]⟩] 59 (0, 0)) ∧ w4.heap[w.heap.size]? = some (.cells #[.string ⟨#[]⟩, .string ⟨#[]⟩, .slice none 0 0, .string ⟨#[]⟩] 59 (0, 0))) := ⟨hW2, hp4, hrow4, K4, hm4, hr4⟩
      clear cw hW2 hp4 k4 hm4 hr4 hrow4 K4
      have hm5 : (w4.setCell ⟨w1.heap.size, 3, none⟩ (.string dd)).heap[w1.heap.size]? = some (.cells #[.string a, .string b, .slice ta tn tc, .string dd] 59 (0, 0)) := by
        rw [heap_setCell_at HFin.out.2.2.2.2.1]; rfl
      have hr5 : (w4.setCell ⟨w1.heap.size, 3, none⟩ (.string dd)).heap[w.heap.size]? = some (.cells #[.string ⟨#[]⟩, .string ⟨#[]⟩, .slice none 0 0, .string ⟨#[]⟩] 59 (0, 0)) :=
        ((Keeps.refl (fun i => i = w1.heap.size) w4).setCell (p := ⟨w1.heap.size, 3, none⟩) (fun _ => rfl) _).heap HFin.out.2.2.2.2.2 (fun e => hne e.symm)
      have k5 : Keeps (fun i => i = w1.heap.size) w4 (w4.setCell ⟨w1.heap.size, 3, none⟩ (.string dd)) := (Keeps.refl (fun i => i = w1.heap.size) w4).setCell (p := ⟨w1.heap.size, 3, none⟩) (fun _ => rfl) _
      clear o0 o1 o2 o3 l0 l1 l2 l3
      obtain ⟨o0, o1, o2, o3, l0, l1, l2, l3⟩ := mcells hr5
      have HF5 : Hid (∀ W9 : World, Keeps (fun i => i = w.heap.size) (w4.setCell ⟨w1.heap.size, 3, none⟩ (.string dd)) W9 → W9.ownsRow w.heap.size 56 2 (.slice ta tn tc) l.length (l.flatMap encL) ∧ W9.heap[p]? = some (.cells #[.string r2] 160 (0, 0)) ∧ Keeps (fun k => k = p) w W9) := fun W9 k9 => by
        obtain ⟨_, f2, f3, f4, f5, f6⟩ := HFin.out
        have hno : ∀ j, (Value.slice ta tn tc).ownBlock = some j → j ≠ w1.heap.size ∧ j ≠ w.heap.size := fun j hj => by
          have t1 := owns_tag f3 hj
          constructor
          · intro e
            rw [e, tag_cells f5] at t1
            exact absurd (Option.some.inj t1) (by decide)
          · intro e
            rw [e, tag_cells f6] at t1
            exact absurd (Option.some.inj t1) (by decide)
        refine ⟨k9.owns (k5.owns f3 (fun j hj e => (hno j hj).1 e)) (fun j hj e => (hno j hj).2 e), k9.heap (k5.heap f2 (fun e => by omega)) (fun e => by omega), (f4.then k5 (fun i hi e => by omega)).then k9 (fun i hi e => by omega)⟩
      clear hm5 k5 hr5
      obtain ⟨a2, b2, hT⟩ : ∃ (x : Nat) (y : World), y = w4.setCell ⟨w1.heap.size, 3, none⟩ (.string dd) := ⟨0, _, rfl⟩
      have k9 : Keeps (fun i => i = w.heap.size) (w4.setCell ⟨w1.heap.size, 3, none⟩ (.string dd)) (((((w4.setCell ⟨w1.heap.size, 3, none⟩ (.string dd)).setCell ⟨w.heap.size, 0, none⟩ (.string a)).setCell ⟨w.heap.size, 1, none⟩ (.string b)).setCell ⟨w.heap.size, 2, none⟩ (.slice ta tn tc)).setCell ⟨w.heap.size, 3, none⟩ (.string dd)) :=
        ((((Keeps.refl (fun i => i = w.heap.size) _).setCell (p := ⟨w.heap.size, 0, none⟩) (fun _ => rfl) _).setCell (p := ⟨w.heap.size, 1, none⟩) (fun _ => rfl) _).setCell (p := ⟨w.heap.size, 2, none⟩) (fun _ => rfl) _).setCell (p := ⟨w.heap.size, 3, none⟩) (fun _ => rfl) _
      have HK9 : Hid _ := HF5.out _ k9
      clear HF5 k9 hT b2
      have u0 : (((((w4.setCell ⟨w1.heap.size, 3, none⟩ (.string dd)).setCell ⟨w.heap.size, 0, none⟩ (.string a)).setCell ⟨w.heap.size, 1, none⟩ (.string b)).setCell ⟨w.heap.size, 2, none⟩ (.slice ta tn tc)).setCell ⟨w.heap.size, 3, none⟩ (.string dd)).cell? ⟨w.heap.size, 0, none⟩ = some (.string a) := by go_simp
      have u1 : (((((w4.setCell ⟨w1.heap.size, 3, none⟩ (.string dd)).setCell ⟨w.heap.size, 0, none⟩ (.string a)).setCell ⟨w.heap.size, 1, none⟩ (.string b)).setCell ⟨w.heap.size, 2, none⟩ (.slice ta tn tc)).setCell ⟨w.heap.size, 3, none⟩ (.string dd)).cell? ⟨w.heap.size, 1, none⟩ = some (.string b) := by go_simp
      have u2 : (((((w4.setCell ⟨w1.heap.size, 3, none⟩ (.string dd)).setCell ⟨w.heap.size, 0, none⟩ (.string a)).setCell ⟨w.heap.size, 1, none⟩ (.string b)).setCell ⟨w.heap.size, 2, none⟩ (.slice ta tn tc)).setCell ⟨w.heap.size, 3, none⟩ (.string dd)).cell? ⟨w.heap.size, 2, none⟩ = some (.slice ta tn tc) := by go_simp
      have u3 : (((((w4.setCell ⟨w1.heap.size, 3, none⟩ (.string dd)).setCell ⟨w.heap.size, 0, none⟩ (.string a)).setCell ⟨w.heap.size, 1, none⟩ (.string b)).setCell ⟨w.heap.size, 2, none⟩ (.slice ta tn tc)).setCell ⟨w.heap.size, 3, none⟩ (.string dd)).cell? ⟨w.heap.size, 3, none⟩ = some (.string dd) := by go_simp
      go_wp2_with fail
      refine bodyPost_ret (v := .agg #[.string a, .string b, .slice ta tn tc, .string dd]) (by simp [results, Tryz.results86, go_sem, u0, u1, u2, u3]) rfl ?_
      exact ⟨a, b, dd, r2, .slice ta tn tc, l, t.data.toList, tw.data.toList, r.data.toList, rfl, HA1.out, HW1.out, HC.out, HFin.out.1, HK9.out.1, HK9.out.2.1, HK9.out.2.2⟩
    · have hcb : c.toList.isEmpty = false := by
        rw [ByteArray.toList_eq]
        cases h : c.data.toList with
        | nil => exact absurd (ba_ext (by rw [h])) hc0
        | cons x l => rfl
      have hq8 : 8 ≤ q := by have := M.qge; omega
      have hcd : c.data.toList ≠ [] := fun e => hc0 (ba_ext (by rw [e]))
      have hqm : q ≠ w1.heap.size := fun e => by
        have h1 := M.m
        rw [← e, M.to] at h1
        simp at h1
      have hadr := address_any q c wr.drew (hG.keep M.k.drew (fun i hi e => by omega)) M.to hc hq8
      obtain ⟨_, _, cm, _, _, _, _, _⟩ := mcells M.m
      have hst : ∀ w4 : World, Keeps (fun k => k = q) wr.drew w4 → w4.heap[w1.heap.size]? = some (.cells #[.string a, .string b, tv, .string ⟨#[]⟩] 59 (0, 0)) ∧ w4.ownsRow w.heap.size 56 2 tv l.length (l.flatMap encL) := fun w4 k4 => by
        refine ⟨k4.heap M.m (fun e => hqm e.symm), k4.owns M.row (fun j hj e => ?_)⟩
        have t1 := owns_tag M.row hj
        have t2 := tag_cells M.to
        rw [e, t2] at t1
        exact absurd (Option.some.inj t1) (by decide)
      obtain ⟨ta, tn, tc, rfl⟩ : ∃ a n c, tv = .slice a n c := by
        obtain ⟨x, y, h', _⟩ := own_form M.row
        exact ⟨x, _, y, h'⟩
      have HST : Hid (∀ w4 : World, Keeps (fun k => k = q) wr.drew w4 → w4.heap[w1.heap.size]? = some (.cells #[.string a, .string b, .slice ta tn tc, .string ⟨#[]⟩] 59 (0, 0)) ∧ w4.ownsRow w.heap.size 56 2 (.slice ta tn tc) l.length (l.flatMap encL)) := hst
      have hwr : w.heap.size ≤ wr.heap.size := M.k.size
      have hll : l.length ≤ 1099511627776 := by omega
      clear M hst
      unfold ptr at *
      go_wp2_with fail
      go_region_law (first | (refine step_append_addr rfl (.tmp 13) (.tmp 15) rfl w.heap.size (.slice ta tn tc) l x y (by simp [Act.eval]) hrow4 (by simp [Act.eval]) hll hb4 ?_; intro v5 w5 o5 g5; obtain ⟨a5, c5a, rfl, _⟩ := own_form o5; have hm5 := grown_other g5 (hrow4.alloc _) (((Keeps.refl (fun _ => False) w4).alloc (.cells #[.string x, .string y] 56)).heap hm4 (fun e => e)) (by decide); have c5 : w5.cell? ⟨w1.heap.size, 2, none⟩ = some (.slice ta tn tc) := (mcells hm5).2.2.1; have z5 : w5.frozen? ⟨w1.heap.size, 2, none⟩ = false := (mcells hm5).2.2.2.2.2.2.1) | (go_simp; go_wp2_with (go_at_call 115; refine hadr.mono ?_; rintro e w4 ⟨x, y, z, rfl, hA4, hq4, k4⟩; have hm4 := (HST.out w4 k4).1; have hrow4 := (HST.out w4 k4).2; have c4 : w4.cell? ⟨w1.heap.size, 2, none⟩ = some (.slice ta tn tc) := (mcells hm4).2.2.1; have c4' : (w4.alloc (.cells #[.string x, .string y] 56)).cell? ⟨w1.heap.size, 2, none⟩ = some (.slice ta tn tc) := (mcells (((Keeps.refl (fun _ => False) w4).alloc (.cells #[.string x, .string y] 56)).heap hm4 (fun e => e))).2.2.1; have hb4 : w.heap.size ≤ w4.heap.size := Nat.le_trans hwr k4.size)))
      all_goals
        have lz := hA4.len
        have hN := HM.out.next hqm k4 hq4 hrow4 g5 o5 hm5 HRes.out hmb
        have hch5 := HC.out.snoc hcd hA4
        have es1 : c.data.toList.length = c.size := rfl
        have es2 : z.data.toList.length = z.size := rfl
        have lz2 := lz.2 hcd
        have HN : Hid _ := hN
        have cq6 := hN.2.2
        clear hN c4 c4' hm4 hrow4 hm5 c5 z5 o5 g5 hq4 k4
        generalize w5.setCell ⟨w1.heap.size, 2, none⟩ (.slice a5 (l.length + 1) c5a) = w6 at *
        go_wp2_with fail
        go_roundw
        case rel => exact ⟨_, _, _, z, rfl, HN.out.1, hch5, by omega, by simp; omega, HN.out.2.1⟩
        case measure =>
          rw [toLen_at HN.out.1.to, toLen_at HM.out.to]
          omega

end Go.Proofs.YtegbkpjcjlihmabGreatDoor
