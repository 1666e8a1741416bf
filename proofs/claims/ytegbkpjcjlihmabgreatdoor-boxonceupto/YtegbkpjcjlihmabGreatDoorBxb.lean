/-
  What the calls of the library read of the program's variables; a letter's name, and the letter of a name, in memory.
-/
import Derived.Test.YtegbkpjcjlihmabGreatDoorShl
import Derived.Test.YtegbkpjcjlihmabGreatDoorMp
import Derived.Test.YtegbkpjcjlihmabGreatDoorNam
import Derived.Shelf.SlSortCmp.QuietGrown
namespace Go.Proofs.YtegbkpjcjlihmabGreatDoor
open Go.RowKit

theorem var_fresh {S : Nat → Prop} {w w' : World} {n : String} {cs : Array Value} (k : Keeps S w w') (hS : ∀ g, Tryz.prog.globalNamed n = some g → ¬ S g) (hv : w.var? Tryz.prog n = some cs) : w'.var? Tryz.prog n = some cs := by
  unfold World.var? at hv ⊢
  cases hg : Tryz.prog.globalNamed n with
  | none => rw [hg] at hv; cases hv
  | some g =>
    rw [hg] at hv
    simp only [Option.bind_some] at hv ⊢
    cases ho : w.heap[g]? with
    | none => rw [ho] at hv; cases hv
    | some o => rw [k.heap ho (hS g hg)]; rw [ho] at hv; exact hv

/-- what the variables hold that the library reads -/
structure Gl (w : World) : Prop where
  tab : Lib.TabIs Tryz.prog w "internal/strconv.uint64pow10" .u64 Lib.pow10Tab
  syn : ∃ tp p, w.var? Tryz.prog "strconv.ErrSyntax" = some #[.iface tp p]
  rng : ∃ tp p, w.var? Tryz.prog "strconv.ErrRange" = some #[.iface tp p]
  max : ∃ m, w.cell? ⟨0, 0, none⟩ = some (.int .i64 m)

theorem cell_keeps {S : Nat → Prop} {w w' : World} (h : Keeps S w w') {b i : Nat} {u : Value} (hc : w.cell? ⟨b, i, none⟩ = some u) (hn : ¬ S b) : w'.cell? ⟨b, i, none⟩ = some u := by
  have hb : b < w.heap.size := by
    rcases Nat.lt_or_ge b w.heap.size with h' | h'
    · exact h'
    · simp [World.cell?, Array.getElem?_eq_none h'] at hc
  have hb := h.block b hb hn
  simpa [World.cell?, hb] using hc

theorem Gl.fresh {w w' : World} (h : Gl w) (k : Fresh w w') : Gl w' := by
  obtain ⟨tp, p, hs⟩ := h.syn
  obtain ⟨tp', p', hr⟩ := h.rng
  obtain ⟨m, hm⟩ := h.max
  exact ⟨var_fresh k (fun _ _ e => e) h.tab, ⟨tp, p, var_fresh k (fun _ _ e => e) hs⟩, ⟨tp', p', var_fresh k (fun _ _ e => e) hr⟩, ⟨m, cell_keeps k hm (fun e => e)⟩⟩

theorem fresh_grow (w : World) (n : Nat) (os : Array Obj) : Fresh w (Sort.grow (w.drewN n) os) :=
  ⟨rfl, rfl, rfl, by simp [Sort.grow, World.drewN], fun k hk _ => by
    show (w.heap ++ os)[k]? = w.heap[k]?
    exact Array.getElem?_append_left hk⟩

theorem fresh_bytes (w : World) (e : TypeId) (t : ByteArray) : Fresh w (Lib.bytesWorld w e t) := by
  have := Lib.bytesWorld_below w e t
  exact Keeps.ofBelow this

theorem ba_ext {a b : ByteArray} (h : a.data.toList = b.data.toList) : a = b := by
  cases a; cases b
  simp only [ByteArray.mk.injEq] at *
  exact Array.toList_inj.1 h

theorem ba_mk (l : List UInt8) : (⟨l.toArray⟩ : ByteArray).data.toList = l := rfl

theorem ba_add (a b : ByteArray) : (a ++ b).data.toList = a.data.toList ++ b.data.toList := by
  simp [ByteArray.data_append]

/-- a letter's name -/
def nameB (u k : ByteArray) : ByteArray := ⟨(nameOf u.data.toList k.data.toList).toArray⟩

theorem heap_new (w : World) (o : Obj) : (w.alloc o).heap[w.heap.size]? = some o := by
  show (w.heap.push o)[w.heap.size]? = some o
  simp

theorem cells2 {w : World} {b : Nat} {x y : Value} {T : TypeId} (h : w.heap[b]? = some (.cells #[x, y] T (0, 0))) :
    w.cell? ⟨b, 0, none⟩ = some x ∧ w.cell? ⟨b, 1, none⟩ = some y ∧ w.frozen? ⟨b, 0, none⟩ = false ∧ w.frozen? ⟨b, 1, none⟩ = false := by
  refine ⟨by rw [Lib.cell_of_heap h]; rfl, by rw [Lib.cell_of_heap h]; rfl, ?_, ?_⟩ <;> simp [World.frozen?, h]

theorem mixed : Tryz.prog.follows .mixedOrders = true := by kernel_rfl

set_option maxHeartbeats 1000000 in
theorem name_any (u k : ByteArray) (w : World) (hG : Gl w) (hu : u.size ≤ 1099511627776) (hk : k.size ≤ 1099511627776) :
    Calls Tryz.prog 67 #[.agg #[.string u, .string k]] w fun e w' => e = .returned (.string (nameB u k)) ∧ Fresh w w' := by
  have hm := mixed
  have kF : Fresh w (w.alloc (.cells #[.string u, .string k] 142)) := (Keeps.refl _ w).alloc _
  have hI0 : (Lib.itoa (u.size : Int)) = Lib.decDigits u.size := itoa_nat _
  obtain ⟨I, hI⟩ : ∃ I : ByteArray, I = ⟨(Lib.itoa (u.size : Int)).toArray⟩ := ⟨_, rfl⟩
  have hIl : I.data.toList = Lib.decDigits u.data.toList.length := by rw [hI, ba_mk, hI0]; rfl
  have hIs : I.size ≤ 18 := by
    have := digits_len 17 u.size (by omega)
    rw [hI, hI0]
    exact this
  have hc : ∀ n os, Calls Tryz.prog 98 #[.int .i64 (u.size : Int)] (Sort.grow ((w.alloc (.cells #[.string u, .string k] 142)).drewN n) os) fun e w' => e = .returned (.string I) ∧ ∃ q os', w' = Sort.grow ((Sort.grow ((w.alloc (.cells #[.string u, .string k] 142)).drewN n) os).drewN q) os' := fun n os => by
    rw [hI]
    exact Tryz.strconv_Itoa (u.size : Int) (by omega) (by omega) _ (hG.fresh (kF.trans (fresh_grow _ n os))).tab
  have hw0 : (w.alloc (.cells #[.string u, .string k] 142)).heap[w.heap.size]? = some (.cells #[.string u, .string k] 142) := heap_new _ _
  have c0 : ∀ n os, (Sort.grow ((w.alloc (.cells #[.string u, .string k] 142)).drewN n) os).cell? ⟨w.heap.size, 0, none⟩ = some (.string u) := cell_grown (by simp) (by rw [Lib.cell_of_heap hw0]; rfl)
  have c1 : ∀ n os, (Sort.grow ((w.alloc (.cells #[.string u, .string k] 142)).drewN n) os).cell? ⟨w.heap.size, 1, none⟩ = some (.string k) := cell_grown (by simp) (by rw [Lib.cell_of_heap hw0]; rfl)
  obtain ⟨t1, h1⟩ : ∃ t : ByteArray, t = ⟨#[98, 111, 120, 47]⟩ ++ I := ⟨_, rfl⟩
  obtain ⟨t2, h2⟩ : ∃ t : ByteArray, t = t1 ++ ⟨#[58]⟩ := ⟨_, rfl⟩
  obtain ⟨t3, h3⟩ : ∃ t : ByteArray, t = t2 ++ u := ⟨_, rfl⟩
  obtain ⟨t4, h4⟩ : ∃ t : ByteArray, t = t3 ++ k := ⟨_, rfl⟩
  have z4 : (⟨#[98, 111, 120, 47]⟩ : ByteArray).size = 4 := rfl
  have z1 : (⟨#[58]⟩ : ByteArray).size = 1 := rfl
  have s1 : t1.size ≤ 22 := by rw [h1, ByteArray.size_append]; omega
  have s2 : t2.size ≤ 23 := by rw [h2, ByteArray.size_append]; omega
  have s3 : t3.size ≤ 23 + u.size := by rw [h3, ByteArray.size_append]; omega
  have e1 : ∀ W : World, (Op.stringOp .add ⟨#[98, 111, 120, 47]⟩ I).run Tryz.prog W = .ok (.string t1) W := fun W => by rw [h1]; exact run_string_add_sum W _ _ (by omega)
  have e2 : ∀ W : World, (Op.stringOp .add t1 ⟨#[58]⟩).run Tryz.prog W = .ok (.string t2) W := fun W => by rw [h2]; exact run_string_add_sum W _ _ (by omega)
  have e3 : ∀ W : World, (Op.stringOp .add t2 u).run Tryz.prog W = .ok (.string t3) W := fun W => by rw [h3]; exact run_string_add_sum W _ _ (by omega)
  have e4 : ∀ W : World, (Op.stringOp .add t3 k).run Tryz.prog W = .ok (.string t4) W := fun W => by rw [h4]; exact run_string_add_sum W _ _ (by omega)
  have ht : Hid (t4 = nameB u k) := by
    refine ba_ext ?_
    rw [h4, ba_add, h3, ba_add, h2, ba_add, h1, ba_add, hIl]
    simp [nameB, nameOf, boxPre]
  clear h1 h2 h3 h4 s1 s2 s3 z4 z1 hI hIl hIs hI0 hw0
  go_enter Tryz.func67, Tryz.ntmps67
  go_wp2_with fail
  generalize w.alloc (.cells #[.string u, .string k] 142) = w1 at *
  go_quiet_grown ((go_at_call 98; refine Calls.grown_of (hc _ _)))
  go_wp2
  go_ret
  exact ⟨by rw [← ht.out]; rfl, kF.trans (fresh_grow _ _ _)⟩

theorem atoi_all (s : ByteArray) (hs : s.size ≤ 281474976710656) (w : World) (hG : Gl w) :
    Calls Tryz.prog 126 #[.string s] w fun e w' => ((∃ n : Int, Lib.atoiAll s.data.toList = .ok n ∧ e = .returned (.tuple #[.int .i64 n, .nilIface])) ∨ (∃ (n : Int) (t : TypeId) (p : Value), (∀ v, Lib.atoiAll s.data.toList ≠ .ok v) ∧ e = .returned (.tuple #[.int .i64 n, .iface t p]))) ∧ Fresh w w' := by
  cases h : Lib.atoiAll s.data.toList with
  | ok v =>
    refine (Tryz.strconv_Atoi_ok s (by omega) v h w).mono ?_
    rintro e w' ⟨rfl, hw⟩
    refine ⟨.inl ⟨v, rfl, rfl⟩, ?_⟩
    rcases hw with rfl | ⟨t, rfl⟩
    · exact Keeps.refl _ _
    · exact fresh_bytes _ _ _
  | «syntax» =>
    obtain ⟨tp, p, hv⟩ := hG.syn
    refine (Tryz.strconv_Atoi_syntax_var s hs h tp p w hv).mono ?_
    rintro e w' ⟨N, rfl, _, _, hb⟩
    exact ⟨.inr ⟨_, _, _, fun _ e => by (cases e), rfl⟩, Keeps.ofBelow hb⟩
  | range =>
    obtain ⟨tp, p, hv⟩ := hG.rng
    refine (Tryz.strconv_Atoi_range_var s hs h tp p w hv).mono ?_
    rintro e w' ⟨N, rfl, _, _, hb⟩
    exact ⟨.inr ⟨_, _, _, fun _ e => by (cases e), rfl⟩, Keeps.ofBelow hb⟩

theorem cut_len (s sep : List UInt8) : (Lib.cut s sep).1.length ≤ s.length ∧ (Lib.cut s sep).2.1.length ≤ s.length := by
  unfold Lib.cut
  split
  · exact ⟨by simp; omega, by simp⟩
  · exact ⟨Nat.le_refl _, by simp⟩

set_option maxHeartbeats 2000000 in
theorem letterOf_any (s : ByteArray) (w : World) (hG : Gl w) (hs : s.size < 4294967281) :
    Calls Tryz.prog 103 #[.string s] w fun e w' => ∃ (a b : ByteArray) (r : Bool), e = .returned (.tuple #[.agg #[.string a, .string b], .bool r]) ∧ letterOf s.data.toList = (if r = true then some (a.data.toList, b.data.toList) else none) ∧ Fresh w w' := by
  obtain ⟨m, hm⟩ := hG.max
  obtain ⟨R, hR⟩ : ∃ R : ByteArray, R = ⟨(Lib.trimPrefix s.data.toList [98, 111, 120, 47]).toArray⟩ := ⟨_, rfl⟩
  obtain ⟨b1, hb1⟩ : ∃ b : Bool, b = Lib.hasPrefix s.data.toList [98, 111, 120, 47] := ⟨_, rfl⟩
  have c1 : ∀ W, Calls Tryz.prog 125 #[.string s, .string ⟨#[98, 111, 120, 47]⟩] W fun e w' => e = .returned (.tuple #[.string R, .bool b1]) ∧ w' = W := fun W => by
    rw [hR, hb1]; exact Tryz.strings_CutPrefix s ⟨#[98, 111, 120, 47]⟩ W
  have hRs : R.size ≤ s.size := by
    rw [hR]
    show (Lib.trimPrefix s.data.toList [98, 111, 120, 47]).length ≤ s.data.toList.length
    unfold Lib.trimPrefix
    split <;> simp
  have hRd : b1 = true → R.data.toList = s.data.toList.drop 4 := fun e => by
    rw [hR, ba_mk]
    unfold Lib.trimPrefix
    rw [← hb1, e]; rfl
  clear hR
  obtain ⟨S, hS⟩ : ∃ S : ByteArray, S = ⟨(Lib.cut R.data.toList [58]).1.toArray⟩ := ⟨_, rfl⟩
  obtain ⟨T, hT⟩ : ∃ T : ByteArray, T = ⟨(Lib.cut R.data.toList [58]).2.1.toArray⟩ := ⟨_, rfl⟩
  obtain ⟨b2, hb2⟩ : ∃ b : Bool, b = (Lib.cut R.data.toList [58]).2.2 := ⟨_, rfl⟩
  have c2 : ∀ W, Fresh w W → Calls Tryz.prog 130 #[.string R, .string ⟨#[58]⟩] W fun e w' => e = .returned (.tuple #[.string S, .string T, .bool b2]) ∧ ∃ n, w' = W.drewN n := fun W k => by
    rw [hS, hT, hb2]; exact Tryz.strings_Cut R ⟨#[58]⟩ m W (by omega) (cell_keeps k hm (fun e => e))
  have hl := cut_len R.data.toList [58]
  have hSs : S.size ≤ 281474976710656 := by
    have h1 := hl.1
    rw [hS]
    show (Lib.cut R.data.toList [58]).1.length ≤ _
    have : R.data.toList.length = R.size := rfl
    omega
  have hTs : T.size ≤ 281474976710656 := by
    have h1 := hl.2
    rw [hT]
    show (Lib.cut R.data.toList [58]).2.1.length ≤ _
    have : R.data.toList.length = R.size := rfl
    omega
  have hp : Lib.hasPrefix s.data.toList [98, 111, 120, 47] = boxPre.isPrefixOf s.data.toList := rfl
  have HL : Hid (letterOf s.data.toList = if b1 = true ∧ b2 = true then (match Lib.atoiAll S.data.toList with | .ok n => if 0 ≤ n ∧ n ≤ T.data.toList.length then some (T.data.toList.take n.toNat, T.data.toList.drop n.toNat) else none | _ => none) else none) := by
    show letterOf _ = _
    unfold letterOf
    rw [← hp, ← hb1]
    cases b1 with
    | false => simp
    | true =>
      have e4 := hRd rfl
      rw [hS, hT, ba_mk, ba_mk, hb2, e4]
      simp only [true_and, if_true]
      rfl
  clear hb1 hRd hS hT hb2 hl hRs hp hm
  have hw0 : (w.alloc (.cells #[.string ⟨#[]⟩, .string ⟨#[]⟩] 142)).heap[w.heap.size]? = some (.cells #[.string ⟨#[]⟩, .string ⟨#[]⟩] 142) := heap_new _ _
  have k0 : Fresh w (w.alloc (.cells #[.string ⟨#[]⟩, .string ⟨#[]⟩] 142)) := (Keeps.refl _ w).alloc _
  go_enter Tryz.func103, Tryz.ntmps103
  go_wp2_with fail
  generalize w.alloc (.cells #[.string ⟨#[]⟩, .string ⟨#[]⟩] 142) = w0 at *
  refine (c1 w0).mono ?_
  rintro e w1 ⟨rfl, rfl⟩
  go_wp2_with fail
  refine (c2 w1 k0).mono ?_
  rintro e w2 ⟨rfl, n2, rfl⟩
  have k2 : Fresh w1 (w1.drewN n2) := (Keeps.refl _ w1).drewN n2
  have c3 := atoi_all S hSs (w1.drewN n2) (hG.fresh (k0.trans k2))
  generalize w1.drewN n2 = w2 at *
  clear c1 c2
  go_wp2_with fail
  refine c3.mono ?_
  rintro e w3 ⟨he, k3⟩
  have F : Fresh w w3 := k0.trans (k2.trans k3)
  have hw3 := (k2.trans k3).heap hw0 (fun e => e)
  clear c3 k2 k3 k0 hw0
  obtain ⟨q0, q1, f0, f1⟩ := cells2 hw3
  have KS : Hid (∀ x y : Value, Fresh w ((w3.setCell ⟨w.heap.size, 0, none⟩ x).setCell ⟨w.heap.size, 1, none⟩ y)) := fun x y =>
    (F.setCell (p := ⟨w.heap.size, 0, none⟩) (fun e => absurd e (Nat.lt_irrefl _)) x).setCell (p := ⟨w.heap.size, 1, none⟩) (fun e => absurd e (Nat.lt_irrefl _)) y
  clear F
  cases b1
  · have h0 : Hid (letterOf s.data.toList = none) := HL.out.trans (if_neg (fun e => by cases e.1))
    clear HL
    rcases he with ⟨n, _, rfl⟩ | ⟨n, t, p, _, rfl⟩
    all_goals (
      go_wp2
      refine bodyPost_ret (v := .tuple #[.agg #[.string ⟨#[]⟩, .string ⟨#[]⟩], .bool false]) (by simp [results, Tryz.results103, go_sem, q0, q1]) rfl ?_
      exact ⟨⟨#[]⟩, ⟨#[]⟩, false, rfl, h0.out, KS.out _ _⟩)
  cases b2
  · have h0 : Hid (letterOf s.data.toList = none) := HL.out.trans (if_neg (fun e => by cases e.2))
    clear HL
    rcases he with ⟨n, _, rfl⟩ | ⟨n, t, p, _, rfl⟩
    all_goals (
      go_wp2
      refine bodyPost_ret (v := .tuple #[.agg #[.string ⟨#[]⟩, .string ⟨#[]⟩], .bool false]) (by simp [results, Tryz.results103, go_sem, q0, q1]) rfl ?_
      exact ⟨⟨#[]⟩, ⟨#[]⟩, false, rfl, h0.out, KS.out _ _⟩)
  rcases he with ⟨n, hn, rfl⟩ | ⟨n, t, p, hn, rfl⟩
  · have hb := Lib.atoiAll_bounds hn
    by_cases hn0 : n < 0
    · have h0 : Hid (letterOf s.data.toList = none) := by
        show letterOf _ = none
        rw [HL.out, if_pos ⟨rfl, rfl⟩, hn]
        exact if_neg (fun e => by omega)
      clear HL
      go_wp2
      refine bodyPost_ret (v := .tuple #[.agg #[.string ⟨#[]⟩, .string ⟨#[]⟩], .bool false]) (by simp [results, Tryz.results103, go_sem, q0, q1]) rfl ?_
      exact ⟨⟨#[]⟩, ⟨#[]⟩, false, rfl, h0.out, KS.out _ _⟩
    · by_cases hnl : (T.size : Int) < n
      · have h0 : Hid (letterOf s.data.toList = none) := by
          show letterOf _ = none
          rw [HL.out, if_pos ⟨rfl, rfl⟩, hn]
          refine if_neg (fun e => ?_)
          have : T.data.toList.length = T.size := rfl
          omega
        clear HL
        go_wp2
        refine bodyPost_ret (v := .tuple #[.agg #[.string ⟨#[]⟩, .string ⟨#[]⟩], .bool false]) (by simp [results, Tryz.results103, go_sem, q0, q1]) rfl ?_
        exact ⟨⟨#[]⟩, ⟨#[]⟩, false, rfl, h0.out, KS.out _ _⟩
      · obtain ⟨k, rfl⟩ : ∃ k : Nat, n = (k : Int) := ⟨n.toNat, by omega⟩
        have hk : k ≤ T.size := by omega
        have h0 : Hid (letterOf s.data.toList = some (T.data.toList.take k, T.data.toList.drop k)) := by
          show letterOf _ = _
          rw [HL.out, if_pos ⟨rfl, rfl⟩, hn]
          have : T.data.toList.length = T.size := rfl
          refine (if_pos ⟨by omega, by omega⟩).trans ?_
          rw [Int.toNat_natCast]
        clear HL
        have z1 : (0 : Int) ≤ (k : Int) := by omega
        have z2 : (k : Int) ≤ (T.size : Int) := by omega
        go_wp2
        go_region
        have x1 : (T.extract 0 k).data.toList = T.data.toList.take k := by simp [ByteArray.data_extract]
        have x2 : (T.extract k T.size).data.toList = T.data.toList.drop k := by
          simp only [ByteArray.data_extract, Array.toList_extract, List.extract]
          exact List.take_of_length_le (by simp)
        generalize T.extract 0 k = X at *
        generalize T.extract k T.size = Y at *
        have q2 : ((w3.setCell ⟨w.heap.size, 0, none⟩ (.string X)).setCell ⟨w.heap.size, 1, none⟩ (.string Y)).cell? ⟨w.heap.size, 0, none⟩ = some (.string X) := by go_simp
        have q3 : ((w3.setCell ⟨w.heap.size, 0, none⟩ (.string X)).setCell ⟨w.heap.size, 1, none⟩ (.string Y)).cell? ⟨w.heap.size, 1, none⟩ = some (.string Y) := by go_simp
        go_wp2
        refine bodyPost_ret (v := .tuple #[.agg #[.string X, .string Y], .bool true]) (by simp [results, Tryz.results103, go_sem, q2, q3]) rfl ?_
        exact ⟨X, Y, true, rfl, by rw [h0.out, x1, x2]; rfl, (KS.out _ _).drew⟩
  · have h0 : Hid (letterOf s.data.toList = none) := by
      show letterOf _ = none
      rw [HL.out, if_pos ⟨rfl, rfl⟩]
      cases h : Lib.atoiAll S.data.toList with
      | ok v => exact absurd h (hn v)
      | «syntax» => rfl
      | range => rfl
    clear HL
    go_wp2
    refine bodyPost_ret (v := .tuple #[.agg #[.string ⟨#[]⟩, .string ⟨#[]⟩], .bool false]) (by simp [results, Tryz.results103, go_sem, q0, q1]) rfl ?_
    exact ⟨⟨#[]⟩, ⟨#[]⟩, false, rfl, h0.out, KS.out _ _⟩

end Go.Proofs.YtegbkpjcjlihmabGreatDoor
