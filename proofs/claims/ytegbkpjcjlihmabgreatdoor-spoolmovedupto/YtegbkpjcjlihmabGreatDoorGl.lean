/-
  Who is left: a map from addresses to places. | Who is left: what is done to the map. | Who is left, in order: plain; and the keys of the map, as they come.
-/
import Derived.Test.YtegbkpjcjlihmabGreatDoorGk
import Derived.DeepKeys4
import Derived.Maps.Keyed
import Derived.Maps.OwnSet
import Derived.Test.YtegbkpjcjlihmabGreatDoorGa
import Derived.Test.YtegbkpjcjlihmabGreatDoorSra
import Derived.Sort.MapsRangeIn
namespace Go.Proofs.YtegbkpjcjlihmabGreatDoor
open Go.RowKit Go.Maps Go.ChangeMaps Go.WideMaps

theorem law56 : Keyed Tryz.prog 56 := Keyed.of_law (deep_law (m := 4) (by omega) (by kernel_rfl) (by kernel_rfl) (by kernel_rfl))

/-- how an address reads as a key -/
def keyA (p : Ltr) : Lit := .string (keyBytes [.string p.1, .string p.2])

theorem keyType56 : Tryz.prog.keyType 56 = true := by kernel_rfl
theorem cells56 : Tryz.prog.cellsOf 56 = 2 := by kernel_rfl
theorem cells9 : Tryz.prog.cellsOf 9 = 1 := by kernel_rfl
theorem size309 : Tryz.prog.types.size + 1 = 308 + 1 + 1 := by kernel_rfl

theorem lits9 (n : Nat) (s : ByteArray) (hs : s.size ≤ maxLen) : Tryz.prog.keyLits (n + 1) 9 [.string s] = some [.string s.data.toList] := by
  unfold Program.keyLits
  simp only [Tryz.underlying9, hs, if_true]

theorem keyA_of (a b : ByteArray) (ha : a.size ≤ maxLen) (hb : b.size ≤ maxLen) : keyOf Tryz.prog 56 (.agg #[.string a, .string b]) = some (keyA (a.data.toList, b.data.toList)) := by
  have hf : (Value.agg #[.string a, .string b]).formed Tryz.prog 56 = true := by unfold Value.formed; simp [Tryz.underlying56, cells56]
  have hc : (Value.agg #[.string a, .string b]).cells.toList = [.string a, .string b] := by rfl
  have hl : Tryz.prog.keyLits (308 + 1 + 1) 56 [.string a, .string b] = some [.string a.data.toList, .string b.data.toList] := by
    unfold Program.keyLits
    simp [Tryz.underlying56, cells56, cells9, lits9, ha, hb]
  unfold keyOf
  simp only [Tryz.underlying56, keyType56, hf, hc, size309, hl, Bool.and_self, if_true, Option.map_some]
  rfl

end Go.Proofs.YtegbkpjcjlihmabGreatDoor

namespace Go.Proofs.YtegbkpjcjlihmabGreatDoor
open Go.RowKit Go.Maps Go.ChangeMaps Go.WideMaps

/-- who is left, each with a place -/
abbrev Lefts := Ltr → Option Int

/-- how a place reads -/
def placeR : Value → Option (DataW Nat × List MemPlace)
  | .int .i64 n => some (.lit (.int .i64 n), [])
  | _ => none

theorem placeR_inv {v : Value} {x : Int} {ps : List MemPlace} (h : placeR v = some (.lit (.int .i64 x), ps)) : v = .int .i64 x := by
  unfold placeR at h
  split at h
  · simp at h
    rw [h.1]
  · cases h

theorem zero3 (w : World) : (zeroValue 3).run Tryz.prog w = .ok (.int .i64 0) w := by kernel_rfl

def okA (p : Ltr) : Prop := p.1.length ≤ maxLen ∧ p.2.length ≤ maxLen

def addrV (p : Ltr) : Value := .agg #[.string ⟨p.1.toArray⟩, .string ⟨p.2.toArray⟩]

theorem keyA_at (p : Ltr) (h : okA p) : keyOf Tryz.prog 56 (addrV p) = some (keyA p) := keyA_of ⟨p.1.toArray⟩ ⟨p.2.toArray⟩ h.1 h.2

theorem keyA_inj {p q : Ltr} (hp : okA p) (hq : okA q) (e : keyA p = keyA q) : p = q := by
  have h := law56.inj (keyA_at p hp) (e ▸ keyA_at q hq)
  unfold addrV at h
  simp at h
  obtain ⟨a, b⟩ := p
  obtain ⟨c, d⟩ := q
  simp at h
  rw [h.1, h.2]

/-- block m is a map of c entries, at most n, that gives M -/
def LeftAt (w : World) (m n c : Nat) (M : Lefts) : Prop :=
  ∃ D : DataW Nat, w.ownsMap Tryz.prog 56 placeR m n D ∧ Maps.size D = c ∧ ∀ p, okA p → has D (keyA p) = (M p).isSome ∧ ∀ x, M p = some x → D.atKey (keyA p) (.lit (.int .i64 0)) = .lit (.int .i64 x)

theorem LeftAt.lt {w : World} {m n c : Nat} {M : Lefts} (h : LeftAt w m n c M) : m < w.heap.size := let ⟨_, h, _⟩ := h; h.lt

theorem LeftAt.of_heap {w w' : World} {m n c : Nat} {M : Lefts} (h : LeftAt w m n c M) (e : w'.heap[m]? = w.heap[m]?) : LeftAt w' m n c M := by
  obtain ⟨D, ⟨es, cl, hb, r⟩, k⟩ := h
  exact ⟨D, ⟨es, cl, e.trans hb, r⟩, k⟩

theorem Keeps.leftAt {S : Nat → Prop} {w w' : World} (h : Keeps S w w') {m n c : Nat} {M : Lefts} (hm : LeftAt w m n c M) (hn : ¬ S m) : LeftAt w' m n c M :=
  hm.of_heap (h.block m hm.lt hn)

theorem leftAt_made (w : World) (n : Nat) : LeftAt (w.alloc (.map #[] 0)) w.heap.size n 0 (fun _ => none) :=
  ⟨_, (World.ownsMap_made w _ _ _).mono (Nat.zero_le _), rfl, fun _ _ => ⟨rfl, fun _ h => by cases h⟩⟩

/-- 'v, ok := m[k]' -/
theorem LeftAt.look {w : World} {m n c : Nat} {M : Lefts} (h : LeftAt w m n c M) (p : Ltr) (hp : okA p) (T : TypeId) (hT : Tryz.prog.underlying T = some (.map 56 3)) :
    (M p = none → (Instr.lookup T (.map (some m)) (addrV p) true).run Tryz.prog w = .ok (.tuple #[.int .i64 0, .bool false]) w) ∧
    (∀ x, M p = some x → (Instr.lookup T (.map (some m)) (addrV p) true).run Tryz.prog w = .ok (.tuple #[.int .i64 x, .bool true]) w) := by
  obtain ⟨D, ho, _, hk⟩ := h
  obtain ⟨v, ps, hr, hv⟩ := ho.look_ok (t := T) (e := 3) law56 hT (zero3 w) (zd := .lit (.int .i64 0)) (zp := []) rfl (key := addrV p) (kl := keyA p) (keyA_at p hp)
  obtain ⟨h1, h2⟩ := hk p hp
  constructor
  · intro hn
    rw [hn] at h1
    rw [hr, h1]
    rw [atKey_of_not_has h1] at hv
    rw [placeR_inv hv]
    rfl
  · intro x hx
    rw [hx] at h1
    rw [hr, h1]
    rw [h2 x hx] at hv
    rw [placeR_inv hv]
    rfl

/-- 'm[k]' -/
theorem LeftAt.get {w : World} {m n c : Nat} {M : Lefts} (h : LeftAt w m n c M) (p : Ltr) (hp : okA p) (T : TypeId) (hT : Tryz.prog.underlying T = some (.map 56 3)) (x : Int) (hx : M p = some x) :
    (Instr.lookup T (.map (some m)) (addrV p) false).run Tryz.prog w = .ok (.int .i64 x) w := by
  obtain ⟨D, ho, _, hk⟩ := h
  obtain ⟨v, ps, hr, hv⟩ := ho.lookup (t := T) (e := 3) law56 hT (zero3 w) (zd := .lit (.int .i64 0)) (zp := []) rfl (key := addrV p) (kl := keyA p) (keyA_at p hp)
  rw [(hk p hp).2 x hx] at hv
  rw [hr, placeR_inv hv]

/-- 'len(m)' -/
theorem LeftAt.len {w : World} {m n c : Nat} {M : Lefts} (h : LeftAt w m n c M) (T : TypeId) (hT : Tryz.prog.underlying T = some (.map 56 3)) (ty : TypeId) :
    (Builtin.len_ #[T] ty #[.map (some m)]).run Tryz.prog w = .ok (.int .i64 c) w := by
  obtain ⟨D, ho, rfl, _⟩ := h
  exact ho.len hT ty

def putA (M : Lefts) (p : Ltr) (x : Int) : Lefts := fun q => if q = p then some x else M q
def delA (M : Lefts) (p : Ltr) : Lefts := fun q => if q = p then none else M q

/-- 'm[k] = v' -/
theorem LeftAt.put {w : World} {m n c : Nat} {M : Lefts} (h : LeftAt w m n c M) (hn : n < maxLen) (p : Ltr) (hp : okA p) (T : TypeId) (hT : Tryz.prog.underlying T = some (.map 56 3)) (x : Int) :
    ∃ w', (Instr.mapUpdate T (.map (some m)) (addrV p) (.int .i64 x)).run Tryz.prog w = .ok () w' ∧ LeftAt w' m (n + 1) (if (M p).isSome = true then c else c + 1) (putA M p x) ∧ Keeps (fun k => k = m) w w' ∧ w'.heap.size = w.heap.size := by
  obtain ⟨D, ho, hc, hk⟩ := h
  obtain ⟨w', hr, ho', ht⟩ := ho.store (t := T) (e := 3) law56 hT hn (key := addrV p) (val := .int .i64 x) (kl := keyA p) (keyA_at p hp) (d := .lit (.int .i64 x)) (ps := []) rfl
  have hkl : WideAt.IsKeyLit (keyA p) := law56.key (keyA_at p hp)
  refine ⟨w', hr, ⟨_, ho', ?_, fun q hq => ?_⟩, turned_keeps ht, turned_size ht⟩
  · rw [size_put (ho.tidy law56), (hk p hp).1, hc]
  · unfold putA
    by_cases e : q = p
    · subst e
      rw [if_pos rfl, has_put_same ho.isMap hkl]
      exact ⟨rfl, fun y hy => by rw [atKey_put_same ho.isMap hkl, Option.some.inj hy]⟩
    · have hne : keyA q ≠ keyA p := fun e' => e (keyA_inj hq hp e')
      rw [if_neg e, has_put_other hne, atKey_put_other hne]
      exact hk q hq

/-- 'delete(m, k)' -/
theorem LeftAt.del {w : World} {m n c : Nat} {M : Lefts} (h : LeftAt w m n c M) (p : Ltr) (hp : okA p) (T : TypeId) (hT : Tryz.prog.underlying T = some (.map 56 3)) (ty : TypeId) :
    ∃ w', (Builtin.delete_ #[T, 56] ty #[.map (some m), addrV p]).run Tryz.prog w = .ok (.tuple #[]) w' ∧ LeftAt w' m n (c - (if (M p).isSome = true then 1 else 0)) (delA M p) ∧ Keeps (fun k => k = m) w w' ∧ w'.heap.size = w.heap.size := by
  obtain ⟨D, ho, hc, hk⟩ := h
  obtain ⟨w', hr, ho', ht⟩ := ho.drop (t := T) (e := 3) law56 hT (key := addrV p) (kl := keyA p) (keyA_at p hp) ty
  refine ⟨w', hr, ⟨_, ho', ?_, fun q hq => ?_⟩, turned_keeps ht, turned_size ht⟩
  · have := size_del (k := keyA p) (ho.tidy law56)
    rw [(hk p hp).1, hc] at this
    omega
  · unfold delA
    by_cases e : q = p
    · subst e
      rw [if_pos rfl, has_del_same]
      exact ⟨rfl, fun y hy => by cases hy⟩
    · have hne : keyA q ≠ keyA p := fun e' => e (keyA_inj hq hp e')
      rw [if_neg e, has_del_other hne, atKey_del_other hne]
      exact hk q hq

end Go.Proofs.YtegbkpjcjlihmabGreatDoor

namespace Go.Proofs.YtegbkpjcjlihmabGreatDoor
open Go.RowKit Go.Maps Go.ChangeMaps Go.WideMaps Go.Sort

/-- an address that fits -/
abbrev AddrK := { p : Ltr // okA p }

/-- places that fit, each once -/
structure okM (M : Lefts) : Prop where
  rng : ∀ p x, M p = some x → 0 ≤ x ∧ x < 1099511627776
  inj : ∀ p q x, M p = some x → M q = some x → p = q

theorem okM.del {M : Lefts} (h : okM M) (p : Ltr) : okM (delA M p) := by
  have e : ∀ q x, delA M p q = some x → M q = some x := fun q x hq => by
    unfold delA at hq
    split at hq
    · cases hq
    · exact hq
  exact ⟨fun q x hq => h.rng q x (e q x hq), fun q r x hq hr => h.inj q r x (e q x hq) (e r x hr)⟩

theorem okM.none : okM (fun _ => none) := ⟨fun _ _ h => absurd h (by simp), fun _ _ _ h => absurd h (by simp)⟩

def plOf (M : Lefts) (p : Ltr) : Int := (M p).getD 0

/-- who is left, in order -/
structure Ordered (M : Lefts) (ls : List Ltr) : Prop where
  nodup : ls.Nodup
  mem : ∀ p, p ∈ ls ↔ okA p ∧ (M p).isSome = true
  up : ls.Pairwise (fun p q => plOf M p ≤ plOf M q)

theorem Ordered.unique {M : Lefts} {ls ls' : List Ltr} (hM : okM M) (h : Ordered M ls) (h' : Ordered M ls') : ls = ls' := by
  refine List.Perm.eq_of_pairwise (le := fun p q => plOf M p ≤ plOf M q) (fun p q hp hq h1 h2 => ?_) h.up h'.up ((List.perm_ext_iff_of_nodup h.nodup h'.nodup).2 fun p => by rw [h.mem, h'.mem])
  obtain ⟨x, hx⟩ := Option.isSome_iff_exists.1 ((h.mem p).1 hp).2
  obtain ⟨y, hy⟩ := Option.isSome_iff_exists.1 ((h'.mem q).1 hq).2
  have e1 : plOf M p = x := by unfold plOf; rw [hx]; rfl
  have e2 : plOf M q = y := by unfold plOf; rw [hy]; rfl
  rw [e1, e2] at h1 h2
  obtain rfl : x = y := by omega
  exact hM.inj p q x hx hy

/-- how they are held against each other -/
def cmpA (M : Lefts) (x y : AddrK) : Int := plOf M x.1 - plOf M y.1

theorem swoA (M : Lefts) : SWO (ltOf (cmpA M)) where
  irrefl x := by simp [ltOf, cmpA]
  trans x y z h1 h2 := by
    have h1 : cmpA M x y < 0 := of_decide_eq_true h1
    have h2 : cmpA M y z < 0 := of_decide_eq_true h2
    refine decide_eq_true (show cmpA M x z < 0 from ?_)
    unfold cmpA at *
    omega
  ntrans x y z h1 h2 := by
    have h1 : ¬ cmpA M x y < 0 := of_decide_eq_false h1
    have h2 : ¬ cmpA M y z < 0 := of_decide_eq_false h2
    refine decide_eq_false (show ¬ cmpA M x z < 0 from ?_)
    unfold cmpA at *
    omega

theorem ordered_of_sorted [Inhabited AddrK] {M : Lefts} {d d' : Array AddrK} (hp : PermIn 0 d.size d d') (hs : SortedIn (ltOf (cmpA M)) 0 d.size d') (hn : (d.toList.map (·.1)).Nodup) (hm : ∀ p, p ∈ d.toList.map (·.1) ↔ okA p ∧ (M p).isSome = true) : Ordered M (d'.toList.map (·.1)) ∧ d'.size = d.size := by
  have e1 : d'.extract 0 d.size = d' := by rw [← hp.1]; simp
  have e2 : d.extract 0 d.size = d := by simp
  have hperm : (d'.toList.map (·.1)).Perm (d.toList.map (·.1)) := by
    have := hp.2.2
    rw [e1, e2] at this
    exact this.map _
  refine ⟨⟨hperm.nodup_iff.2 hn, fun p => by rw [hperm.mem_iff, hm], ?_⟩, hp.1⟩
  rw [List.pairwise_map, List.pairwise_iff_getElem]
  intro i j hi hj hij
  have hi' : i < d'.size := by simpa using hi
  have hj' : j < d'.size := by simpa using hj
  have := hs i j (Nat.zero_le _) hij (by rw [← hp.1]; exact hj')
  rw [getElem!_pos d' i hi', getElem!_pos d' j hj'] at this
  have this : ¬ cmpA M d'[j] d'[i] < 0 := of_decide_eq_false this
  unfold cmpA at this
  simp only [Array.getElem_toList]
  omega

/-- a map's keys, as far as they have come -/
def CollA (D0 : DataW Nat) (left : Lit → Bool) (ss : List AddrK) : Prop := (ss.map (·.1)).Nodup ∧ ∀ p, okA p → (p ∈ ss.map (·.1) ↔ has D0 (keyA p) = true ∧ left (keyA p) = false)

theorem CollA.start (D0 : DataW Nat) : CollA D0 (has D0) [] := ⟨List.nodup_nil, fun p _ => by cases has D0 (keyA p) <;> simp⟩

theorem same_keyA {p q : Ltr} (hp : okA p) (hq : okA q) : (keyA p).sameKey (keyA q) = decide (p = q) := by
  by_cases e : p = q
  · subst e
    simp [keyA, Lit.sameKey]
  · have hne : keyA p ≠ keyA q := fun h => e (keyA_inj hp hq h)
    have : (keyA p).sameKey (keyA q) = false := by
      unfold keyA at hne ⊢
      simp only [Lit.sameKey]
      simpa using hne
    rw [this]
    simp [e]

theorem CollA.step {D0 : DataW Nat} {left : Lit → Bool} {ss : List AddrK} (h : CollA D0 left ss) {x : AddrK} {y : DataW Nat} (hlk : left (keyA x.1) = true) (hat : ∀ zd, D0.atKey (keyA x.1) zd = y) : CollA D0 (fun z => left z && !z.sameKey (keyA x.1)) (ss ++ [x]) := by
  have hhas : has D0 (keyA x.1) = true := has_true_of_atKey hat
  have hnew : x.1 ∉ ss.map (·.1) := fun hx => by
    have := ((h.2 x.1 x.2).1 hx).2
    rw [hlk] at this
    cases this
  refine ⟨?_, fun p hp => ?_⟩
  · rw [List.map_append]
    exact List.nodup_append.2 ⟨h.1, by simp, fun a ha b hb => by simp at hb; subst hb; exact fun e => hnew (e ▸ ha)⟩
  · rw [List.map_append, List.mem_append, h.2 p hp]
    show _ ↔ _ ∧ (left (keyA p) && !(keyA p).sameKey (keyA x.1)) = false
    rw [same_keyA hp x.2]
    by_cases e : p = x.1
    · subst e
      simp [hhas]
    · simp [e]

theorem lits9_inv (n : Nat) (cs : List Value) (ls : List Lit) (hl : Tryz.prog.keyLits (n + 1) 9 cs = some ls) : ∃ s : ByteArray, cs = [.string s] ∧ s.size ≤ maxLen ∧ ls = [.string s.data.toList] := by
  unfold Program.keyLits at hl
  simp only [Tryz.underlying9] at hl
  split at hl <;> simp_all

set_option maxRecDepth 20000 in
theorem keyA_inv {key : Value} {kl : Lit} (h : keyOf Tryz.prog 56 key = some kl) : ∃ p : AddrK, key = addrV p.1 ∧ kl = keyA p.1 := by
  unfold keyOf at h
  simp only [Tryz.underlying56, keyType56, Bool.true_and, size309] at h
  split at h
  · rename_i hf
    obtain ⟨ls, hl, rfl⟩ := Option.map_eq_some_iff.1 h
    clear h
    unfold Program.keyLits at hl
    simp only [Tryz.underlying56, cells56] at hl
    cases key with
    | agg cs =>
      have hcs : (Value.agg cs).cells.toList = cs.toList := rfl
      rw [hcs] at hl
      split at hl
      · rename_i hc
        obtain ⟨lls, hl2, rfl⟩ := Option.map_eq_some_iff.1 hl
        obtain ⟨cl⟩ := cs
        match cl, hc with
        | [u, v], _ =>
          simp [List.mapM_cons, cells9] at hl2
          obtain ⟨a, ha, h3⟩ := Option.bind_eq_some_iff.1 hl2
          obtain ⟨b, hb, h4⟩ := Option.bind_eq_some_iff.1 h3
          obtain ⟨c, hc1, hc2⟩ := Option.bind_eq_some_iff.1 hb
          obtain ⟨s, e1, l1, rfl⟩ := lits9_inv 308 _ _ ha
          obtain ⟨s', e1', l1', rfl⟩ := lits9_inv 308 _ _ hc1
          simp at e1 e1' hc2 h4
          subst e1 e1' hc2 h4
          exact ⟨⟨(s.data.toList, s'.data.toList), l1, l1'⟩, rfl, rfl⟩
      · cases hl
    | _ =>
      exfalso
      unfold Value.formed at hf
      simp [Tryz.underlying56] at hf
  · cases h

end Go.Proofs.YtegbkpjcjlihmabGreatDoor
