/-
  Names on the disk: a map from texts to files, as a function; what is done to it; its keys, sorted.
-/
import Derived.Test.YtegbkpjcjlihmaaProg
import Derived.Test.YtegbkpjcjlihmaaFrame
import Derived.Maps.OwnSet
import Derived.Sort.KeysCollected
namespace Go.Proofs.Ytegbkpjcjlihmaa
open Go.RowKit Go.Maps Go.ChangeMaps Go.WideMaps

abbrev Text := List UInt8
/-- names, each with its file's block -/
abbrev Names := Text → Option Nat

def ptr (x : Nat) : Value := .pointer (some ⟨x, 0, none⟩)

/-- how a file's pointer reads -/
def fileR : Value → Option (DataW Nat × List MemPlace)
  | .pointer none => some (.nil, [])
  | .pointer (some ⟨x, 0, none⟩) => some (.held x, [])
  | _ => none

theorem fileR_mk (x : Nat) : fileR (ptr x) = some (.held x, []) := rfl

theorem fileR_inv {v : Value} {x : Nat} {ps : List MemPlace} (h : fileR v = some (.held x, ps)) : v = ptr x := by
  unfold fileR at h
  split at h
  · simp at h
  · simp at h
    rw [h.1]; rfl
  · cases h

theorem fileR_nil {v : Value} {ps : List MemPlace} (h : fileR v = some (.nil, ps)) : v = .pointer none := by
  unfold fileR at h
  split at h
  · rfl
  · simp at h
  · cases h

theorem law9 : Keyed Try.prog 9 := string_keyed Try.underlying9
theorem zero48 (w : World) : (zeroValue 98).run Try.prog w = .ok (.pointer none) w := by kernel_rfl

/-- block m is a map of at most n entries that gives M -/
def MapAt (w : World) (m n : Nat) (M : Names) : Prop :=
  ∃ D : DataW Nat, w.ownsMap Try.prog 9 fileR m n D ∧ ∀ s, has D (.string s) = (M s).isSome ∧ ∀ x, M s = some x → D.atKey (.string s) .nil = .held x

theorem MapAt.lt {w : World} {m n : Nat} {M : Names} (h : MapAt w m n M) : m < w.heap.size := let ⟨_, h, _⟩ := h; h.lt
theorem MapAt.mono {w : World} {m n n' : Nat} {M : Names} (h : MapAt w m n M) (hn : n ≤ n') : MapAt w m n' M := let ⟨D, h, k⟩ := h; ⟨D, h.mono hn, k⟩

theorem MapAt.obj {w : World} {m n : Nat} {M : Names} (h : MapAt w m n M) : ∃ es c, w.heap[m]? = some (.map es c) := by
  obtain ⟨D, ⟨es, c, hb, _⟩, _⟩ := h
  exact ⟨es, c, hb⟩

theorem MapAt.of_heap {w w' : World} {m n : Nat} {M : Names} (h : MapAt w m n M) (e : w'.heap[m]? = w.heap[m]?) : MapAt w' m n M := by
  obtain ⟨D, ⟨es, c, hb, r⟩, k⟩ := h
  exact ⟨D, ⟨es, c, e.trans hb, r⟩, k⟩

theorem Keeps.mapAt {S : Nat → Prop} {w w' : World} (h : Keeps S w w') {m n : Nat} {M : Names} (hm : MapAt w m n M) (hn : ¬ S m) : MapAt w' m n M :=
  hm.of_heap (h.block m hm.lt hn)

theorem mapAt_made (w : World) (n : Nat) : MapAt (w.alloc (.map #[] 0)) w.heap.size n (fun _ => none) :=
  ⟨_, (World.ownsMap_made w _ _ _).mono (Nat.zero_le _), fun _ => ⟨rfl, fun _ h => by cases h⟩⟩

/-- 'v, ok := m[k]' -/
theorem MapAt.look {w : World} {m n : Nat} {M : Names} (h : MapAt w m n M) (s : ByteArray) (hs : s.size ≤ maxLen) (W : World) (hW : W.heap[m]? = w.heap[m]?) :
    (M s.data.toList = none → (Instr.lookup 77 (.map (some m)) (.string s) true).run Try.prog W = .ok (.tuple #[.pointer none, .bool false]) W) ∧
    (∀ x, M s.data.toList = some x → (Instr.lookup 77 (.map (some m)) (.string s) true).run Try.prog W = .ok (.tuple #[ptr x, .bool true]) W) := by
  obtain ⟨D, ho, hk⟩ := h.of_heap hW
  obtain ⟨v, ps, hr, hv⟩ := ho.look_ok (t := 77) (e := 98) law9 Try.underlying77 (zero48 W) (zd := .nil) (zp := []) rfl (key := .string s) (kl := .string s.data.toList) (keyOf_string_mk Try.underlying9 hs)
  obtain ⟨h1, h2⟩ := hk s.data.toList
  constructor
  · intro hn
    rw [hn] at h1
    rw [hr, h1]
    rw [atKey_of_not_has h1] at hv
    rw [fileR_nil hv]
    rfl
  · intro x hx
    rw [hx] at h1
    rw [hr, h1]
    rw [h2 x hx] at hv
    rw [fileR_inv hv]
    rfl

/-- 'm[k]' -/
theorem MapAt.get {w : World} {m n : Nat} {M : Names} (h : MapAt w m n M) (s : ByteArray) (hs : s.size ≤ maxLen) (W : World) (hW : W.heap[m]? = w.heap[m]?) (x : Nat) (hx : M s.data.toList = some x) :
    (Instr.lookup 77 (.map (some m)) (.string s) false).run Try.prog W = .ok (ptr x) W := by
  obtain ⟨D, ho, hk⟩ := h.of_heap hW
  obtain ⟨v, ps, hr, hv⟩ := ho.lookup (t := 77) (e := 98) law9 Try.underlying77 (zero48 W) (zd := .nil) (zp := []) rfl (key := .string s) (kl := .string s.data.toList) (keyOf_string_mk Try.underlying9 hs)
  rw [(hk s.data.toList).2 x hx] at hv
  rw [hr, fileR_inv hv]

def putN (M : Names) (s : Text) (x : Nat) : Names := fun t => if t = s then some x else M t
def delN (M : Names) (s : Text) : Names := fun t => if t = s then none else M t

theorem turned_keeps {w w' : World} {m : Nat} (h : w.mapTurned w' m) : Keeps (fun k => k = m) w w' := by
  have hg := h.grown
  exact ⟨hg.os, hg.tape, hg.output, hg.size, fun k hk hn => hg.block k hk (fun e => hn (Option.some.inj e))⟩

theorem turned_size {w w' : World} {m : Nat} (h : w.mapTurned w' m) : w'.heap.size = w.heap.size := by
  obtain ⟨_, _, _, _, _, rfl⟩ := h
  simp [setBlock]

/-- 'm[k] = v' -/
theorem MapAt.put {w : World} {m n : Nat} {M : Names} (h : MapAt w m n M) (hn : n < maxLen) (s : ByteArray) (hs : s.size ≤ maxLen) (x : Nat) :
    ∃ w', (Instr.mapUpdate 77 (.map (some m)) (.string s) (ptr x)).run Try.prog w = .ok () w' ∧ MapAt w' m (n + 1) (putN M s.data.toList x) ∧ Keeps (fun k => k = m) w w' ∧ w'.heap.size = w.heap.size := by
  obtain ⟨D, ho, hk⟩ := h
  obtain ⟨w', hr, ho', ht⟩ := ho.store (t := 77) (e := 98) law9 Try.underlying77 hn (key := .string s) (val := ptr x) (kl := .string s.data.toList) (keyOf_string_mk Try.underlying9 hs) (fileR_mk x)
  refine ⟨w', hr, ⟨_, ho', fun t => ?_⟩, turned_keeps ht, turned_size ht⟩
  unfold putN
  by_cases ht : t = s.data.toList
  · subst ht
    rw [if_pos rfl, has_put_same ho.isMap (k := .string s.data.toList) trivial]
    exact ⟨rfl, fun y hy => by rw [atKey_put_same ho.isMap (k := .string s.data.toList) trivial]; exact congrArg _ (Option.some.inj hy)⟩
  · rw [if_neg ht, has_put_other (by simpa using ht), atKey_put_other (by simpa using ht)]
    exact hk t

/-- 'delete(m, k)' -/
theorem MapAt.del {w : World} {m n : Nat} {M : Names} (h : MapAt w m n M) (s : ByteArray) (hs : s.size ≤ maxLen) (ty : TypeId) :
    ∃ w', (Builtin.delete_ #[77, 9] ty #[.map (some m), .string s]).run Try.prog w = .ok (.tuple #[]) w' ∧ MapAt w' m n (delN M s.data.toList) ∧ Keeps (fun k => k = m) w w' ∧ w'.heap.size = w.heap.size := by
  obtain ⟨D, ho, hk⟩ := h
  obtain ⟨w', hr, ho', ht⟩ := ho.drop (t := 77) (e := 98) law9 Try.underlying77 (key := .string s) (kl := .string s.data.toList) (keyOf_string_mk Try.underlying9 hs) ty
  refine ⟨w', hr, ⟨_, ho', fun t => ?_⟩, turned_keeps ht, turned_size ht⟩
  unfold delN
  by_cases ht : t = s.data.toList
  · subst ht
    rw [if_pos rfl, has_del_same]
    exact ⟨rfl, fun y hy => by cases hy⟩
  · rw [if_neg ht, has_del_other (by simpa using ht), atKey_del_other (by simpa using ht)]
    exact hk t

/-- ks: the names, sorted -/
def Sorted (M : Names) (ks : List Text) : Prop := ∃ ss : List Text, ks = ss.mergeSort leB ∧ ss.Nodup ∧ ∀ s, s ∈ ss ↔ (M s).isSome = true

theorem Sorted.mem {M : Names} {ks : List Text} (h : Sorted M ks) (s : Text) : s ∈ ks ↔ (M s).isSome = true := by
  obtain ⟨ss, rfl, _, hm⟩ := h
  rw [List.mem_mergeSort]; exact hm s

theorem Sorted.nodup {M : Names} {ks : List Text} (h : Sorted M ks) : ks.Nodup := by
  obtain ⟨ss, rfl, hn, _⟩ := h
  exact (List.mergeSort_perm ss leB).nodup_iff.2 hn

theorem Sorted.unique {M : Names} {ks ks' : List Text} (h : Sorted M ks) (h' : Sorted M ks') : ks = ks' := by
  obtain ⟨ss, rfl, hn, hm⟩ := h
  obtain ⟨ss', rfl, hn', hm'⟩ := h'
  exact mergeSort_of_perm ((List.perm_ext_iff_of_nodup hn hn').2 fun s => by rw [hm, hm'])

theorem MapAt.sorted {w : World} {m n : Nat} {D : DataW Nat} {M : Names} (ho : w.ownsMap Try.prog 9 fileR m n D) (hk : ∀ s, has D (.string s) = (M s).isSome) {ss : List Text} (hp : ss.Perm (strKeys D)) :
    Sorted M (ss.mergeSort leB) ∧ ss.length ≤ n ∧ ∀ s ∈ ss, s.length ≤ maxLen := by
  have hle := strKeys_le ho Try.underlying9
  have hsz := ho.size_le
  obtain ⟨es, hD, hpw⟩ := ho.tidy law9
  obtain ⟨es', hD', hko⟩ := ho.keysOf
  obtain rfl : es = es' := by rw [hD] at hD'; simpa using hD'
  have hstr : ∀ p ∈ es, ∃ x, p.1 = .string x := fun p hp => by obtain ⟨v, hv⟩ := hko p hp; obtain ⟨x, _, hx, _⟩ := Maps.keyOf_str Try.underlying9 hv; exact ⟨x, hx⟩
  have hnd : (strKeys D).Nodup := by
    rw [hD]
    show (es.map fun p => strOf p.1).Nodup
    refine List.pairwise_map.2 (hpw.imp_of_mem fun {p q} hp' hq' hne e => hne ?_)
    obtain ⟨a, ha⟩ := hstr p hp'
    obtain ⟨b, hb⟩ := hstr q hq'
    rw [ha, hb] at e ⊢
    exact congrArg _ e
  have hmem : ∀ x, x ∈ strKeys D ↔ has D (.string x) = true := by
    intro x
    rw [hD, has_eq, List.any_eq_true]
    show x ∈ (es.map fun p => strOf p.1) ↔ _
    rw [List.mem_map]
    constructor
    · rintro ⟨p, hp', rfl⟩
      obtain ⟨a, ha⟩ := hstr p hp'
      exact ⟨p, hp', by rw [ha]; simp [Lit.sameKey, strOf]⟩
    · rintro ⟨p, hp', hs⟩
      obtain ⟨a, ha⟩ := hstr p hp'
      rw [ha] at hs
      exact ⟨p, hp', by rw [ha]; simpa [Lit.sameKey, strOf] using hs⟩
  refine ⟨⟨ss, rfl, hp.nodup_iff.2 hnd, fun s => ?_⟩, ?_, fun s hs => hle s (hp.mem_iff.1 hs)⟩
  · rw [hp.mem_iff, hmem, hk]
  · rw [hp.length_eq]
    have : (strKeys D).length = Maps.size D := by rw [hD]; simp [strKeys, Maps.size]
    omega

end Go.Proofs.Ytegbkpjcjlihmaa
