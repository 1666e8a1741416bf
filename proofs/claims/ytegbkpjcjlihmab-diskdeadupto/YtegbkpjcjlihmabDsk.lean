/-
  The disk in memory: what it is, and how it stays what it is.
-/
import Derived.Test.YtegbkpjcjlihmabLib
import Derived.Test.YtegbkpjcjlihmabMp
namespace Go.Proofs.Ytegbkpjcjlihmab
open Go.RowKit Go.Maps

/-- a change of names: one made, one renamed, one taken away -/
def Chg : Type := (Text × Nat) ⊕ ((Text × Text × Nat) ⊕ Text)

abbrev Chg.create (s : Text) (x : Nat) : Chg := Sum.inl (s, x)
abbrev Chg.rename (a b : Text) (x : Nat) : Chg := Sum.inr (Sum.inl (a, b, x))
abbrev Chg.remove (s : Text) : Chg := Sum.inr (Sum.inr s)

def Chg.app : Chg → Names → Names
  | Sum.inl (s, x), M => putN M s x
  | Sum.inr (Sum.inl (a, b, x)), M => putN (delN M a) b x
  | Sum.inr (Sum.inr s), M => delN M s

def appAll (cs : List Chg) (M : Names) : Names := cs.foldl (fun M c => c.app M) M

/-- what a disk is -/
structure Dk where
  now : Names
  safe : Names
  chs : List Chg
  left : Option Nat
  files : List Nat
  cont : Nat → Text
  sure : Nat → Nat

/-- what kind of block it is -/
def tag (w : World) (k : Nat) : Option Nat :=
  match w.heap[k]? with
  | some (.cells _ T _) => some T
  | some (.map _ _) => some 1000000
  | _ => none

theorem ne_of_tag {w : World} {a b s t : Nat} (ha : tag w a = some s) (hb : tag w b = some t) (h : s ≠ t) : a ≠ b := by
  intro e
  subst e
  rw [ha] at hb
  exact h (Option.some.inj hb)

theorem tag_cells {w : World} {k : Nat} {cs : Array Value} {T : TypeId} {fr : Nat × Nat} (h : w.heap[k]? = some (.cells cs T fr)) : tag w k = some T := by simp [tag, h]
theorem MapAt.tag {w : World} {m n : Nat} {M : Names} (h : MapAt w m n M) : tag w m = some 1000000 := by
  obtain ⟨es, c, hb⟩ := h.obj
  simp [Ytegbkpjcjlihmab.tag, hb]
theorem Buf.tag {w : World} {v : Value} {l : List UInt8} (h : Buf w v l) {k : Nat} (hk : v.ownBlock = some k) : tag w k = some 5 := by
  obtain ⟨cur, fz, h⟩ := h.row hk
  exact tag_cells h
theorem owns_tag {w : World} {base : Nat} {e : TypeId} {size : Nat} {v : Value} {n : Nat} {xs : List Value} (h : w.ownsRow base e size v n xs) {k : Nat} (hk : v.ownBlock = some k) : tag w k = some e := by
  rcases h.2 with ⟨rfl, _⟩ | ⟨g, cap, cur, rfl, _, hg, _⟩
  · simp [Value.ownBlock] at hk
  · simp [Value.ownBlock] at hk
    subst hk
    exact tag_cells hg

/-- a variable that a kept function has caught: a text, a file -/
def TextVar (w : World) (A : Nat → Prop) (q : Nat) (s : Text) : Prop := A q ∧ ∃ b : ByteArray, w.heap[q]? = some (.cells #[.string b] 9 (0, 0)) ∧ b.data.toList = s ∧ b.size ≤ maxLen
def FileVar (w : World) (A : Nat → Prop) (p x : Nat) : Prop := A p ∧ w.heap[p]? = some (.cells #[ptr x] 48 (0, 0))

/-- a change that is kept -/
def ChgAt (w : World) (A : Nat → Prop) (v : Value) : Chg → Prop
  | Sum.inl (s, x) => ∃ p q, v = .func (.func 26) #[] #[ptr p, ptr q] ∧ FileVar w A p x ∧ TextVar w A q s
  | Sum.inr (Sum.inl (a, b, x)) => ∃ p q r, v = .func (.func 30) #[] #[ptr p, ptr q, ptr r] ∧ TextVar w A p a ∧ FileVar w A q x ∧ TextVar w A r b
  | Sum.inr (Sum.inr s) => ∃ q, v = .func (.func 31) #[] #[ptr q] ∧ TextVar w A q s

theorem TextVar.kept {S A A' : Nat → Prop} {w w' : World} {q : Nat} {s : Text} (h : TextVar w A q s) (k : Keeps S w w') (hn : ∀ i, A i → tag w i = some 9 → ¬ S i) (hA : ∀ i, A i → A' i) : TextVar w' A' q s := by
  obtain ⟨ha, b, hb, r⟩ := h
  exact ⟨hA q ha, b, k.heap hb (hn q ha (tag_cells hb)), r⟩

theorem FileVar.kept {S A A' : Nat → Prop} {w w' : World} {p x : Nat} (h : FileVar w A p x) (k : Keeps S w w') (hn : ∀ i, A i → tag w i = some 48 → ¬ S i) (hA : ∀ i, A i → A' i) : FileVar w' A' p x := by
  obtain ⟨ha, hb⟩ := h
  exact ⟨hA p ha, k.heap hb (hn p ha (tag_cells hb))⟩

theorem ChgAt.kept {S A A' : Nat → Prop} {w w' : World} {v : Value} {c : Chg} (h : ChgAt w A v c) (k : Keeps S w w') (h9 : ∀ i, A i → tag w i = some 9 → ¬ S i) (h48 : ∀ i, A i → tag w i = some 48 → ¬ S i) (hA : ∀ i, A i → A' i) : ChgAt w' A' v c := by
  rcases c with ⟨s, x⟩ | ⟨a, b, x⟩ | s
  · obtain ⟨p, q, e, h1, h2⟩ := h; exact ⟨p, q, e, h1.kept k h48 hA, h2.kept k h9 hA⟩
  · obtain ⟨p, q, r, e, h1, h2, h3⟩ := h; exact ⟨p, q, r, e, h1.kept k h9 hA, h2.kept k h48 hA, h3.kept k h9 hA⟩
  · obtain ⟨q, e, h1⟩ := h; exact ⟨q, e, h1.kept k h9 hA⟩

/-- a file in block x, its buffer v -/
def FileAt (w : World) (x : Nat) (v : Value) (c : Text) (n : Nat) : Prop :=
  (∃ p, (p = .pointer none ∨ p = self x) ∧ w.heap[x]? = some (.cells #[p, v, .int .i64 n] 56 (0, 0))) ∧ Buf w v c

theorem FileAt.tag {w : World} {x : Nat} {v : Value} {c : Text} {n : Nat} (h : FileAt w x v c n) : tag w x = some 56 := by
  obtain ⟨⟨p, _, h⟩, _⟩ := h
  exact tag_cells h

theorem Keeps.file {S : Nat → Prop} {w w' : World} (h : Keeps S w w') {x : Nat} {v : Value} {c : Text} {n : Nat} (hf : FileAt w x v c n) (hx : ¬ S x) (hn : ∀ k, v.ownBlock = some k → ¬ S k) : FileAt w' x v c n := by
  obtain ⟨⟨p, hp, hh⟩, hb⟩ := hf
  exact ⟨⟨p, hp, h.heap hh hx⟩, h.buf hb hn⟩

/-- the disk's own row -/
def headOf (mn ms : Nat) (cv : Value) (left : Option Nat) : Array Value := #[.map (some mn), .map (some ms), cv, .bool left.isSome, .int .i64 ((left.getD 0 : Nat) : Int)]

structure Inner (w : World) (A : Nat → Prop) (d n : Nat) (σ : Dk) (mn ms : Nat) (cv : Value) (vals : List Value) (bv : Nat → Value) : Prop where
  head : w.heap[d]? = some (.cells (headOf mn ms cv σ.left) 46 (0, 0))
  now : MapAt w mn n σ.now
  safe : MapAt w ms n σ.safe
  apart : mn ≠ ms
  row : w.ownsRow 0 67 1 cv vals.length vals
  len : vals.length = σ.chs.length
  chg : ∀ (i : Nat) v c, vals[i]? = some v → σ.chs[i]? = some c → ChgAt w A v c
  files : ∀ x ∈ σ.files, FileAt w x (bv x) (σ.cont x) (σ.sure x)
  bufs : ∀ x ∈ σ.files, ∀ y ∈ σ.files, ∀ k, (bv x).ownBlock = some k → (bv y).ownBlock = some k → x = y
  ownD : A d
  ownN : A mn
  ownS : A ms
  ownR : ∀ k, cv.ownBlock = some k → A k
  ownX : ∀ x ∈ σ.files, A x
  ownB : ∀ x ∈ σ.files, ∀ k, (bv x).ownBlock = some k → A k

def DiskAt (w : World) (A : Nat → Prop) (d n : Nat) (σ : Dk) : Prop := ∃ mn ms cv vals bv, Inner w A d n σ mn ms cv vals bv

/-- A and what is new -/
def ext (A : Nat → Prop) (w w' : World) : Nat → Prop := fun k => A k ∨ (w.heap.size ≤ k ∧ k < w'.heap.size)

theorem ext_of {A : Nat → Prop} {w w' : World} {k : Nat} (h : A k) : ext A w w' k := .inl h

section
variable {w : World} {A : Nat → Prop} {d n : Nat} {σ : Dk} {mn ms : Nat} {cv : Value} {vals : List Value} {bv : Nat → Value}

theorem Inner.tagD (h : Inner w A d n σ mn ms cv vals bv) : tag w d = some 46 := tag_cells h.head
theorem Inner.tagN (h : Inner w A d n σ mn ms cv vals bv) : tag w mn = some 1000000 := h.now.tag
theorem Inner.tagS (h : Inner w A d n σ mn ms cv vals bv) : tag w ms = some 1000000 := h.safe.tag
theorem Inner.tagR (h : Inner w A d n σ mn ms cv vals bv) {k : Nat} (hk : cv.ownBlock = some k) : tag w k = some 67 := owns_tag h.row hk
theorem Inner.tagX (h : Inner w A d n σ mn ms cv vals bv) {x : Nat} (hx : x ∈ σ.files) : tag w x = some 56 := (h.files x hx).tag
theorem Inner.tagB (h : Inner w A d n σ mn ms cv vals bv) {x : Nat} (hx : x ∈ σ.files) {k : Nat} (hk : (bv x).ownBlock = some k) : tag w k = some 5 := (h.files x hx).2.tag hk

/-- it stays, whatever else is written -/
theorem Inner.kept (h : Inner w A d n σ mn ms cv vals bv) {S A' : Nat → Prop} {w' : World} (k : Keeps S w w') (hS : ∀ i, A i → ¬ S i) (hA : ∀ i, A i → A' i) : Inner w' A' d n σ mn ms cv vals bv where
  head := k.heap h.head (hS _ h.ownD)
  now := k.mapAt h.now (hS _ h.ownN)
  safe := k.mapAt h.safe (hS _ h.ownS)
  apart := h.apart
  row := k.owns h.row (fun i hi => hS i (h.ownR i hi))
  len := h.len
  chg := fun i v c hv hc => (h.chg i v c hv hc).kept k (fun j hj _ => hS j hj) (fun j hj _ => hS j hj) hA
  files := fun x hx => k.file (h.files x hx) (hS x (h.ownX x hx)) (fun i hi => hS i (h.ownB x hx i hi))
  bufs := h.bufs
  ownD := hA _ h.ownD
  ownN := hA _ h.ownN
  ownS := hA _ h.ownS
  ownR := fun i hi => hA _ (h.ownR i hi)
  ownX := fun x hx => hA _ (h.ownX x hx)
  ownB := fun x hx i hi => hA _ (h.ownB x hx i hi)

theorem DiskAt.kept (h : DiskAt w A d n σ) {S A' : Nat → Prop} {w' : World} (k : Keeps S w w') (hS : ∀ i, A i → ¬ S i) (hA : ∀ i, A i → A' i) : DiskAt w' A' d n σ := by
  obtain ⟨mn, ms, cv, vals, bv, h⟩ := h
  exact ⟨mn, ms, cv, vals, bv, h.kept k hS hA⟩

theorem DiskAt.fresh (h : DiskAt w A d n σ) {w' : World} (k : Fresh w w') : DiskAt w' A d n σ := h.kept k (fun _ _ e => e) (fun _ h => h)

/-- the disk's own row is set; its list of changes may be other -/
theorem Inner.setHead (h : Inner w A d n σ mn ms cv vals bv) {A' : Nat → Prop} {w' : World} {left : Option Nat} {cv' : Value} {vals' : List Value} {chs : List Chg}
    (hh : w'.heap[d]? = some (.cells (headOf mn ms cv' left) 46 (0, 0))) (k : Keeps (fun i => i = d ∨ cv.ownBlock = some i) w w') (hA : ∀ i, A i → A' i)
    (row : w'.ownsRow 0 67 1 cv' vals'.length vals') (len : vals'.length = chs.length) (chg : ∀ (i : Nat) v c, vals'[i]? = some v → chs[i]? = some c → ChgAt w' A' v c)
    (ownR : ∀ k, cv'.ownBlock = some k → A' k) : Inner w' A' d n { σ with left := left, chs := chs } mn ms cv' vals' bv where
  head := hh
  now := k.mapAt h.now (fun e => e.elim (fun e => ne_of_tag h.tagN h.tagD (by decide) e) (fun e => ne_of_tag h.tagN (h.tagR e) (by decide) rfl))
  safe := k.mapAt h.safe (fun e => e.elim (fun e => ne_of_tag h.tagS h.tagD (by decide) e) (fun e => ne_of_tag h.tagS (h.tagR e) (by decide) rfl))
  apart := h.apart
  row := row
  len := len
  chg := chg
  files := fun x hx => k.file (h.files x hx) (fun e => e.elim (fun e => ne_of_tag (h.tagX hx) h.tagD (by decide) e) (fun e => ne_of_tag (h.tagX hx) (h.tagR e) (by decide) rfl))
    (fun i hi e => e.elim (fun e => ne_of_tag (h.tagB hx hi) h.tagD (by decide) e) (fun e => ne_of_tag (h.tagB hx hi) (h.tagR e) (by decide) rfl))
  bufs := h.bufs
  ownD := hA _ h.ownD
  ownN := hA _ h.ownN
  ownS := hA _ h.ownS
  ownR := ownR
  ownX := fun x hx => hA _ (h.ownX x hx)
  ownB := fun x hx i hi => hA _ (h.ownB x hx i hi)

/-- .. its number alone -/
theorem Inner.setLeft (h : Inner w A d n σ mn ms cv vals bv) {w' : World} {left : Option Nat}
    (hh : w'.heap[d]? = some (.cells (headOf mn ms cv left) 46 (0, 0))) (k : Keeps (fun i => i = d) w w') : Inner w' A d n { σ with left := left } mn ms cv vals bv :=
  h.setHead (chs := σ.chs) hh (k.mono (fun _ _ e => .inl e)) (fun _ h => h)
    (k.owns h.row (fun i hi e => ne_of_tag (h.tagR hi) h.tagD (by decide) e)) h.len
    (fun i v c hv hc => (h.chg i v c hv hc).kept k (fun j _ ht e => ne_of_tag ht h.tagD (by decide) e) (fun j _ ht e => ne_of_tag ht h.tagD (by decide) e) (fun _ h => h)) h.ownR

/-- names as they are, set -/
theorem Inner.setNow (h : Inner w A d n σ mn ms cv vals bv) {w' : World} {M : Names} (hm : MapAt w' mn n M) (k : Keeps (fun i => i = mn) w w') : Inner w' A d n { σ with now := M } mn ms cv vals bv where
  head := k.heap h.head (fun e => ne_of_tag h.tagD h.tagN (by decide) e)
  now := hm
  safe := k.mapAt h.safe (fun e => h.apart e.symm)
  apart := h.apart
  row := k.owns h.row (fun i hi e => ne_of_tag (h.tagR hi) h.tagN (by decide) e)
  len := h.len
  chg := fun i v c hv hc => (h.chg i v c hv hc).kept k (fun j _ ht e => ne_of_tag ht h.tagN (by decide) e) (fun j _ ht e => ne_of_tag ht h.tagN (by decide) e) (fun _ h => h)
  files := fun x hx => k.file (h.files x hx) (fun e => ne_of_tag (h.tagX hx) h.tagN (by decide) e) (fun i hi e => ne_of_tag (h.tagB hx hi) h.tagN (by decide) e)
  bufs := h.bufs
  ownD := h.ownD
  ownN := h.ownN
  ownS := h.ownS
  ownR := h.ownR
  ownX := h.ownX
  ownB := h.ownB

/-- safe names, set -/
theorem Inner.setSafe (h : Inner w A d n σ mn ms cv vals bv) {w' : World} {M : Names} (hm : MapAt w' ms n M) (k : Keeps (fun i => i = ms) w w') : Inner w' A d n { σ with safe := M } mn ms cv vals bv where
  head := k.heap h.head (fun e => ne_of_tag h.tagD h.tagS (by decide) e)
  now := k.mapAt h.now (fun e => h.apart e)
  safe := hm
  apart := h.apart
  row := k.owns h.row (fun i hi e => ne_of_tag (h.tagR hi) h.tagS (by decide) e)
  len := h.len
  chg := fun i v c hv hc => (h.chg i v c hv hc).kept k (fun j _ ht e => ne_of_tag ht h.tagS (by decide) e) (fun j _ ht e => ne_of_tag ht h.tagS (by decide) e) (fun _ h => h)
  files := fun x hx => k.file (h.files x hx) (fun e => ne_of_tag (h.tagX hx) h.tagS (by decide) e) (fun i hi e => ne_of_tag (h.tagB hx hi) h.tagS (by decide) e)
  bufs := h.bufs
  ownD := h.ownD
  ownN := h.ownN
  ownS := h.ownS
  ownR := h.ownR
  ownX := h.ownX
  ownB := h.ownB

def upd {α : Type} (f : Nat → α) (x : Nat) (v : α) : Nat → α := fun y => if y = x then v else f y
theorem upd_same {α : Type} (f : Nat → α) (x : Nat) (v : α) : upd f x v x = v := if_pos rfl
theorem upd_other {α : Type} (f : Nat → α) {x y : Nat} (v : α) (h : y ≠ x) : upd f x v y = f y := if_neg h

/-- a file, written -/
theorem Inner.setFile (h : Inner w A d n σ mn ms cv vals bv) {w' : World} {x : Nat} (hx : x ∈ σ.files) {v' : Value} {c : Text} {m : Nat} (hf : FileAt w' x v' c m) (hlt : ∀ k, v'.ownBlock = some k → (bv x).ownBlock = some k ∨ (w.heap.size ≤ k ∧ k < w'.heap.size))
    (k : Keeps (fun i => i = x ∨ (bv x).ownBlock = some i) w w') : Inner w' (ext A w w') d n { σ with cont := upd σ.cont x c, sure := upd σ.sure x m } mn ms cv vals (upd bv x v') := by
  have hsz : ∀ y ∈ σ.files, ∀ j, (bv y).ownBlock = some j → j < w.heap.size := fun y hy j hj => by
    obtain ⟨cur, fz, hg⟩ := (h.files y hy).2.row hj
    exact heap_lt hg
  have dis : ∀ i t, tag w i = some t → t ≠ 56 → t ≠ 5 → ¬ (i = x ∨ (bv x).ownBlock = some i) := fun i t ht h1 h2 e =>
    e.elim (fun e => ne_of_tag ht (h.tagX hx) h1 e) (fun e => ne_of_tag ht (h.tagB hx e) h2 rfl)
  refine ⟨k.heap h.head (dis _ _ h.tagD (by decide) (by decide)), k.mapAt h.now (dis _ _ h.tagN (by decide) (by decide)), k.mapAt h.safe (dis _ _ h.tagS (by decide) (by decide)), h.apart,
    k.owns h.row (fun i hi => dis _ _ (h.tagR hi) (by decide) (by decide)), h.len, fun i v c hv hc => (h.chg i v c hv hc).kept k (fun j _ ht => dis _ _ ht (by decide) (by decide)) (fun j _ ht => dis _ _ ht (by decide) (by decide)) (fun _ h => .inl h),
    ?_, ?_, .inl h.ownD, .inl h.ownN, .inl h.ownS, fun i hi => .inl (h.ownR i hi), fun y hy => .inl (h.ownX y hy), ?_⟩
  · intro y hy
    by_cases e : y = x
    · subst e
      simp only [upd_same]
      exact hf
    · simp only [upd_other _ _ e]
      exact k.file (h.files y hy) (fun e1 => e1.elim e (fun e1 => ne_of_tag (h.tagX hy) (h.tagB hx e1) (by decide) rfl))
        (fun i hi e1 => e1.elim (fun e1 => ne_of_tag (h.tagB hy hi) (h.tagX hx) (by decide) e1) (fun e1 => e (h.bufs y hy x hx i hi e1)))
  · intro y hy z hz j hj hj'
    by_cases e : y = x
    · by_cases e' : z = x
      · rw [e, e']
      · subst e
        rw [upd_same] at hj
        rw [upd_other _ _ e'] at hj'
        rcases hlt j hj with h1 | ⟨h1, _⟩
        · exact h.bufs y hx z hz j h1 hj'
        · have := hsz z hz j hj'
          omega
    · by_cases e' : z = x
      · subst e'
        rw [upd_same] at hj'
        rw [upd_other _ _ e] at hj
        rcases hlt j hj' with h1 | ⟨h1, _⟩
        · exact h.bufs y hy z hx j hj h1
        · have := hsz y hy j hj
          omega
      · rw [upd_other _ _ e] at hj
        rw [upd_other _ _ e'] at hj'
        exact h.bufs y hy z hz j hj hj'
  · intro y hy j hj
    by_cases e : y = x
    · subst e
      rw [upd_same] at hj
      rcases hlt j hj with h1 | h1
      · exact .inl (h.ownB y hx j h1)
      · exact .inr h1
    · rw [upd_other _ _ e] at hj
      exact .inl (h.ownB y hy j hj)

/-- a file more -/
theorem Inner.newFile (h : Inner w A d n σ mn ms cv vals bv) {x : Nat} (hx : tag w x = some 56) (hA : A x) (hf : FileAt w x (.slice none 0 0) [] 0) (hnew : x ∉ σ.files) :
    Inner w A d n { σ with files := x :: σ.files, cont := upd σ.cont x [], sure := upd σ.sure x 0 } mn ms cv vals (upd bv x (.slice none 0 0)) := by
  refine ⟨h.head, h.now, h.safe, h.apart, h.row, h.len, h.chg, ?_, ?_, h.ownD, h.ownN, h.ownS, h.ownR, ?_, ?_⟩
  · intro y hy
    by_cases e : y = x
    · subst e
      simp only [upd_same]
      exact hf
    · simp only [upd_other _ _ e]
      exact h.files y (List.mem_of_ne_of_mem e hy)
  · intro y hy z hz j hj hj'
    by_cases e : y = x
    · subst e
      rw [upd_same] at hj
      simp [Value.ownBlock] at hj
    · by_cases e' : z = x
      · subst e'
        rw [upd_same] at hj'
        simp [Value.ownBlock] at hj'
      · rw [upd_other _ _ e] at hj
        rw [upd_other _ _ e'] at hj'
        exact h.bufs y (List.mem_of_ne_of_mem e hy) z (List.mem_of_ne_of_mem e' hz) j hj hj'
  · intro y hy
    by_cases e : y = x
    · rw [e]; exact hA
    · exact h.ownX y (List.mem_of_ne_of_mem e hy)
  · intro y hy j hj
    by_cases e : y = x
    · subst e
      rw [upd_same] at hj
      simp [Value.ownBlock] at hj
    · rw [upd_other _ _ e] at hj
      exact h.ownB y (List.mem_of_ne_of_mem e hy) j hj

end
end Go.Proofs.Ytegbkpjcjlihmab
