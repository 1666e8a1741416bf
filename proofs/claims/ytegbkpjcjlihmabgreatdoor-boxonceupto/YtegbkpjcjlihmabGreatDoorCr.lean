/-
  Crash.
-/
import Derived.Test.YtegbkpjcjlihmabGreatDoorFcr
namespace Go.Proofs.YtegbkpjcjlihmabGreatDoor
open Go.RowKit Go.Maps

/-- numbers that are handed in, outside A -/
def Ints (w : World) (A : Nat → Prop) (v : Value) (ts : List Int) : Prop :=
  ∃ ao cap, v = .slice ao ts.length cap ∧ cap ≤ 9223372036854775807 ∧ ts.length ≤ cap ∧
    (ts.length ≠ 0 → ∃ b off, ao = some ⟨b, off, none⟩ ∧ ¬ A b ∧ ∀ k t, ts[k]? = some t → w.cell? ⟨b, off + k, none⟩ = some (.int .i64 t))

theorem cell_lt {w : World} {b i : Nat} {u : Value} (h : w.cell? ⟨b, i, none⟩ = some u) : b < w.heap.size := by
  rcases Nat.lt_or_ge b w.heap.size with h' | h'
  · exact h'
  · simp [World.cell?, Array.getElem?_eq_none h'] at h

theorem Keeps.cell {S : Nat → Prop} {w w' : World} (h : Keeps S w w') {b i : Nat} {u : Value} (hc : w.cell? ⟨b, i, none⟩ = some u) (hn : ¬ S b) : w'.cell? ⟨b, i, none⟩ = some u := by
  have hb := h.block b (cell_lt hc) hn
  simpa [World.cell?, hb] using hc

def tailAt (ts : List Int) (i : Nat) : Int := ts.getD (i % ts.length) 0

/-- the first i files behind a crash -/
def Dk.cr (σ : Dk) (ks : List Text) (ts : List Int) : Nat → Dk
  | 0 => σ
  | i + 1 =>
    match (ks[i]?).bind σ.safe with
    | some x => (σ.cr ks ts i).wrote x (survive ((σ.cr ks ts i).cont x) ((σ.cr ks ts i).sure x) (tailAt ts i)) (survive ((σ.cr ks ts i).cont x) ((σ.cr ks ts i).sure x) (tailAt ts i)).length
    | none => σ.cr ks ts i

theorem cr_safe (σ : Dk) (ks : List Text) (ts : List Int) : ∀ i, (σ.cr ks ts i).safe = σ.safe ∧ (σ.cr ks ts i).files = σ.files ∧ (σ.cr ks ts i).chs = σ.chs ∧ (σ.cr ks ts i).now = σ.now ∧ (σ.cr ks ts i).left = σ.left
  | 0 => ⟨rfl, rfl, rfl, rfl, rfl⟩
  | i + 1 => by
    have ih := cr_safe σ ks ts i
    unfold Dk.cr
    split
    · exact ih
    · exact ih

/-- sizes that are in order -/
def Sizes (σ : Dk) (L : Nat) : Prop := ∀ x ∈ σ.files, σ.sure x ≤ (σ.cont x).length ∧ (σ.cont x).length ≤ L

theorem Sizes.wrote {σ : Dk} {L : Nat} (h : Sizes σ L) (x : Nat) {c : Text} {m : Nat} (hm : m ≤ c.length) (hc : c.length ≤ L) : Sizes (σ.wrote x c m) L := by
  intro y hy
  by_cases e : y = x
  · subst e
    simp only [Dk.wrote, upd_same]
    exact ⟨hm, hc⟩
  · simp only [Dk.wrote, upd_other _ _ e]
    exact h y hy

theorem Sizes.cr {σ : Dk} {L : Nat} (h : Sizes σ L) (hin : ∀ s x, σ.safe s = some x → x ∈ σ.files) (ks : List Text) (ts : List Int) : ∀ i, Sizes (σ.cr ks ts i) L
  | 0 => h
  | i + 1 => by
    have ih := Sizes.cr h hin ks ts i
    unfold Dk.cr
    split
    · rename_i x hx
      obtain ⟨s, _, hs⟩ := Option.bind_eq_some_iff.1 hx
      have hxf := hin s x hs
      have := ih x (by rw [(cr_safe σ ks ts i).2.1]; exact hxf)
      exact ih.wrote x (Nat.le_refl _) (Nat.le_trans (survive_len _ _ _) this.2)
    · exact ih

section
variable {w : World} {A : Nat → Prop} {d : Nat} {σ : Dk} {mn ms : Nat} {cv : Value} {vals : List Value} {bv : Nat → Value} {K : List Text}

/-- the disk is set as a whole -/
theorem Inner.crashed (h : Inner w A d K.length σ mn ms cv vals bv) {w1 w2 : World} {m : Nat} (k1 : Fresh w w1) (hm : MapAt w1 m K.length σ.safe) (hmw : w.heap.size ≤ m)
    (hh : w2.heap[d]? = some (.cells (headOf m ms (.slice none 0 0) none) 96 (0, 0))) (k2 : Keeps (fun i => i = d) w1 w2) :
    Inner w2 (ext A w w2) d K.length { σ with now := σ.safe, left := none, chs := [] } m ms (.slice none 0 0) [] bv := by
  have h1 := h.kept (A' := A) k1 (fun _ _ e => e) (fun _ h => h)
  have hd : d ≠ m := by have := heap_lt h.head; omega
  have hs : ms ≠ m := by have := h.safe.lt; omega
  exact {
    head := hh
    now := k2.mapAt hm (fun e => hd e.symm)
    safe := k2.mapAt h1.safe (fun e => ne_of_tag h1.tagS h1.tagD (by decide) e)
    apart := fun e => hs e.symm
    row := World.ownsRow_nil _ _ _ _
    len := rfl
    chg := fun i v c hv => by simp at hv
    files := fun x hx => k2.file (h1.files x hx) (fun e => ne_of_tag (h1.tagX hx) h1.tagD (by decide) e) (fun i hi e => ne_of_tag (h1.tagB hx hi) h1.tagD (by decide) e)
    bufs := h.bufs
    ownD := .inl h.ownD
    ownN := .inr ⟨hmw, Nat.lt_of_lt_of_le hm.lt k2.size⟩
    ownS := .inl h.ownS
    ownR := fun k hk => by simp [Value.ownBlock] at hk
    ownX := fun x hx => .inl (h.ownX x hx)
    ownB := fun x hx i hi => .inl (h.ownB x hx i hi) }

end
end Go.Proofs.YtegbkpjcjlihmabGreatDoor
