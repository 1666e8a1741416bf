/-
  The law's own alive: a plain disk.
-/
import Derived.Test.YtegbkpjcjlihmabDod
namespace Go.Proofs.Ytegbkpjcjlihmab
open Go.RowKit Go.Maps

def ta : Text := [97]
def tb : Text := [98]

/-- the file x of the disk, and its names -/
structure Al (σ : Dk) (x : Nat) (c : Text) (n : Nat) (chs : List Chg) (safe now : Names) : Prop where
  left : σ.left = none
  now : σ.now = now
  safe : σ.safe = safe
  chs : σ.chs = chs
  cont : σ.cont x = c
  sure : σ.sure x = n
  file : x ∈ σ.files

theorem Al.alive {σ : Dk} {x : Nat} {c : Text} {n : Nat} {chs : List Chg} {safe now : Names} (h : Al σ x c n chs safe now) : σ.dead = false := by simp [Dk.dead, h.left]

theorem al_create {k : Int} {σ' : Dk} (h : Dk.empty.creates ta k σ') : ∃ x, Al σ' x [] 0 [.create ta x] (fun _ => none) (putN (fun _ => none) ta x) := by
  rcases h with ⟨h, _⟩ | ⟨_, h, _⟩ | ⟨_, _, x, _, _, rfl⟩
  · cases h
  · cases h
  · exact ⟨x, rfl, rfl, rfl, rfl, upd_same _ _ _, upd_same _ _ _, List.mem_cons_self⟩

theorem al_append {σ σ' : Dk} {x : Nat} {c t : Text} {n : Nat} {chs : List Chg} {safe now : Names} (h : Al σ x c n chs safe now) (hx : now ta = some x) {k : Int} (hs : σ.appends ta t k σ') : Al σ' x (c ++ t) n chs safe now := by
  rcases hs with ⟨hd, _⟩ | ⟨_, hd, _⟩ | ⟨_, y, hy, _, rfl⟩
  · rw [h.alive] at hd; cases hd
  · rw [h.now, hx] at hd; cases hd
  · rw [h.now, hx] at hy
    obtain rfl := Option.some.inj hy
    exact ⟨by simp [Dk.tick, Dk.wrote, h.left], h.now, h.safe, h.chs, by rw [← h.cont]; exact upd_same _ _ _, by rw [← h.sure]; exact upd_same _ _ _, h.file⟩

theorem al_sync {σ σ' : Dk} {x : Nat} {c : Text} {n : Nat} {chs : List Chg} {safe now : Names} (h : Al σ x c n chs safe now) (hx : now ta = some x) {k : Int} (hs : σ.syncs ta k σ') : Al σ' x c c.length chs safe now := by
  rcases hs with ⟨hd, _⟩ | ⟨_, hd, _⟩ | ⟨_, y, hy, _, rfl⟩
  · rw [h.alive] at hd; cases hd
  · rw [h.now, hx] at hd; cases hd
  · rw [h.now, hx] at hy
    obtain rfl := Option.some.inj hy
    exact ⟨by simp [Dk.tick, Dk.wrote, h.left], h.now, h.safe, h.chs, by rw [← h.cont]; exact upd_same _ _ _, by rw [← h.cont]; exact upd_same _ _ _, h.file⟩

theorem al_syncDir {σ σ' : Dk} {x : Nat} {c : Text} {n : Nat} {chs : List Chg} {safe now : Names} (h : Al σ x c n chs safe now) (hn : appAll chs safe = now) {k : Int} (hs : σ.syncsDir k σ') : Al σ' x c n [] now now := by
  rcases hs with ⟨hd, _⟩ | ⟨_, _, rfl⟩
  · rw [h.alive] at hd; cases hd
  · refine ⟨by simp [Dk.tick, Dk.settled, h.left], h.now, ?_, rfl, h.cont, h.sure, h.file⟩
    show appAll (σ.chs.take σ.chs.length) σ.safe = now
    rw [List.take_length, h.chs, h.safe, hn]

theorem al_create2 {σ σ' : Dk} {x : Nat} {c : Text} {n : Nat} {safe now : Names} (h : Al σ x c n [] safe now) (hx : now tb = none) {k : Int} (hs : σ.creates tb k σ') : ∃ y, Al σ' x c n [.create tb y] safe (putN now tb y) := by
  rcases hs with ⟨hd, _⟩ | ⟨_, hd, _⟩ | ⟨_, _, y, hy, _, rfl⟩
  · rw [h.alive] at hd; cases hd
  · rw [h.now, hx] at hd; cases hd
  · have hne : x ≠ y := fun e => hy (e ▸ h.file)
    refine ⟨y, by simp [Dk.tick, Dk.add, Dk.did, h.left], ?_, h.safe, ?_, ?_, ?_, List.mem_cons_of_mem _ h.file⟩
    · show putN σ.now tb y = _
      rw [h.now]
    · show σ.chs ++ [_] = _
      rw [h.chs]; rfl
    · rw [← h.cont]; exact upd_other _ _ hne
    · rw [← h.sure]; exact upd_other _ _ hne

theorem sorted_one {x : Nat} {ks : List Text} (h : Sorted (putN (fun _ => none) ta x) ks) : ks = [ta] := by
  have hm : ∀ s, s ∈ ks ↔ s = ta := fun s => by
    rw [h.mem]
    unfold putN
    split
    · simp_all
    · simp_all
  have hn := h.nodup
  match ks, hm, hn with
  | [], hm, _ => exact absurd ((hm ta).2 rfl) (by simp)
  | [a], hm, _ => rw [(hm a).1 (by simp)]
  | a :: b :: l, hm, hn =>
    have e1 := (hm a).1 (by simp)
    have e2 := (hm b).1 (by simp)
    rw [e1, e2] at hn
    simp at hn

theorem al_crash {σ : Dk} {x y : Nat} {c : Text} {n : Nat} {now : Names} (h : Al σ x c n [.create tb y] (putN (fun _ => none) ta x) now) {ks : List Text} (hk : Sorted (σ.settled 0).safe ks) : ks = [ta] ∧ Al (σ.crashed 0 ks []) x (c.take n) (c.take n).length [] (putN (fun _ => none) ta x) (putN (fun _ => none) ta x) := by
  have hs : (σ.settled 0).safe = putN (fun _ => none) ta x := by show appAll (σ.chs.take 0) σ.safe = _; rw [List.take_zero, h.safe]; rfl
  rw [hs] at hk
  obtain rfl := sorted_one hk
  refine ⟨rfl, ?_⟩
  have e1 : ({ σ.settled 0 with chs := [] } : Dk).cr [ta] [] 1 = ({ σ.settled 0 with chs := [] } : Dk).wrote x (survive c n 0) (survive c n 0).length := by
    have hb : (([ta] : List Text)[0]?).bind ({ σ.settled 0 with chs := [] } : Dk).safe = some x := by
      show (σ.settled 0).safe ta = some x
      rw [hs]; simp [putN]
    show Dk.cr _ _ _ (0 + 1) = _
    unfold Dk.cr
    rw [hb]
    show Dk.wrote _ x (survive (σ.cont x) (σ.sure x) (tailAt [] 0)) (survive (σ.cont x) (σ.sure x) (tailAt [] 0)).length = _
    rw [h.cont, h.sure]
    rfl
  have e2 : survive c n 0 = c.take n := by simp [survive]
  have e3 : σ.crashed 0 [ta] [] = { (({ σ.settled 0 with chs := [] } : Dk).wrote x (c.take n) (c.take n).length) with now := (σ.settled 0).safe, left := none, chs := [] } := by
    unfold Dk.crashed
    show ({ ({ σ.settled 0 with chs := [] } : Dk).cr [ta] [] 1 with now := (({ σ.settled 0 with chs := [] } : Dk).cr [ta] [] 1).safe, left := none, chs := [] } : Dk) = _
    rw [e1, e2]
    rfl
  rw [e3]
  exact ⟨rfl, hs, hs, rfl, upd_same _ _ _, upd_same _ _ _, h.file⟩

end Go.Proofs.Ytegbkpjcjlihmab
