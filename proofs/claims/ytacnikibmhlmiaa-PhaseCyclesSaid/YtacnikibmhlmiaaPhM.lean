/- Plain: phases, threads that live, are armed and have acknowledged; what each call makes of them. It speaks of no program. -/
import Derived.Test.YtacnikibmhlmiaaHeap
namespace Go.Proofs.Ytacnikibmhlmiaa
open Go Go.RowKit
set_option linter.unusedSimpArgs false
set_option linter.unusedVariables false

def setB (f : Nat → Bool) (t : Nat) (b : Bool) : Nat → Bool := fun i => if i = t then b else f i
theorem setB_self (f : Nat → Bool) (t : Nat) (b : Bool) : setB f t b t = b := if_pos rfl
theorem setB_ne (f : Nat → Bool) {t i : Nat} (b : Bool) (h : i ≠ t) : setB f t b i = f i := if_neg h
def noB : Nat → Bool := fun _ => false
structure Phs where
  now : Nat
  rounds : Nat
  l : Nat → Bool
  a : Nat → Bool
  k : Nat → Bool
namespace Phs
def init : Phs := ⟨0, 0, noB, noB, noB⟩
def asks (S : Phs) : Bool := decide (S.now = 1) || decide (S.now = 2)
def wants (S : Phs) (t : Nat) : Bool := S.asks && (S.l t && !S.k t)
def wantsAny (S : Phs) : Bool := S.wants 0 || S.wants 1 || S.wants 2 || S.wants 3
def enter (S : Phs) (n : Nat) : Phs := { S with now := n, k := noB }
def beginB (S : Phs) : Bool := decide (S.now = 0)
def begin_ (S : Phs) : Phs := if S.now = 0 then S.enter 1 else S
def ack (S : Phs) (t : Nat) : Phs := if S.wants t = true then { S with k := setB S.k t true, a := if S.now = 1 then setB S.a t true else S.a } else S
def late (S : Phs) : Bool := S.asks || decide (S.now = 3)
def join (S : Phs) (t : Nat) : Phs := if S.l t = true then S else { S with l := setB S.l t true, a := setB S.a t S.late, k := setB S.k t S.late }
def leave (S : Phs) (t : Nat) : Phs := { S with l := setB S.l t false, a := setB S.a t false, k := setB S.k t false }
def advB (S : Phs) : Bool := S.asks && !S.wantsAny
def adv (S : Phs) : Phs := if S.advB = true then { S.enter (S.now + 1) with rounds := S.rounds + 1 } else S
def markedB (S : Phs) : Bool := decide (S.now = 3)
def marked (S : Phs) : Phs := if S.now = 3 then { S.enter 4 with a := noB } else S
def sweptB (S : Phs) : Bool := decide (S.now = 4)
def swept (S : Phs) : Phs := if S.now = 4 then S.enter 0 else S
theorem asks_yes {S : Phs} (h : S.now = 1 ∨ S.now = 2) : S.asks = true := by unfold asks; rcases h with h | h <;> rw [h] <;> decide
theorem asks_no {S : Phs} (h1 : S.now ≠ 1) (h2 : S.now ≠ 2) : S.asks = false := by unfold asks; rw [decide_eq_false h1, decide_eq_false h2]; rfl
theorem asks_iff {S : Phs} : S.asks = true ↔ S.now = 1 ∨ S.now = 2 := by unfold asks; simp
theorem wants_no {S : Phs} {t : Nat} (h : S.asks = false) : S.wants t = false := by unfold wants; rw [h]; rfl
theorem wantsAny_iff {S : Phs} : S.wantsAny = true ↔ ∃ t, t < 4 ∧ S.wants t = true := by
  unfold wantsAny
  simp only [Bool.or_eq_true]
  constructor
  · rintro (((h | h) | h) | h)
    · exact ⟨0, by omega, h⟩
    · exact ⟨1, by omega, h⟩
    · exact ⟨2, by omega, h⟩
    · exact ⟨3, by omega, h⟩
  · rintro ⟨t, ht, h⟩
    obtain rfl | rfl | rfl | rfl : t = 0 ∨ t = 1 ∨ t = 2 ∨ t = 3 := by omega
    · exact .inl (.inl (.inl h))
    · exact .inl (.inl (.inr h))
    · exact .inl (.inr h)
    · exact .inr h
theorem wantsAny_no {S : Phs} : S.wantsAny = false ↔ ∀ t, t < 4 → S.wants t = false := by
  constructor
  · intro h t ht
    cases hw : S.wants t
    · rfl
    · rw [wantsAny_iff.2 ⟨t, ht, hw⟩] at h; cases h
  · intro h
    cases hw : S.wantsAny
    · rfl
    · obtain ⟨t, ht, h1⟩ := wantsAny_iff.1 hw
      rw [h t ht] at h1; cases h1
/-- What the first j threads have acknowledged is forgotten. -/
def cutK (S : Phs) (n j : Nat) : Phs := { S with now := n, k := fun i => if i < j then false else S.k i }
def cutA (S : Phs) (j : Nat) : Phs := { S with a := fun i => if i < j then false else S.a i }
end Phs
/-- Calls by their numbers: what each makes of it, and answers. -/
def Phs.doS (S : Phs) (kind t : Nat) : Phs :=
  if kind = 0 then S.begin_ else if kind = 1 then S.ack t else if kind = 2 then S.join t else if kind = 3 then S.leave t else if kind = 4 then S.adv else if kind = 5 then S.marked else S.swept
def Phs.doB (S : Phs) (kind t : Nat) : Bool :=
  if kind = 0 then S.beginB else if kind = 1 then S.wants t else if kind = 2 then false else if kind = 3 then false else if kind = 4 then S.advB else if kind = 5 then S.markedB else S.sweptB
end Go.Proofs.Ytacnikibmhlmiaa
