/- Sets beside each other, at this seat's numbers (for the layers above bits: no Count, no Reset). -/
import Derived.RangeFuncFrom
import Derived.Test.YtoemfehlnnbjdaaDoorSetH
import Derived.Test.YtoemfehlnnbjdaaDoorMarks
namespace Go.Proofs.YtoemfehlnnbjdaaDoor
open Go.RowKit Go.MuLone Go.RwLone

theorem put_at (b : Nat) (lo : Option Nat) (n : Nat) (S S' : Nat → Bool) (r : Bool) (i : Nat) (w : World) (hi : i < n) (hA : SetAt w b lo n S) (hr : r = !S i) (hS : S' = fun j => S j || decide (j = i)) :
    Calls Tryd.prog 44 #[.pointer (some ⟨b, 0, none⟩), .int .i64 i] w (TurnPost b lo n r S' w) := by
  subst hr hS; exact put_yes b lo n S i w hi hA
theorem has_at (b : Nat) (lo : Option Nat) (n : Nat) (S : Nat → Bool) (r : Bool) (i : Nat) (w : World) (hi : i < n) (hA : SetAt w b lo n S) (hr : r = S i) :
    Calls Tryd.prog 53 #[.pointer (some ⟨b, 0, none⟩), .int .i64 i] w (TurnPost b lo n r S w) := by
  subst hr; exact has_yes b lo n S i w hi hA
theorem drop_at (b : Nat) (lo : Option Nat) (n : Nat) (S S' : Nat → Bool) (r : Bool) (i : Nat) (w : World) (hi : i < n) (hA : SetAt w b lo n S) (hr : r = S i) (hS : S' = fun j => S j && !decide (j = i)) :
    Calls Tryd.prog 52 #[.pointer (some ⟨b, 0, none⟩), .int .i64 i] w (TurnPost b lo n r S' w) := by
  subst hr hS; exact drop_yes b lo n S i w hi hA
/-- A set that lies from block B on. -/
def OwnSet (B b : Nat) (lo : Option Nat) : Prop := B ≤ b ∧ ∀ l, lo = some l → B ≤ l
/-- Two sets that share no block. -/
def Sep (b : Nat) (lo : Option Nat) (b2 : Nat) (lo2 : Option Nat) : Prop := b ≠ b2 ∧ (∀ l, lo = some l → l ≠ b2) ∧ (∀ l, lo2 = some l → l ≠ b) ∧ ∀ l, lo = some l → lo2 ≠ some l

theorem SetAt.lt {w : World} {b : Nat} {lo : Option Nat} {n : Nat} {S : Nat → Bool} (h : SetAt w b lo n S) : b < w.heap.size ∧ ∀ l, lo = some l → l < w.heap.size := by
  obtain ⟨_, _, h⟩ := h
  cases lo with
  | none => exact ⟨h.1.lt, fun l e => by cases e⟩
  | some l => exact ⟨h.1.lt, fun l' e => by cases e; exact h.2.2.choose_spec.1.lt⟩

/-- What a call on a set with a given answer has left, seen from a base B below which nothing may turn. -/
theorem TurnPost.open {b : Nat} {lo : Option Nat} {n : Nat} {r : Bool} {S' : Nat → Bool} {w : World} {e : Ending} {w' : World} (h : TurnPost b lo n r S' w e w') {B : Nat} (ho : OwnSet B b lo) (hB : B ≤ w.heap.size) :
    ∃ lo', e = .returned (.bool r) ∧ SetAt w' b lo' n S' ∧ OwnSet B b lo' ∧ Below B w w' ∧
      ∀ b2 lo2 n2 S2, SetAt w b2 lo2 n2 S2 → Sep b lo b2 lo2 → SetAt w' b2 lo2 n2 S2 ∧ Sep b lo' b2 lo2 := by
  obtain ⟨lo', he, hA, hlo, hT⟩ := h
  refine ⟨lo', he, hA, ⟨ho.1, fun l hl => ?_⟩, hT.below B hB (fun k hk hm => ?_), fun b2 lo2 n2 S2 h2 hs => ⟨?_, ?_⟩⟩
  · rcases hlo with e | ⟨_, l', e, hle⟩
    · exact ho.2 l (by rw [← e]; exact hl)
    · rw [e] at hl; cases hl; omega
  · rcases hm with e | e
    · have := ho.1; omega
    · have := ho.2 k e; omega
  · refine h2.turn hT (fun hm => ?_) (fun l hl hm => ?_)
    · rcases hm with e | e
      · exact hs.1 e.symm
      · exact hs.2.1 _ e rfl
    · rcases hm with e | e
      · exact hs.2.2.1 l hl e
      · exact hs.2.2.2 l e hl
  · rcases hlo with e | ⟨e0, l', e, hle⟩
    · rw [e]; exact hs
    · have hlt := h2.lt
      refine ⟨hs.1, fun l hl => ?_, hs.2.2.1, fun l hl hl2 => ?_⟩
      · rw [e] at hl; cases hl; omega
      · rw [e] at hl; cases hl; have := hlt.2 _ hl2; omega

theorem Sep.symm {b : Nat} {lo : Option Nat} {b2 : Nat} {lo2 : Option Nat} (h : Sep b lo b2 lo2) : Sep b2 lo2 b lo :=
  ⟨fun e => h.1 e.symm, h.2.2.1, h.2.1, fun l hl hl2 => h.2.2.2 l hl2 hl⟩

/-- A new set. -/
theorem new_at (n : Int) (hn : n ≤ 4096) (w : World) (m : Nat) (hm : m = n.toNat) :
    Calls Tryd.prog 38 #[.int .i64 n] w fun e w' => ∃ b, w.heap.size ≤ b ∧ e = .returned (.pointer (some ⟨b, 0, none⟩)) ∧ SetAt w' b none m (fun _ => false) ∧ Turn (fun _ => False) w w' := by
  subst hm
  refine (new_any n hn w).mono ?_
  rintro e w' ⟨b, hb, he, hB, hT⟩
  exact ⟨b, hb, he, ⟨by omega, fun i h => (by cases h), hB, fun _ => rfl⟩, hT⟩

end Go.Proofs.YtoemfehlnnbjdaaDoor
