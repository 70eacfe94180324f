/- All, at this seat's numbers. -/
import Derived.Test.YtfipflghnhfcjaaSetO
namespace Go.Proofs.Ytfipflghnhfcjaa
open Go.RowKit Go.Shelf Go.MuLone Go.RwLone
attribute [local go_sem] Oper.semAt_some

/-- The numbers of S below i, rising. -/
def elems (S : Nat → Bool) (i : Nat) : List Nat := (List.range i).filter S
theorem elems_zero (S : Nat → Bool) : elems S 0 = [] := rfl
theorem elems_gap (S : Nat → Bool) (i : Nat) : ∀ d, (∀ k, i ≤ k → k < i + d → S k = false) → elems S (i + d) = elems S i
  | 0, _ => rfl
  | d + 1, h => by
    rw [← elems_gap S i d (fun k h1 h2 => h k h1 (by omega))]
    unfold elems
    rw [← Nat.add_assoc, List.range_succ, List.filter_append]
    simp [h (i + d) (by omega) (by omega)]
theorem elems_next {S : Nat → Bool} {i j : Nat} (h : NextIs S i j) : elems S (j + 1) = elems S i ++ [j] := by
  obtain ⟨h1, h2, h3⟩ := h
  have e := elems_gap S i (j - i) (fun k hk hk2 => h3 k hk (by omega))
  rw [show i + (j - i) = j by omega] at e
  rw [← e]
  unfold elems
  rw [List.range_succ, List.filter_append]
  simp [h2]
theorem elems_end {S : Nat → Bool} {i m : Nat} (hi : i ≤ m) (h : ∀ k, i ≤ k → S k = false) : elems S m = elems S i := by
  have e := elems_gap S i (m - i) (fun k hk _ => h k hk)
  rw [show i + (m - i) = m by omega] at e
  exact e
theorem elems_length (S : Nat → Bool) (i : Nat) : (elems S i).length ≤ i := by
  unfold elems
  have := List.length_filter_le S (List.range i)
  simpa using this

/-- What every round lowers. -/
def allMu (m : Nat) (vi vok : Value) : Nat := match vok with | .bool true => m + 1 - (intOf vi).toNat | _ => 0

theorem SetAt.below {w w' : World} {b : Nat} {lo : Option Nat} {m : Nat} {S : Nat → Bool} {B : Nat} (h : SetAt w b lo m S) (hB : Below B w w') (hb : b < B) (hl : ∀ l, lo = some l → l < B) : SetAt w' b lo m S :=
  h.turn (Turn.ofBelow hB) (by omega) (fun l e => by have := hl l e; omega)

end Go.Proofs.Ytfipflghnhfcjaa
