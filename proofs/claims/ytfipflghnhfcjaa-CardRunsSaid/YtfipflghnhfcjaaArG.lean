/- used, Give, at this seat's numbers. -/
import Derived.Test.YtfipflghnhfcjaaArF
namespace Go.Proofs.Ytfipflghnhfcjaa
open Go Go.RowKit Go.Shelf Go.MuLone Go.RwLone
set_option linter.unusedSimpArgs false
set_option linter.unusedVariables false
attribute [local go_sem] Oper.semAt_some

def cellArgs (p : Nat) (x : Fin 32) : Array Value := #[.int .i64 ((32 * p + x.val + 1 : Nat) : Int)]

theorem used_elems (S : Nat → Bool) (p : Nat) : usedIn S p = true ↔ elems (inPage S p) 32 ≠ [] := by
  rw [usedIn_yes]
  constructor
  · rintro ⟨k, hk, h⟩ e
    have : k ∈ elems (inPage S p) 32 := by unfold elems; simp [hk, inPage, h]
    rw [e] at this; cases this
  · intro h
    obtain ⟨k, hk⟩ := List.exists_mem_of_ne_nil _ h
    unfold elems at hk
    simp [inPage] at hk
    exact ⟨k, hk.1, hk.2⟩

/-- The end of a body whose result lies in a box. -/
theorem take_end {V : World} {D : Nat} (hK : V.heap[D]? = some (.deferred (some []))) {w : World} {B : Nat} (hD : B ≤ D) (hb : Below B w V) : Below B w (V.putObj D (.deferred none)) :=
  ⟨hb.os, hb.tape, hb.output, by have := hb.size; simp; omega, fun k hk => by rw [World.putObj_heap_other (by omega), hb.block k hk]⟩

/-- A cell is given, whatever the Ref is. -/
def ArS.giveI (s : ArS) (r : Int) : ArS := if inS s.S r = true then s.give r.toNat else s
theorem giveI_no {s : ArS} {r : Int} (h : inS s.S r = false) : s.giveI r = s := by unfold ArS.giveI; rw [if_neg (by rw [h]; decide)]
theorem giveI_nat {s : ArS} {r : Nat} (h : s.S r = true) : s.giveI (r : Int) = { s with cls := giveCls s r, S := dropN s.S r } := by
  unfold ArS.giveI
  rw [if_pos (by rw [inS_nat]; exact h), Int.toNat_natCast]
  unfold ArS.give
  rw [if_pos h]
theorem Fits.giveI {s : ArS} (h : Fits s) (r : Int) : Fits (s.giveI r) := by
  unfold ArS.giveI
  split
  · exact h.give _
  · exact h

end Go.Proofs.Ytfipflghnhfcjaa
