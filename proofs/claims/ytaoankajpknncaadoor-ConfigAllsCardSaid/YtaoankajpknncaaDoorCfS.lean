/- What ConfigNames and ConfigAlls keep: a configuration in its box, a row of them; at this seat's numbers. -/
import Derived.Test.YtaoankajpknncaaDoorCfK
import Derived.Test.YtaoankajpknncaaDoorCfJ
namespace Go.Proofs.YtaoankajpknncaaDoor
open Go Go.RowKit
set_option linter.unusedSimpArgs false
set_option linter.unusedVariables false
attribute [local go_sem] Oper.semAt_some

/-- All's list as far as it goes is the beginning of the whole. -/
theorem allC_pre (c : Cfg) (i : Nat) : ∀ n, allC c i <+: allC c (i + n)
  | 0 => List.prefix_refl _
  | n + 1 => (allC_pre c i n).trans (by
    show allC c (i + n) <+: allC c ((i + n) + 1)
    conv => rhs; unfold allC
    exact List.prefix_append _ _)
theorem allC_pre8 (c : Cfg) {i : Nat} (hi : i ≤ 8) : allC c i <+: allC c 8 := by
  have := allC_pre c i (8 - i)
  rwa [show i + (8 - i) = 8 by omega] at this
theorem allC_yes (c : Cfg) (i : Nat) (h : (c.at ((i / 2 : Nat) : Int) (i % 2 == 1)).may = true) : allC c (i + 1) = allC c i ++ [c.at ((i / 2 : Nat) : Int) (i % 2 == 1)] := by
  conv => lhs; unfold allC
  rw [if_pos h]
theorem allC_no (c : Cfg) (i : Nat) (h : (c.at ((i / 2 : Nat) : Int) (i % 2 == 1)).may = false) : allC c (i + 1) = allC c i := by
  conv => lhs; unfold allC
  rw [if_neg (by rw [h]; decide), List.append_nil]
/-- The next one that may be is the next one told. -/
theorem allC_next (c : Cfg) {i q : Nat} (hi : i < 8) (hq : (allC c i).length = q) (h : (c.at ((i / 2 : Nat) : Int) (i % 2 == 1)).may = true) : (allC c 8)[q]? = some (c.at ((i / 2 : Nat) : Int) (i % 2 == 1)) := by
  obtain ⟨t, ht⟩ := allC_pre8 c (show i + 1 ≤ 8 from hi)
  rw [← ht, allC_yes c i h]
  subst hq
  simp
theorem allC_mem (c : Cfg) : ∀ (n : Nat) (d : Cfg), d ∈ allC c n ↔ ∃ i, i < n ∧ d = c.at ((i / 2 : Nat) : Int) (i % 2 == 1) ∧ d.may = true
  | 0, d => by simp [allC]
  | n + 1, d => by
    cases h : (c.at ((n / 2 : Nat) : Int) (n % 2 == 1)).may
    · rw [allC_no c n h, allC_mem c n d]
      constructor
      · rintro ⟨i, a, b, e⟩
        exact ⟨i, by omega, b, e⟩
      · rintro ⟨i, a, b, e⟩
        rcases Nat.lt_or_ge i n with hl | hl
        · exact ⟨i, hl, b, e⟩
        · obtain rfl : i = n := by omega
          rw [b, h] at e
          cases e
    · rw [allC_yes c n h, List.mem_append, List.mem_singleton, allC_mem c n d]
      constructor
      · rintro (⟨i, a, b, e⟩ | rfl)
        · exact ⟨i, by omega, b, e⟩
        · exact ⟨n, by omega, rfl, h⟩
      · rintro ⟨i, a, b, e⟩
        rcases Nat.lt_or_ge i n with hl | hl
        · exact .inl ⟨i, hl, b, e⟩
        · obtain rfl : i = n := by omega
          exact .inr b

/-- A row that came from a call: its value, its cells. -/
def RowAt (w : World) (a0 : Option Addr) (L : List Cfg) : Prop := ∀ (i : Nat) (c : Cfg), L[i]? = some c → ∃ g, a0 = some ⟨g, 0, none⟩ ∧ g < w.heap.size ∧ ∀ j, j < 11 → w.cell? ⟨g, i * 11 + j, none⟩ = c.cells[j]?
theorem CfgRow.form {w : World} {v : Value} {L : List Cfg} (h : CfgRow w v L) : ∃ a0 cap, v = .slice a0 L.length cap ∧ RowAt w a0 L := by
  rcases h.is with ⟨rfl, rfl⟩ | ⟨g, cap, cur, rfl, hg, _, _, hc⟩
  · exact ⟨none, 0, rfl, fun i c h => (by simp at h)⟩
  · exact ⟨_, cap, rfl, fun i c hi => ⟨g, rfl, hg.lt, fun j hj => hc i c hi j hj⟩⟩
theorem RowAt.on {w w' : World} {a0 : Option Addr} {L : List Cfg} (h : RowAt w a0 L) (hB : Below w.heap.size w w') : RowAt w' a0 L := fun i c hi => by
  obtain ⟨g, e, hg, hc⟩ := h i c hi
  exact ⟨g, e, by have := hB.size; omega, fun j hj => (hB.cell (p := ⟨g, i * 11 + j, none⟩) hg).trans (hc j hj)⟩
theorem Blk.on {w w' : World} {b : Nat} {cs : Array Value} {T : TypeId} (h : Blk w b cs T) (hB : Below w.heap.size w w') : Blk w' b cs T :=
  h.turn (Turn.ofBelow hB) (fun e => absurd h.lt (Nat.not_lt.2 e))
end Go.Proofs.YtaoankajpknncaaDoor
