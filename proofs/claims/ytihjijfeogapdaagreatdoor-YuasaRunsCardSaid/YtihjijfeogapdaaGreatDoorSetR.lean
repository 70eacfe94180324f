/- Reset, for the layers above bits, at this seat's numbers. -/
import Derived.RangeFuncFrom
import Derived.Laws.LoneSync
import Derived.Test.YtihjijfeogapdaaGreatDoorSetI
namespace Go.Proofs.YtihjijfeogapdaaGreatDoor
open Go.RowKit Go.Shelf Go.MuLone Go.RwLone
attribute [local go_sem] Oper.semAt_some

theorem ownFrom_turn {β : Type} {M : Nat → Prop} {w0 : World} {B : Nat} (hB : w0.heap.size ≤ B) : OwnFrom B (fun (_ : β) W => Turn M w0 W) :=
  fun _ _ _ _ hs hg hr => ⟨hg.os.trans hs.os, hg.tape.trans hs.tape, hg.output.trans hs.output, Nat.le_trans hs.size hg.size, fun k hk hm =>
    (hg.block k (Nat.lt_of_lt_of_le hk hs.size) (fun e => by have := (hr k e.symm).1; omega)).trans (hs.block k hk hm)⟩
/-- The words told so far are 0. -/
def ZeroW (l : Nat) (pre : List (Fin 64)) (W : World) : Prop := ∃ ws : Array Value, Blk W l ws 145 ∧ ws.size = 64 ∧ ∀ x ∈ pre, ws[x.1]? = some (.int .u64 0)
theorem zeroW_own (l B : Nat) : OwnFrom B (fun pre W => ZeroW l pre W) := Own.from (fun pre A C row hs hg hr => by
  obtain ⟨ws, h1, h2, h3⟩ := hs
  exact ⟨ws, h1.kept hg hr, h2, h3⟩) B
theorem zeroW_round {l : Nat} {pre : List (Fin 64)} {W : World} (x : Fin 64) (h : ZeroW l pre W) : ZeroW l (pre ++ [x]) (W.setCell ⟨l, x.1, none⟩ (.int .u64 0)) := by
  obtain ⟨ws, h1, h2, h3⟩ := h
  refine ⟨_, h1.setAt x.1 _, by simp [h2], fun y hy => ?_⟩
  have hx := x.2
  by_cases e : y.1 = x.1
  · rw [e]; simp [h2, hx]
  · rcases List.mem_append.1 hy with h | h
    · rw [Array.getElem?_setIfInBounds_ne (fun e' => e e'.symm)]; exact h3 y h
    · rw [List.mem_singleton.1 h] at e; exact absurd rfl e
theorem zeroW_cell {l : Nat} {pre : List (Fin 64)} {W : World} (x : Fin 64) (h : ZeroW l pre W) : ∃ y, W.cell? ⟨l, x.1, none⟩ = some y ∧ W.frozen? ⟨l, x.1, none⟩ = false := by
  obtain ⟨ws, h1, h2, _⟩ := h
  have hx := x.2
  exact ⟨_, (h1.cell x.1).trans (Array.getElem?_eq_getElem (by omega)), h1.free x.1⟩
theorem zeroW_words {l : Nat} {W : World} (h : ZeroW l (wks 0 64) W) : ∃ ws, Blk W l ws 145 ∧ WordsOf ws (fun _ => false) := by
  obtain ⟨ws, h1, h2, h3⟩ := h
  refine ⟨ws, h1, h2, fun k hk => ⟨0, by decide, ?_, fun j _ => by simp⟩⟩
  have h := h3 (wk k) (wks_has (by omega) (by omega))
  rw [wk_val (by omega)] at h
  exact h

/-- What Reset leaves. -/
def ResetPost (b : Nat) (lo : Option Nat) (n : Nat) (w : World) (e : Ending) (w' : World) : Prop :=
  e = .returned (.tuple #[]) ∧ SetAt w' b lo n (fun _ => false) ∧ Turn (fun k => k = b ∨ lo = some k) w w'

theorem reset_round {l : Nat} {pre : List (Fin 64)} {w1 W : World} (x : Fin 64) (hZ : ZeroW l pre W) (hT : Turn (fun k => k = l) w1 W) :
    KeepsOthers W (W.setCell ⟨l, x.1, none⟩ (.int .u64 0)) ∧ KeepsWalks W (W.setCell ⟨l, x.1, none⟩ (.int .u64 0)) ∧ ZeroW l (pre ++ [x]) (W.setCell ⟨l, x.1, none⟩ (.int .u64 0)) ∧ Turn (fun k => k = l) w1 (W.setCell ⟨l, x.1, none⟩ (.int .u64 0)) :=
  ⟨KeepsOthers.setCell _ _ _, (KeepsOthers.setCell _ _ _).walks, zeroW_round x hZ, hT.set _ _ (.inr rfl)⟩

end Go.Proofs.YtihjijfeogapdaaGreatDoor
