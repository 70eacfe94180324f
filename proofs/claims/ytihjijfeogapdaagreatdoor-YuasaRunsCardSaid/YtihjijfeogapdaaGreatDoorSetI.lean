/- Count, for the layers above bits, at this seat's numbers. -/
import Derived.RangeFuncFrom
import Derived.Test.YtihjijfeogapdaaGreatDoorSetG
import Derived.Test.YtihjijfeogapdaaGreatDoorUb
namespace Go.Proofs.YtihjijfeogapdaaGreatDoor
open Go.RowKit Go.Shelf Go.MuLone Go.RwLone
attribute [local go_sem] Oper.semAt_some

/-- How many numbers the words of a list hold. -/
def sumW (S : Nat → Bool) : List (Fin 64) → Nat
  | [] => 0
  | k :: r => cnt S (64 * k.1) 64 + sumW S r
theorem sumW_snoc (S : Nat → Bool) (k : Fin 64) : ∀ l, sumW S (l ++ [k]) = sumW S l + cnt S (64 * k.1) 64
  | [] => by simp [sumW]
  | a :: l => by simp only [List.cons_append, sumW]; rw [sumW_snoc S k l]; omega
theorem sumW_le (S : Nat → Bool) : ∀ l, sumW S l ≤ 64 * l.length
  | [] => by simp [sumW]
  | a :: l => by simp only [sumW, List.length_cons]; have := sumW_le S l; have := cnt_le S 64 (64 * a.1); omega
theorem sumW_wks (S : Nat → Bool) : ∀ m a, a + m ≤ 64 → sumW S (wks a m) = cnt S (64 * a) (64 * m)
  | 0, a, _ => by simp [sumW, cnt, wks_zero]
  | m + 1, a, h => by
    rw [wks_snoc, sumW_snoc, sumW_wks S m a (by omega), wk_val (by omega), show 64 * (m + 1) = 64 * m + 64 by omega, cnt_add, show 64 * (a + m) = 64 * a + 64 * m by omega]

theorem WordsOf.pop {ws : Array Value} {S : Nat → Bool} (h : WordsOf ws S) (k : Nat) (hk : k < 64) : ∃ x : Nat, x < 18446744073709551616 ∧ ws[k]? = some (.int .u64 x) ∧ pop 64 x = cnt S (64 * k) 64 := by
  obtain ⟨x, hx, hw, hb⟩ := h.2 k hk
  exact ⟨x, hx, hw, pop_cnt S 64 x (64 * k) hb⟩

/-- What a question leaves: r, and the set as it was. -/
def AskPost (b : Nat) (lo : Option Nat) (n : Nat) (r : Int) (S : Nat → Bool) (w : World) (e : Ending) (w' : World) : Prop :=
  e = .returned (.int .i64 r) ∧ SetAt w' b lo n S ∧ Turn (fun k => k = b) w w'

theorem count_round (S : Nat → Bool) (pre : List (Fin 64)) (x : Fin 64) (c : Nat) (w1 W : World) (hS : sumW S (pre ++ [x]) = sumW S pre + c)
    (hc : W.cell? ⟨w1.heap.size, 0, none⟩ = some (.int .i64 ((sumW S pre : Nat) : Int))) (hf : W.frozen? ⟨w1.heap.size, 0, none⟩ = false) (hB : Below w1.heap.size w1 W) :
    KeepsOthers W (W.setCell ⟨w1.heap.size, 0, none⟩ (.int .i64 (((sumW S pre : Nat) : Int) + (c : Int)))).drew ∧ KeepsWalks W (W.setCell ⟨w1.heap.size, 0, none⟩ (.int .i64 (((sumW S pre : Nat) : Int) + (c : Int)))).drew ∧
      (((W.setCell ⟨w1.heap.size, 0, none⟩ (.int .i64 (((sumW S pre : Nat) : Int) + (c : Int)))).drew.cell? ⟨w1.heap.size, 0, none⟩ = some (.int .i64 ((sumW S (pre ++ [x]) : Nat) : Int)) ∧ (W.setCell ⟨w1.heap.size, 0, none⟩ (.int .i64 (((sumW S pre : Nat) : Int) + (c : Int)))).drew.frozen? ⟨w1.heap.size, 0, none⟩ = false) ∧
        Below w1.heap.size w1 (W.setCell ⟨w1.heap.size, 0, none⟩ (.int .i64 (((sumW S pre : Nat) : Int) + (c : Int)))).drew) := by
  have hk := (KeepsOthers.setCell W ⟨w1.heap.size, 0, none⟩ (.int .i64 (((sumW S pre : Nat) : Int) + (c : Int)))).trans (KeepsOthers.drew _)
  refine ⟨hk, hk.walks, ⟨?_, ?_⟩, ?_⟩
  · rw [hS, Int.natCast_add]
    exact World.cell?_setCell_same W ⟨w1.heap.size, 0, none⟩ _ hc
  · show (W.setCell _ _).frozen? _ = false
    rw [World.frozen?_setCell]; exact hf
  · exact (hB.setCell (p := ⟨w1.heap.size, 0, none⟩) (Nat.le_refl _) _).drew

end Go.Proofs.YtihjijfeogapdaaGreatDoor
