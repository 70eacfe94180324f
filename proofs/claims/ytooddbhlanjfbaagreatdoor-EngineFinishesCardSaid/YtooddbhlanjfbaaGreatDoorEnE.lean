/- What the laws of stage 16 share; at this seat's numbers. -/
import Derived.Test.YtooddbhlanjfbaaGreatDoorEnF
import Derived.Test.YtooddbhlanjfbaaGreatDoorUm
import Derived.Test.YtooddbhlanjfbaaGreatDoorUl
import Derived.Test.YtooddbhlanjfbaaGreatDoorArgsF
import Derived.Test.YtooddbhlanjfbaaGreatDoorVyW
import Derived.Deep.RegionHeld3
import Derived.Deep.DeepCutAuto
import Derived.Deep.CutBlock
namespace Go.Proofs.YtooddbhlanjfbaaGreatDoor
open Go Go.RowKit Go.Shelf Go.MuLone Go.RwLone
set_option linter.unusedSimpArgs false
set_option linter.unusedVariables false
attribute [local go_sem] Oper.semAt_some

/-- Nothing is held. -/
def HeldT (_ : World) : Prop := True
set_option maxRecDepth 100000 in
theorem enN_post (e : Nat) (he : e ≤ 3) (a : Addr) : ∀ (F : Nat) (w : World), (nilAhead (F + 1) (enT e) (.pointer (some a)) "Post").run Tryz.prog w = .ok (some false) w := by
  rcases (show e = 0 ∨ e = 1 ∨ e = 2 ∨ e = 3 by omega) with rfl | rfl | rfl | rfl <;> exact fun F w => by kernel_rfl
theorem RefRow.takes {w : World} {g cap : Nat} : ∀ (d : Nat) (l : List Int) (k : Nat), l.length = k + d → RefRow w (.slice (some ⟨g, 0, none⟩) l.length cap) l → RefRow w (.slice (some ⟨g, 0, none⟩) k cap) (l.take k)
  | 0, l, k, e, h => by rw [List.take_of_length_le (by omega)]; rw [show k = l.length by omega]; exact h
  | d + 1, l, k, e, h => by
    have hne : l ≠ [] := fun e2 => by rw [e2] at e; simp at e
    obtain ⟨q, y, rfl⟩ : ∃ q y, l = q ++ [y] := ⟨l.dropLast, l.getLast hne, (List.dropLast_concat_getLast hne).symm⟩
    rw [List.length_append] at e h
    have h2 := RefRow.takes d q k (by simp at e; omega) (RefRow.less h)
    rw [List.take_append_of_le_length (by simp at e; omega)]
    exact h2
theorem wrapK {im kk : Nat} (h : kk = 1 + im) (h9 : im < 1000) : wrap64 (1 + (im : Int)) = (kk : Int) := by
  subst h; simp [wrap64]; omega
theorem remC_reset {e : Nat} (he : e ≤ 3) (c : Col) (σ : EnS) : remC e c (resetS e σ) = c := by
  rcases (show e = 0 ∨ e = 1 ∨ e = 2 ∨ e = 3 by omega) with rfl | rfl | rfl | rfl
  · exact Col.rem_none c
  · rfl
  · rfl
  · exact vyCol_nil c
theorem remC_is {e : Nat} {σ : EnS} {c : Col} (h : ∀ c, remC e c σ = c) : remC e c σ = remC e c EnS.none := by rw [h, remC_none]
theorem postS_lg {e P : Nat} {σ : EnS} {x o y : Int} {p : Bool} {i : Nat} (h : σ.lg ≤ i) : (postS e P σ x o y p).lg ≤ i + 1 := by
  unfold postS
  split
  · exact Nat.le_succ_of_le h
  · exact Nat.le_succ_of_le h
  · exact Nat.le_succ_of_le h
  · show vyLg σ.lg p y ≤ i + 1
    unfold vyLg; split <;> (try split) <;> omega
end Go.Proofs.YtooddbhlanjfbaaGreatDoor
