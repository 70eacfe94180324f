/- Plain: what Finish leaves, where nothing was written; at this seat's names alone. -/
import Derived.Test.YtooddbhlanjfbaaGreatDoorEnC
import Derived.Test.YtooddbhlanjfbaaGreatDoorUm
namespace Go.Proofs.YtooddbhlanjfbaaGreatDoor
open Go Go.RowKit Go.Shelf
theorem vyCol_nil (c : Col) : vyCol c (fun _ => 0) = c := by unfold vyCol; simp
theorem remC_none (e : Nat) (c : Col) : remC e c EnS.none = c := by
  match e with
  | 0 => exact Col.rem_none c
  | 1 => rfl
  | 2 => rfl
  | _ + 3 => exact vyCol_nil c
theorem Tri.shadesTo {P : Int → List Int} {fr ord : List Int} {c : Col} : ∀ (R pre : List Int), Tri P (fr ++ pre) (c.shades pre) ord → (∀ x ∈ R, x ≠ 0) → Tri P (fr ++ (pre ++ R)) (c.shades (pre ++ R)) ord
  | [], pre, h, _ => by rw [List.append_nil]; exact h
  | x :: R, pre, h, h0 => by
    have h1 : Tri P (fr ++ (pre ++ [x])) (c.shades (pre ++ [x])) ord := by
      rw [← Col.shades_snoc, ← List.append_assoc]; exact h.shade (h0 x (by simp))
    have h2 := Tri.shadesTo R (pre ++ [x]) h1 fun y hy => h0 y (List.mem_cons_of_mem _ hy)
    rw [List.append_assoc] at h2
    exact h2
theorem Tri.shades {P : Int → List Int} {fr ord : List Int} {c : Col} (h : Tri P fr c ord) (R : List Int) (h0 : ∀ x ∈ R, x ≠ 0) : Tri P (fr ++ R) (c.shades R) ord := by
  have := Tri.shadesTo R [] (by rw [List.append_nil, Col.shades_nil]; exact h) h0
  simpa using this
theorem tri_whiteP (P : Int → List Int) : Tri P [] Col.white [] := ⟨fun x h => (by cases h), fun x h => (by cases h), fun x h => (by cases h), List.nodup_nil, fun x => ⟨fun h => (by cases h), fun h => (by cases h)⟩, fun x h => (by cases h)⟩
/-- The roots that count. -/
def rootsE (e : Nat) (fr R : List Int) : List Int := if e = 2 then fr else fr ++ R
/-- Finish, behind nothing written: what is marked, how many were scanned. -/
theorem fin_tri {e : Nat} {P : Int → List Int} {fr ord l R : List Int} {c c3 : Col} (h : Tri P fr c ord) (hP : ∀ x, ∀ y ∈ P x, y ≠ 0) (hR : ∀ x ∈ R, x ≠ 0) (hs : Scans P (remC e (if e = 2 then c else c.shades R) EnS.none) l c3) : Tri P (rootsE e fr R) c3 (ord ++ l) := by
  rw [remC_none] at hs
  unfold rootsE
  split at hs
  · rename_i e2; rw [if_pos e2]; exact h.scans hP hs
  · rename_i e2; rw [if_neg e2]; exact (h.shades R hR).scans hP hs
end Go.Proofs.YtooddbhlanjfbaaGreatDoor
