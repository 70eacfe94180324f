/- Plain: what Dijkstra's and Yuasa's barriers keep; at this seat's names alone. -/
import Derived.Test.YtkjpeacnponcfaaGreatDoorLBrA
namespace Go.Proofs.YtkjpeacnponcfaaGreatDoor
open Go Go.RowKit
/-- No black object points to a white one. -/
structure Clo (P : Int → List Int) (c : Col) : Prop where
  sub : ∀ x, c.sc x = true → c.ma x = true
  clo : ∀ x, c.sc x = true → ∀ y ∈ P x, c.ma y = true
/-- What is marked, or one that is safe and not black leads to it. -/
inductive Safe (P : Int → List Int) (c : Col) : Int → Prop
  | ma {x : Int} : c.ma x = true → Safe P c x
  | step {x y : Int} : Safe P c x → y ∈ P x → c.sc x = false → Safe P c y
section
variable {P P' : Int → List Int} {c c' : Col} {l : List Int} {x y z : Int}
theorem shade_ma (h : c.ma y = true) : (c.shade x).ma y = true := by
  show updI c.ma x true y = true
  by_cases e : y = x
  · rw [e, updI_at]
  · rw [updI_ne e]; exact h
theorem shadeZ_ma (h : c.ma y = true) : (c.shadeZ x).ma y = true := by
  unfold Col.shadeZ; split
  · exact h
  · exact shade_ma h
theorem shadeZ_at (h : x ≠ 0) : (c.shadeZ x).ma x = true := by
  rw [Col.shadeZ_yes h]; exact updI_at _ _ _
theorem shadeZ_sc : (c.shadeZ x).sc = c.sc := by unfold Col.shadeZ; split <;> rfl
theorem shadeZ_ma_iff : (c.shadeZ x).ma y = true ↔ c.ma y = true ∨ y = x ∧ x ≠ 0 := by
  unfold Col.shadeZ
  by_cases e : x = 0
  · rw [if_pos e]; simp [e]
  · rw [if_neg e]
    show updI c.ma x true y = true ↔ _
    by_cases e2 : y = x
    · rw [e2, updI_at]; simp [e]
    · rw [updI_ne e2]; simp [e2]
theorem scan_ma (h : c.ma y = true) : (c.scan P x).ma y = true := by show (c.ma y || _) = true; rw [h]; rfl
theorem scan_pt (h : y ∈ P x) : (c.scan P x).ma y = true := by show (_ || decide (y ∈ P x)) = true; rw [decide_eq_true h]; simp
theorem clo_white : Clo P Col.white := ⟨fun x h => (by cases h), fun x h => (by cases h)⟩
theorem Clo.shade (h : Clo P c) (x : Int) : Clo P (c.shade x) := ⟨fun y hy => shade_ma (h.sub y hy), fun y hy z hz => shade_ma (h.clo y hy z hz)⟩
theorem Clo.shadeZ (h : Clo P c) (x : Int) : Clo P (c.shadeZ x) := by
  unfold Col.shadeZ; split
  · exact h
  · exact h.shade x
theorem Clo.scan (h : Clo P c) (hm : c.ma x = true) : Clo P (c.scan P x) := by
  have cut : ∀ y, (c.scan P x).sc y = true → y = x ∨ c.sc y = true := fun y hy => by
    have hy2 : updI c.sc x true y = true := hy
    by_cases e : y = x
    · exact .inl e
    · rw [updI_ne e] at hy2; exact .inr hy2
  refine ⟨fun y hy => ?_, fun y hy z hz => ?_⟩
  · rcases cut y hy with e | e
    · rw [e]; exact scan_ma hm
    · exact scan_ma (h.sub y e)
  · rcases cut y hy with e | e
    · rw [e] at hz; exact scan_pt hz
    · exact scan_ma (h.clo y e z hz)
theorem Clo.scans (h : Clo P c) (hs : Scans P c l c') : Clo P c' := by
  induction hs with
  | nil c => exact h
  | cons h1 h2 _ ih => exact ih (h.scan h1)
/-- A field is written, and what was written is shaded. -/
theorem Clo.write (h : Clo P c) (hP : ∀ z, z ≠ x → P' z = P z) (hx : ∀ u ∈ P' x, u ∈ P x ∨ u = y) (hz : ∀ u ∈ P' x, u ≠ 0) : Clo P' (c.shadeZ y) := by
  refine ⟨(h.shadeZ y).sub, fun z hz0 u hu => ?_⟩
  rw [shadeZ_sc] at hz0
  by_cases e : z = x
  · rw [e] at hu hz0
    rcases hx u hu with e2 | e2
    · exact shadeZ_ma (h.clo x hz0 u e2)
    · have := hz u hu
      rw [e2] at this ⊢; exact shadeZ_at this
  · rw [hP z e] at hu; exact shadeZ_ma (h.clo z hz0 u hu)
theorem Safe.shade (h : Safe P c z) (x : Int) : Safe P (c.shade x) z := by
  induction h with
  | ma h => exact .ma (shade_ma h)
  | step _ h2 h3 ih => exact .step ih h2 h3
theorem Safe.shadeZ (h : Safe P c z) (x : Int) : Safe P (c.shadeZ x) z := by
  unfold Col.shadeZ; split
  · exact h
  · exact h.shade x
theorem Safe.scan (h : Safe P c z) : Safe P (c.scan P x) z := by
  induction h with
  | ma h => exact .ma (scan_ma h)
  | @step u v _ h2 h3 ih =>
    by_cases e : u = x
    · rw [e] at h2; exact .ma (scan_pt h2)
    · exact .step ih h2 (by show updI c.sc x true u = false; rw [updI_ne e]; exact h3)
theorem Safe.scans (hs : Scans P c l c') : Safe P c z → Safe P c' z := by
  induction hs with
  | nil c => exact id
  | cons h1 h2 _ ih => exact fun h => ih h.scan
/-- A field is written, and what was taken away is shaded. -/
theorem Safe.write (h : Safe P c z) (hP : ∀ u, u ≠ x → P' u = P u) (hx : ∀ u ∈ P x, u ∈ P' x ∨ u = y) (h0 : ∀ u ∈ P x, u ≠ 0) : Safe P' (c.shadeZ y) z := by
  induction h with
  | ma h => exact .ma (shadeZ_ma h)
  | @step u v _ h2 h3 ih =>
    have h3' : (c.shadeZ y).sc u = false := by rw [shadeZ_sc]; exact h3
    by_cases e : u = x
    · subst e
      rcases hx v h2 with e2 | e2
      · exact .step ih e2 h3'
      · have := h0 v h2
        rw [e2] at this ⊢; exact .ma (shadeZ_at this)
    · exact .step ih (by rw [hP u e]; exact h2) h3'
/-- Where none is grey, all that is safe is marked. -/
theorem Safe.dry (h : Safe P c z) (hd : c.dry) : c.ma z = true := by
  induction h with
  | ma h => exact h
  | step _ _ h3 ih => rw [hd _ ih] at h3; cases h3
theorem Safe.ofRch {fr : List Int} (h : Rch fr P z) (hr : ∀ x ∈ fr, x ≠ 0 → c.ma x = true) (hw : ∀ x, c.sc x = false) : Safe P c z := by
  induction h with
  | root h1 h2 => exact .ma (hr _ h1 h2)
  | step _ h2 _ ih => exact .step ih h2 (hw _)
end
end Go.Proofs.YtkjpeacnponcfaaGreatDoor
