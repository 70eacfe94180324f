/- Plain: objects in an arena's cells. It speaks of no program's text. -/
import Derived.Test.YtkjpeacnponcfaaGreatDoorWdM
namespace Go.Proofs.YtkjpeacnponcfaaGreatDoor
open Go Go.RowKit
set_option linter.unusedSimpArgs false
set_option linter.unusedVariables false

/-- An object of k fields lies at r: its number is v, its fields are F. -/
structure ObjAt (s : ArS) (r k : Nat) (v : Int) (F : Nat → Int) : Prop where
  S : s.S r = true
  fit : k + 2 ≤ wN (s.cls (pg r))
  nf : s.ws r = (k : Int)
  sc : s.ws (r + 1) = v
  fs : ∀ i, i < k → s.ws (r + 2 + i) = F i

section
variable {s : ArS} {r k : Nat} {v : Int} {F : Nat → Int}
theorem ObjAt.ok (h : ObjAt s r k v F) (hF : Fits s) : okC (s.cls (pg r)) = true := (hF.at_ r h.S).2.2.1
theorem ObjAt.k6 (h : ObjAt s r k v F) (hF : Fits s) : k ≤ 6 := by
  have := h.fit
  rcases wN_cases (h.ok hF) with e | e | e <;> omega
theorem ObjAt.pos (h : ObjAt s r k v F) (hF : Fits s) : 1 ≤ r ∧ r ≤ 32 * s.P ∧ r ≤ 2048 := by
  obtain ⟨a1, a2, _, _⟩ := hF.at_ r h.S
  have := hF.p64
  omega
theorem hasWd_yes (hF : Fits s) (hS : s.S r = true) {i : Nat} (hi : i < wN (s.cls (pg r))) : hasWd s (r : Int) (i : Int) = true := by
  obtain ⟨_, _, a3, _⟩ := hF.at_ r hS
  have hw : (i : Int) < wordsOf (s.cls (pg r)) := by
    unfold wN at hi
    omega
  unfold hasWd
  rw [inS_nat, hS, Int.toNat_natCast, decide_eq_true hw, decide_eq_true (by omega)]
  rfl
theorem S_zero (hF : Fits s) : s.S 0 = false := by
  cases h : s.S 0 with
  | false => rfl
  | true => exact absurd (hF.at_ 0 h).1 (by omega)
theorem hasWd_nil (hF : Fits s) (i : Int) : hasWd s 0 i = false := by
  unfold hasWd
  have := S_zero hF
  rw [show (0 : Int) = ((0 : Nat) : Int) from rfl, inS_nat, this]
  rfl
theorem wordI_yes (hF : Fits s) (hS : s.S r = true) {i : Nat} (hi : i < wN (s.cls (pg r))) : wordI s (r : Int) (i : Int) = s.ws (r + i) := by
  unfold wordI
  rw [if_pos (hasWd_yes hF hS hi), show ((r : Int) + (i : Int)).toNat = r + i by omega]
theorem wordI_nil (hF : Fits s) (i : Int) : wordI s 0 i = 0 := by unfold wordI; rw [if_neg (by rw [hasWd_nil hF]; decide)]
theorem setW_yes (hF : Fits s) (hS : s.S r = true) {i : Nat} (hi : i < wN (s.cls (pg r))) (x : Int) : s.setW (r : Int) (i : Int) x = { s with ws := upd s.ws (r + i) x } := by
  unfold ArS.setW
  rw [if_pos (hasWd_yes hF hS hi), show ((r : Int) + (i : Int)).toNat = r + i by omega]
theorem setW_nil (hF : Fits s) (i x : Int) : s.setW 0 i x = s := by unfold ArS.setW; rw [if_neg (by rw [hasWd_nil hF]; decide)]
theorem setW_P (r i x : Int) : (s.setW r i x).P = s.P := by unfold ArS.setW; split <;> rfl
theorem setW_S (r i x : Int) : (s.setW r i x).S = s.S := by unfold ArS.setW; split <;> rfl
theorem setW_cls (r i x : Int) : (s.setW r i x).cls = s.cls := by unfold ArS.setW; split <;> rfl

/-- What is read of an object. -/
theorem ObjAt.fields (h : ObjAt s r k v F) (hF : Fits s) : wordI s (r : Int) 0 = (k : Int) := by
  have := wordI_yes hF h.S (i := 0) (by have := h.fit; omega)
  rw [show ((0 : Nat) : Int) = 0 from rfl] at this
  rw [this]; exact h.nf
theorem ObjAt.scalar (h : ObjAt s r k v F) (hF : Fits s) : wordI s (r : Int) 1 = v := by
  have := wordI_yes hF h.S (i := 1) (by have := h.fit; omega)
  rw [show ((1 : Nat) : Int) = 1 from rfl] at this
  rw [this]; exact h.sc
theorem ObjAt.field (h : ObjAt s r k v F) (hF : Fits s) {i : Nat} (hi : i < k) : wordI s (r : Int) (2 + (i : Int)) = F i := by
  have := wordI_yes hF h.S (i := 2 + i) (by have := h.fit; omega)
  rw [show ((2 + i : Nat) : Int) = 2 + (i : Int) by omega] at this
  rw [this, ← h.fs i hi]; congr 1; omega

/-- An object is written to. -/
theorem ObjAt.setSc (h : ObjAt s r k v F) (hF : Fits s) (x : Int) : ObjAt (s.setW (r : Int) 1 x) r k x F := by
  have e := setW_yes hF h.S (i := 1) (by have := h.fit; omega) x
  rw [show ((1 : Nat) : Int) = 1 from rfl] at e
  rw [e]
  refine ⟨h.S, h.fit, ?_, ?_, fun i hi => ?_⟩
  · show upd s.ws (r + 1) x r = _
    unfold upd; rw [if_neg (by omega)]; exact h.nf
  · show upd s.ws (r + 1) x (r + 1) = _
    unfold upd; rw [if_pos rfl]
  · show upd s.ws (r + 1) x (r + 2 + i) = _
    unfold upd; rw [if_neg (by omega)]; exact h.fs i hi
theorem ObjAt.setF (h : ObjAt s r k v F) (hF : Fits s) {j : Nat} (hj : j < k) (x : Int) : ObjAt (s.setW (r : Int) (2 + (j : Int)) x) r k v (upd F j x) := by
  have e := setW_yes hF h.S (i := 2 + j) (by have := h.fit; omega) x
  rw [show ((2 + j : Nat) : Int) = 2 + (j : Int) by omega] at e
  rw [e]
  refine ⟨h.S, h.fit, ?_, ?_, fun i hi => ?_⟩
  · show upd s.ws (r + (2 + j)) x r = _
    unfold upd; rw [if_neg (by omega)]; exact h.nf
  · show upd s.ws (r + (2 + j)) x (r + 1) = _
    unfold upd; rw [if_neg (by omega)]; exact h.sc
  · show upd s.ws (r + (2 + j)) x (r + 2 + i) = upd F j x i
    unfold upd
    by_cases e : i = j
    · rw [if_pos (by omega), if_pos e]
    · rw [if_neg (by omega), if_neg e]; exact h.fs i hi
/-- Another one is. -/
theorem ObjAt.other (h : ObjAt s r k v F) (hF : Fits s) {r' : Nat} (hS : s.S r' = true) (hne : r' ≠ r) {j : Nat} (hj : j < wN (s.cls (pg r'))) (x : Int) : ObjAt (s.setW (r' : Int) (j : Int) x) r k v F := by
  rw [setW_yes hF hS hj]
  have ha := cells_apart hF h.S hS (fun e => hne e.symm)
  have hf := h.fit
  have hu : ∀ q, r ≤ q → q < r + wN (s.cls (pg r)) → upd s.ws (r' + j) x q = s.ws q := fun q h1 h2 => by
    unfold upd; rw [if_neg (by omega)]
  refine ⟨h.S, h.fit, ?_, ?_, fun i hi => ?_⟩
  · show upd s.ws (r' + j) x r = _
    rw [hu _ (by omega) (by omega)]; exact h.nf
  · show upd s.ws (r' + j) x (r + 1) = _
    rw [hu _ (by omega) (by omega)]; exact h.sc
  · show upd s.ws (r' + j) x (r + 2 + i) = _
    rw [hu _ (by omega) (by omega)]; exact h.fs i hi
theorem ObjAt.otherSc (h : ObjAt s r k v F) (hF : Fits s) {r' k' : Nat} {v' : Int} {F' : Nat → Int} (h' : ObjAt s r' k' v' F') (hne : r' ≠ r) (x : Int) : ObjAt (s.setW (r' : Int) 1 x) r k v F :=
  h.other hF h'.S hne (j := 1) (by have := h'.fit; omega) x
theorem ObjAt.otherF (h : ObjAt s r k v F) (hF : Fits s) {r' k' : Nat} {v' : Int} {F' : Nat → Int} (h' : ObjAt s r' k' v' F') (hne : r' ≠ r) {j : Nat} (hj : j < k') (x : Int) : ObjAt (s.setW (r' : Int) (2 + (j : Int)) x) r k v F := by
  have := h.other hF h'.S hne (j := 2 + j) (by have := h'.fit; omega) x
  rw [show ((2 + j : Nat) : Int) = 2 + (j : Int) by omega] at this
  exact this

/-- A cell is taken beside it. -/
theorem take_mate {c : Int} (hF : Fits s) (h0 : seekF s c ≠ 0) {q : Nat} (hS : s.S q = true) : (s.take c).cls (pg q) = s.cls (pg q) := by
  obtain ⟨_, _, _, _, _, _, h7⟩ := seekF_is hF h0
  rw [take_some h0]
  show upd s.cls (pg (seekF s c)) c (pg q) = _
  unfold upd
  by_cases e : pg q = pg (seekF s c)
  · rw [if_pos e, e]
    rcases h7 with h7 | ⟨_, h7⟩
    · exact h7.symm
    · have := h7 ((q - 1) % 32) (by omega)
      have h1 := (hF.at_ q hS).1
      rw [show 32 * pg (seekF s c) + (q - 1) % 32 + 1 = q by rw [← e]; unfold pg; omega, hS] at this
      cases this
  · rw [if_neg e]
theorem take_cls2 {s : ArS} {c : Int} (h : seekF s c ≠ 0) : (s.take c).cls (pg (seekF s c)) = c := by
  rw [take_some h]
  show upd s.cls _ c _ = c
  simp [upd]
theorem take_S {c : Int} (h0 : seekF s c ≠ 0) (q : Nat) : (s.take c).S q = (s.S q || decide (q = seekF s c)) := by
  rw [take_some h0]; rfl
theorem ObjAt.take (h : ObjAt s r k v F) (hF : Fits s) (c : Int) : ObjAt (s.take c) r k v F := by
  by_cases h0 : seekF s c = 0
  · rw [take_none h0]; exact h
  · have hc := take_mate hF h0 h.S
    have hS : (s.take c).S r = true := by rw [take_S h0, h.S]; rfl
    have hSx : (s.take c).S (seekF s c) = true := by rw [take_S h0]; simp
    have hne : r ≠ seekF s c := fun e => by have := (seekF_is hF h0).2.2.2.2.1; rw [← e, h.S] at this; cases this
    have ha := cells_apart (hF.take c) hS hSx hne
    have hcx := take_cls2 h0
    rw [hc, hcx] at ha
    have hf := h.fit
    have hu : ∀ q, r ≤ q → q < r + wN (s.cls (pg r)) → (s.take c).ws q = s.ws q := fun q h1 h2 => by
      rw [take_some h0]
      show clr s.ws (seekF s c) (wN c) q = _
      unfold clr; rw [if_neg (by omega)]
    refine ⟨hS, by rw [hc]; exact hf, ?_, ?_, fun i hi => ?_⟩
    · rw [hu _ (by omega) (by omega)]; exact h.nf
    · rw [hu _ (by omega) (by omega)]; exact h.sc
    · rw [hu _ (by omega) (by omega)]; exact h.fs i hi
end

/-- The class of so many fields. -/
def clsK (k : Int) : Int := if k ≤ 0 then 0 else if k ≤ 2 then 1 else 2
theorem clsK_ok (k : Int) : okC (clsK k) = true := by
  unfold clsK
  split
  · rfl
  · split <;> rfl
theorem clsK_fit {k : Nat} (h : k ≤ 6) : k + 2 ≤ wN (clsK (k : Int)) := by
  unfold clsK
  split
  · show k + 2 ≤ 2; omega
  · split
    · show k + 2 ≤ 4; omega
    · show k + 2 ≤ 8; omega
/-- What New answers, and leaves. -/
def newR (s : ArS) (k : Int) : Nat := if k < 0 ∨ 6 < k then 0 else seekF s (clsK k)
def newE (s : ArS) (k : Int) : Int := if k < 0 then 6 else if 6 < k then 7 else if seekF s (clsK k) = 0 then 10 else 0
def ArS.newS (s : ArS) (k : Int) : ArS := if k < 0 ∨ 6 < k then s else (s.take (clsK k)).setW ((seekF s (clsK k) : Nat) : Int) 0 k
theorem newS_P (s : ArS) (k : Int) : (s.newS k).P = s.P := by
  unfold ArS.newS; split
  · rfl
  · rw [setW_P, take_P]
theorem Fits.newS {s : ArS} (h : Fits s) (k : Int) : Fits (s.newS k) := by
  unfold ArS.newS; split
  · exact h
  · exact (h.take _).setW _ _ _
theorem newE_zero {s : ArS} {k : Int} (h : newE s k = 0) : 0 ≤ k ∧ k ≤ 6 ∧ newR s k ≠ 0 ∧ newR s k = seekF s (clsK k) := by
  unfold newE at h
  by_cases h1 : k < 0
  · rw [if_pos h1] at h; omega
  · by_cases h2 : 6 < k
    · rw [if_neg h1, if_pos h2] at h; omega
    · by_cases h3 : seekF s (clsK k) = 0
      · rw [if_neg h1, if_neg h2, if_pos h3] at h; omega
      · unfold newR
        rw [if_neg (by omega)]
        exact ⟨by omega, by omega, h3, rfl⟩
theorem newE_not {s : ArS} {k : Int} (hF : Fits s) (h : newE s k ≠ 0) : newR s k = 0 ∧ s.newS k = s := by
  unfold newE at h
  unfold newR ArS.newS
  by_cases h1 : k < 0
  · rw [if_pos (.inl h1), if_pos (.inl h1)]; exact ⟨rfl, rfl⟩
  · by_cases h2 : 6 < k
    · rw [if_pos (.inr h2), if_pos (.inr h2)]; exact ⟨rfl, rfl⟩
    · rw [if_neg (by omega), if_neg (by omega)]
      by_cases h3 : seekF s (clsK k) = 0
      · refine ⟨h3, ?_⟩
        rw [h3, take_none h3]
        exact setW_nil hF 0 k
      · rw [if_neg h1, if_neg h2, if_neg h3] at h; exact absurd rfl h
theorem newE_mid {s : ArS} {k : Int} (h0 : 0 ≤ k) (h6 : k ≤ 6) : newE s k = if seekF s (clsK k) = 0 then 10 else 0 := by
  unfold newE; rw [if_neg (by omega), if_neg (by omega)]
theorem newE_cases (s : ArS) (k : Int) : newE s k = 0 ∨ (k < 0 ∧ newE s k = 6) ∨ (6 < k ∧ newE s k = 7) ∨ (0 ≤ k ∧ k ≤ 6 ∧ seekF s (clsK k) = 0 ∧ newE s k = 10) := by
  unfold newE
  by_cases h1 : k < 0
  · right; left; rw [if_pos h1]; exact ⟨h1, rfl⟩
  · by_cases h2 : 6 < k
    · right; right; left; rw [if_neg h1, if_pos h2]; exact ⟨h2, rfl⟩
    · by_cases h3 : seekF s (clsK k) = 0
      · right; right; right; rw [if_neg h1, if_neg h2, if_pos h3]; exact ⟨by omega, by omega, h3, rfl⟩
      · left; rw [if_neg h1, if_neg h2, if_neg h3]
section
variable {s : ArS} {r k : Nat} {v : Int} {F : Nat → Int}
/-- An object beside the new one. -/
theorem ObjAt.new (h : ObjAt s r k v F) (hF : Fits s) (j : Int) : ObjAt (s.newS j) r k v F := by
  by_cases he : newE s j = 0
  · obtain ⟨j0, j6, hr, hs⟩ := newE_zero he
    unfold ArS.newS
    rw [if_neg (by omega)]
    rw [hs] at hr
    have hx : (s.take (clsK j)).S (seekF s (clsK j)) = true := by rw [take_S hr]; simp
    have hc := take_cls2 hr
    have hne : seekF s (clsK j) ≠ r := fun e => by have := (seekF_is hF hr).2.2.2.2.1; rw [e, h.S] at this; cases this
    exact (h.take hF (clsK j)).other (hF.take _) hx hne (j := 0) (by rw [hc]; rcases wN_cases (clsK_ok j) with e | e | e <;> omega) j
  · rw [(newE_not hF he).2]; exact h
/-- The new one. -/
theorem new_obj (hF : Fits s) {k : Nat} (he : newE s (k : Int) = 0) : ObjAt (s.newS (k : Int)) (newR s (k : Int)) k 0 (fun _ => 0) := by
  obtain ⟨k0, k6, hr, hs⟩ := newE_zero he
  unfold ArS.newS
  rw [if_neg (by omega)]
  rw [hs] at hr ⊢
  have hx : (s.take (clsK k)).S (seekF s (clsK k)) = true := by rw [take_S hr]; simp
  have hc := take_cls2 hr
  have hfit := clsK_fit (k := k) (by omega)
  have e := setW_yes (hF.take (clsK k)) hx (i := 0) (by rw [hc]; omega) (k : Int)
  rw [show ((0 : Nat) : Int) = 0 from rfl] at e
  rw [e]
  have hz : ∀ q, seekF s (clsK k) ≤ q → q < seekF s (clsK k) + wN (clsK k) → (s.take (clsK k)).ws q = 0 := fun q h1 h2 => by
    rw [take_some hr]
    show clr s.ws _ _ q = 0
    unfold clr; rw [if_pos ⟨h1, h2⟩]
  refine ⟨hx, by rw [hc]; exact hfit, ?_, ?_, fun i hi => ?_⟩
  · show upd _ _ _ _ = _
    unfold upd; rw [if_pos (by omega)]
  · show upd _ _ _ _ = _
    unfold upd; rw [if_neg (by omega)]; exact hz _ (by omega) (by omega)
  · show upd _ _ _ _ = _
    unfold upd; rw [if_neg (by omega)]; exact hz _ (by omega) (by omega)
theorem new_apart (hF : Fits s) {j : Int} (he : newE s j = 0) (h : s.S r = true) : newR s j ≠ r := by
  obtain ⟨_, _, hr, hs⟩ := newE_zero he
  intro e
  rw [hs] at hr e
  have := (seekF_is hF hr).2.2.2.2.1
  rw [e, h] at this; cases this
end

/-- A field's error. -/
def fldE (s : ArS) (r i : Int) : Int := if r = 0 then 8 else if i < 0 ∨ wordI s r 0 ≤ i then 6 else 0
def fldV (s : ArS) (r i : Int) : Int := if fldE s r i = 0 then wordI s r (2 + i) else 0
def ArS.setFS (s : ArS) (r i x : Int) : ArS := if fldE s r i = 0 then s.setW r (2 + i) x else s
def scE (r : Int) : Int := if r = 0 then 8 else 0
def scV (s : ArS) (r : Int) : Int := wordI s r 1
def ArS.setSS (s : ArS) (r x : Int) : ArS := s.setW r 1 x
theorem Fits.setFS {s : ArS} (h : Fits s) (r i x : Int) : Fits (s.setFS r i x) := by
  unfold ArS.setFS; split
  · exact h.setW _ _ _
  · exact h
end Go.Proofs.YtkjpeacnponcfaaGreatDoor
