/- Plain: cells of an arena don't overlap; words that a take clears, and that a set writes. It speaks of no program's text. Plain: objects in an arena's cells. It speaks of no program's text. Package cell's functions but Points, at this seat's numbers. Points: the iterator over an object's fields that aren't 0, at this seat's numbers. ArenaLimits, walked, at this seat's numbers. Calls on objects; rooms; fit; at this seat's numbers. Plain: a list of objects in an arena's cells. It speaks of no program's text. -/
import Derived.Test.YtidpmplkbgllfaaGreatDoorUc
namespace Go.Proofs.YtidpmplkbgllfaaGreatDoor
open Go Go.RowKit
set_option linter.unusedSimpArgs false

theorem wN_cases {c : Int} (h : okC c = true) : wN c = 2 ∨ wN c = 4 ∨ wN c = 8 := by
  rcases okC_cases h with rfl | rfl | rfl
  · exact .inl rfl
  · exact .inr (.inl rfl)
  · exact .inr (.inr rfl)
/-- A cell lies in its page. -/
theorem cell_in {s : ArS} (hF : Fits s) {r : Nat} (h : s.S r = true) : (r - 1) % 32 + wN (s.cls (pg r)) ≤ 32 := by
  obtain ⟨a1, a2, a3, a4⟩ := hF.at_ r h
  rcases wN_cases a3 with e | e | e <;> rw [e] at a4 ⊢ <;> omega
/-- Two taken cells don't overlap. -/
theorem cells_apart {s : ArS} (hF : Fits s) {r r' : Nat} (h : s.S r = true) (h' : s.S r' = true) (hne : r ≠ r') : r + wN (s.cls (pg r)) ≤ r' ∨ r' + wN (s.cls (pg r')) ≤ r := by
  obtain ⟨a1, a2, a3, a4⟩ := hF.at_ r h
  obtain ⟨b1, b2, b3, b4⟩ := hF.at_ r' h'
  have i1 := cell_in hF h
  have i2 := cell_in hF h'
  by_cases e : pg r = pg r'
  · rw [e] at a4 i1 ⊢
    unfold pg at e
    rcases wN_cases b3 with x | x | x <;> rw [x] at a4 b4 i1 i2 ⊢ <;> omega
  · unfold pg at *
    rcases wN_cases a3 with x | x | x <;> rcases wN_cases b3 with y | y | y <;> simp only [x, y] at * <;> omega
end Go.Proofs.YtidpmplkbgllfaaGreatDoor

namespace Go.Proofs.YtidpmplkbgllfaaGreatDoor
open Go Go.RowKit
set_option linter.unusedSimpArgs false
set_option linter.unusedVariables false

/-- An object of k fields lies at r: its number is v, its fields are F. -/
structure ObjAt (s : ArS) (r k : Nat) (v : Int) (F : Nat → Int) : Prop where
  S : s.S r = true
  fit : k + 2 ≤ wN (s.cls (pg r))
  nf : s.ws r = (k : Int)
  sc : s.ws (r + 1) = v
  fs : ∀ i, i < k → s.ws (r + 2 + i) = F i

section
variable {s : ArS} {r k : Nat} {v : Int} {F : Nat → Int}
theorem ObjAt.ok (h : ObjAt s r k v F) (hF : Fits s) : okC (s.cls (pg r)) = true := (hF.at_ r h.S).2.2.1
theorem ObjAt.k6 (h : ObjAt s r k v F) (hF : Fits s) : k ≤ 6 := by
  have := h.fit
  rcases wN_cases (h.ok hF) with e | e | e <;> omega
theorem ObjAt.pos (h : ObjAt s r k v F) (hF : Fits s) : 1 ≤ r ∧ r ≤ 32 * s.P ∧ r ≤ 2048 := by
  obtain ⟨a1, a2, _, _⟩ := hF.at_ r h.S
  have := hF.p64
  omega
theorem hasWd_yes (hF : Fits s) (hS : s.S r = true) {i : Nat} (hi : i < wN (s.cls (pg r))) : hasWd s (r : Int) (i : Int) = true := by
  obtain ⟨_, _, a3, _⟩ := hF.at_ r hS
  have hw : (i : Int) < wordsOf (s.cls (pg r)) := by
    unfold wN at hi
    omega
  unfold hasWd
  rw [inS_nat, hS, Int.toNat_natCast, decide_eq_true hw, decide_eq_true (by omega)]
  rfl
theorem S_zero (hF : Fits s) : s.S 0 = false := by
  cases h : s.S 0 with
  | false => rfl
  | true => exact absurd (hF.at_ 0 h).1 (by omega)
theorem hasWd_nil (hF : Fits s) (i : Int) : hasWd s 0 i = false := by
  unfold hasWd
  have := S_zero hF
  rw [show (0 : Int) = ((0 : Nat) : Int) from rfl, inS_nat, this]
  rfl
theorem wordI_yes (hF : Fits s) (hS : s.S r = true) {i : Nat} (hi : i < wN (s.cls (pg r))) : wordI s (r : Int) (i : Int) = s.ws (r + i) := by
  unfold wordI
  rw [if_pos (hasWd_yes hF hS hi), show ((r : Int) + (i : Int)).toNat = r + i by omega]
theorem wordI_nil (hF : Fits s) (i : Int) : wordI s 0 i = 0 := by unfold wordI; rw [if_neg (by rw [hasWd_nil hF]; decide)]
theorem setW_yes (hF : Fits s) (hS : s.S r = true) {i : Nat} (hi : i < wN (s.cls (pg r))) (x : Int) : s.setW (r : Int) (i : Int) x = { s with ws := upd s.ws (r + i) x } := by
  unfold ArS.setW
  rw [if_pos (hasWd_yes hF hS hi), show ((r : Int) + (i : Int)).toNat = r + i by omega]
theorem setW_nil (hF : Fits s) (i x : Int) : s.setW 0 i x = s := by unfold ArS.setW; rw [if_neg (by rw [hasWd_nil hF]; decide)]
theorem setW_P (r i x : Int) : (s.setW r i x).P = s.P := by unfold ArS.setW; split <;> rfl
theorem setW_S (r i x : Int) : (s.setW r i x).S = s.S := by unfold ArS.setW; split <;> rfl
theorem setW_cls (r i x : Int) : (s.setW r i x).cls = s.cls := by unfold ArS.setW; split <;> rfl

/-- What is read of an object. -/
theorem ObjAt.fields (h : ObjAt s r k v F) (hF : Fits s) : wordI s (r : Int) 0 = (k : Int) := by
  have := wordI_yes hF h.S (i := 0) (by have := h.fit; omega)
  rw [show ((0 : Nat) : Int) = 0 from rfl] at this
  rw [this]; exact h.nf
theorem ObjAt.scalar (h : ObjAt s r k v F) (hF : Fits s) : wordI s (r : Int) 1 = v := by
  have := wordI_yes hF h.S (i := 1) (by have := h.fit; omega)
  rw [show ((1 : Nat) : Int) = 1 from rfl] at this
  rw [this]; exact h.sc
theorem ObjAt.field (h : ObjAt s r k v F) (hF : Fits s) {i : Nat} (hi : i < k) : wordI s (r : Int) (2 + (i : Int)) = F i := by
  have := wordI_yes hF h.S (i := 2 + i) (by have := h.fit; omega)
  rw [show ((2 + i : Nat) : Int) = 2 + (i : Int) by omega] at this
  rw [this, ← h.fs i hi]; congr 1; omega

/-- An object is written to. -/
theorem ObjAt.setSc (h : ObjAt s r k v F) (hF : Fits s) (x : Int) : ObjAt (s.setW (r : Int) 1 x) r k x F := by
  have e := setW_yes hF h.S (i := 1) (by have := h.fit; omega) x
  rw [show ((1 : Nat) : Int) = 1 from rfl] at e
  rw [e]
  refine ⟨h.S, h.fit, ?_, ?_, fun i hi => ?_⟩
  · show upd s.ws (r + 1) x r = _
    unfold upd; rw [if_neg (by omega)]; exact h.nf
  · show upd s.ws (r + 1) x (r + 1) = _
    unfold upd; rw [if_pos rfl]
  · show upd s.ws (r + 1) x (r + 2 + i) = _
    unfold upd; rw [if_neg (by omega)]; exact h.fs i hi
theorem ObjAt.setF (h : ObjAt s r k v F) (hF : Fits s) {j : Nat} (hj : j < k) (x : Int) : ObjAt (s.setW (r : Int) (2 + (j : Int)) x) r k v (upd F j x) := by
  have e := setW_yes hF h.S (i := 2 + j) (by have := h.fit; omega) x
  rw [show ((2 + j : Nat) : Int) = 2 + (j : Int) by omega] at e
  rw [e]
  refine ⟨h.S, h.fit, ?_, ?_, fun i hi => ?_⟩
  · show upd s.ws (r + (2 + j)) x r = _
    unfold upd; rw [if_neg (by omega)]; exact h.nf
  · show upd s.ws (r + (2 + j)) x (r + 1) = _
    unfold upd; rw [if_neg (by omega)]; exact h.sc
  · show upd s.ws (r + (2 + j)) x (r + 2 + i) = upd F j x i
    unfold upd
    by_cases e : i = j
    · rw [if_pos (by omega), if_pos e]
    · rw [if_neg (by omega), if_neg e]; exact h.fs i hi
/-- Another one is. -/
theorem ObjAt.other (h : ObjAt s r k v F) (hF : Fits s) {r' : Nat} (hS : s.S r' = true) (hne : r' ≠ r) {j : Nat} (hj : j < wN (s.cls (pg r'))) (x : Int) : ObjAt (s.setW (r' : Int) (j : Int) x) r k v F := by
  rw [setW_yes hF hS hj]
  have ha := cells_apart hF h.S hS (fun e => hne e.symm)
  have hf := h.fit
  have hu : ∀ q, r ≤ q → q < r + wN (s.cls (pg r)) → upd s.ws (r' + j) x q = s.ws q := fun q h1 h2 => by
    unfold upd; rw [if_neg (by omega)]
  refine ⟨h.S, h.fit, ?_, ?_, fun i hi => ?_⟩
  · show upd s.ws (r' + j) x r = _
    rw [hu _ (by omega) (by omega)]; exact h.nf
  · show upd s.ws (r' + j) x (r + 1) = _
    rw [hu _ (by omega) (by omega)]; exact h.sc
  · show upd s.ws (r' + j) x (r + 2 + i) = _
    rw [hu _ (by omega) (by omega)]; exact h.fs i hi
theorem ObjAt.otherSc (h : ObjAt s r k v F) (hF : Fits s) {r' k' : Nat} {v' : Int} {F' : Nat → Int} (h' : ObjAt s r' k' v' F') (hne : r' ≠ r) (x : Int) : ObjAt (s.setW (r' : Int) 1 x) r k v F :=
  h.other hF h'.S hne (j := 1) (by have := h'.fit; omega) x
theorem ObjAt.otherF (h : ObjAt s r k v F) (hF : Fits s) {r' k' : Nat} {v' : Int} {F' : Nat → Int} (h' : ObjAt s r' k' v' F') (hne : r' ≠ r) {j : Nat} (hj : j < k') (x : Int) : ObjAt (s.setW (r' : Int) (2 + (j : Int)) x) r k v F := by
  have := h.other hF h'.S hne (j := 2 + j) (by have := h'.fit; omega) x
  rw [show ((2 + j : Nat) : Int) = 2 + (j : Int) by omega] at this
  exact this

/-- A cell is taken beside it. -/
theorem take_mate {c : Int} (hF : Fits s) (h0 : seekF s c ≠ 0) {q : Nat} (hS : s.S q = true) : (s.take c).cls (pg q) = s.cls (pg q) := by
  obtain ⟨_, _, _, _, _, _, h7⟩ := seekF_is hF h0
  rw [take_some h0]
  show upd s.cls (pg (seekF s c)) c (pg q) = _
  unfold upd
  by_cases e : pg q = pg (seekF s c)
  · rw [if_pos e, e]
    rcases h7 with h7 | ⟨_, h7⟩
    · exact h7.symm
    · have := h7 ((q - 1) % 32) (by omega)
      have h1 := (hF.at_ q hS).1
      rw [show 32 * pg (seekF s c) + (q - 1) % 32 + 1 = q by rw [← e]; unfold pg; omega, hS] at this
      cases this
  · rw [if_neg e]
theorem take_cls2 {s : ArS} {c : Int} (h : seekF s c ≠ 0) : (s.take c).cls (pg (seekF s c)) = c := by
  rw [take_some h]
  show upd s.cls _ c _ = c
  simp [upd]
theorem take_S {c : Int} (h0 : seekF s c ≠ 0) (q : Nat) : (s.take c).S q = (s.S q || decide (q = seekF s c)) := by
  rw [take_some h0]; rfl
theorem ObjAt.take (h : ObjAt s r k v F) (hF : Fits s) (c : Int) : ObjAt (s.take c) r k v F := by
  by_cases h0 : seekF s c = 0
  · rw [take_none h0]; exact h
  · have hc := take_mate hF h0 h.S
    have hS : (s.take c).S r = true := by rw [take_S h0, h.S]; rfl
    have hSx : (s.take c).S (seekF s c) = true := by rw [take_S h0]; simp
    have hne : r ≠ seekF s c := fun e => by have := (seekF_is hF h0).2.2.2.2.1; rw [← e, h.S] at this; cases this
    have ha := cells_apart (hF.take c) hS hSx hne
    have hcx := take_cls2 h0
    rw [hc, hcx] at ha
    have hf := h.fit
    have hu : ∀ q, r ≤ q → q < r + wN (s.cls (pg r)) → (s.take c).ws q = s.ws q := fun q h1 h2 => by
      rw [take_some h0]
      show clr s.ws (seekF s c) (wN c) q = _
      unfold clr; rw [if_neg (by omega)]
    refine ⟨hS, by rw [hc]; exact hf, ?_, ?_, fun i hi => ?_⟩
    · rw [hu _ (by omega) (by omega)]; exact h.nf
    · rw [hu _ (by omega) (by omega)]; exact h.sc
    · rw [hu _ (by omega) (by omega)]; exact h.fs i hi
end

/-- The class of so many fields. -/
def clsK (k : Int) : Int := if k ≤ 0 then 0 else if k ≤ 2 then 1 else 2
theorem clsK_ok (k : Int) : okC (clsK k) = true := by
  unfold clsK
  split
  · rfl
  · split <;> rfl
theorem clsK_fit {k : Nat} (h : k ≤ 6) : k + 2 ≤ wN (clsK (k : Int)) := by
  unfold clsK
  split
  · show k + 2 ≤ 2; omega
  · split
    · show k + 2 ≤ 4; omega
    · show k + 2 ≤ 8; omega
/-- What New answers, and leaves. -/
def newR (s : ArS) (k : Int) : Nat := if k < 0 ∨ 6 < k then 0 else seekF s (clsK k)
def newE (s : ArS) (k : Int) : Int := if k < 0 then 6 else if 6 < k then 7 else if seekF s (clsK k) = 0 then 10 else 0
def ArS.newS (s : ArS) (k : Int) : ArS := if k < 0 ∨ 6 < k then s else (s.take (clsK k)).setW ((seekF s (clsK k) : Nat) : Int) 0 k
theorem newS_P (s : ArS) (k : Int) : (s.newS k).P = s.P := by
  unfold ArS.newS; split
  · rfl
  · rw [setW_P, take_P]
theorem Fits.newS {s : ArS} (h : Fits s) (k : Int) : Fits (s.newS k) := by
  unfold ArS.newS; split
  · exact h
  · exact (h.take _).setW _ _ _
theorem newE_zero {s : ArS} {k : Int} (h : newE s k = 0) : 0 ≤ k ∧ k ≤ 6 ∧ newR s k ≠ 0 ∧ newR s k = seekF s (clsK k) := by
  unfold newE at h
  by_cases h1 : k < 0
  · rw [if_pos h1] at h; omega
  · by_cases h2 : 6 < k
    · rw [if_neg h1, if_pos h2] at h; omega
    · by_cases h3 : seekF s (clsK k) = 0
      · rw [if_neg h1, if_neg h2, if_pos h3] at h; omega
      · unfold newR
        rw [if_neg (by omega)]
        exact ⟨by omega, by omega, h3, rfl⟩
theorem newE_not {s : ArS} {k : Int} (hF : Fits s) (h : newE s k ≠ 0) : newR s k = 0 ∧ s.newS k = s := by
  unfold newE at h
  unfold newR ArS.newS
  by_cases h1 : k < 0
  · rw [if_pos (.inl h1), if_pos (.inl h1)]; exact ⟨rfl, rfl⟩
  · by_cases h2 : 6 < k
    · rw [if_pos (.inr h2), if_pos (.inr h2)]; exact ⟨rfl, rfl⟩
    · rw [if_neg (by omega), if_neg (by omega)]
      by_cases h3 : seekF s (clsK k) = 0
      · refine ⟨h3, ?_⟩
        rw [h3, take_none h3]
        exact setW_nil hF 0 k
      · rw [if_neg h1, if_neg h2, if_neg h3] at h; exact absurd rfl h
theorem newE_mid {s : ArS} {k : Int} (h0 : 0 ≤ k) (h6 : k ≤ 6) : newE s k = if seekF s (clsK k) = 0 then 10 else 0 := by
  unfold newE; rw [if_neg (by omega), if_neg (by omega)]
theorem newE_cases (s : ArS) (k : Int) : newE s k = 0 ∨ (k < 0 ∧ newE s k = 6) ∨ (6 < k ∧ newE s k = 7) ∨ (0 ≤ k ∧ k ≤ 6 ∧ seekF s (clsK k) = 0 ∧ newE s k = 10) := by
  unfold newE
  by_cases h1 : k < 0
  · right; left; rw [if_pos h1]; exact ⟨h1, rfl⟩
  · by_cases h2 : 6 < k
    · right; right; left; rw [if_neg h1, if_pos h2]; exact ⟨h2, rfl⟩
    · by_cases h3 : seekF s (clsK k) = 0
      · right; right; right; rw [if_neg h1, if_neg h2, if_pos h3]; exact ⟨by omega, by omega, h3, rfl⟩
      · left; rw [if_neg h1, if_neg h2, if_neg h3]
section
variable {s : ArS} {r k : Nat} {v : Int} {F : Nat → Int}
/-- An object beside the new one. -/
theorem ObjAt.new (h : ObjAt s r k v F) (hF : Fits s) (j : Int) : ObjAt (s.newS j) r k v F := by
  by_cases he : newE s j = 0
  · obtain ⟨j0, j6, hr, hs⟩ := newE_zero he
    unfold ArS.newS
    rw [if_neg (by omega)]
    rw [hs] at hr
    have hx : (s.take (clsK j)).S (seekF s (clsK j)) = true := by rw [take_S hr]; simp
    have hc := take_cls2 hr
    have hne : seekF s (clsK j) ≠ r := fun e => by have := (seekF_is hF hr).2.2.2.2.1; rw [e, h.S] at this; cases this
    exact (h.take hF (clsK j)).other (hF.take _) hx hne (j := 0) (by rw [hc]; rcases wN_cases (clsK_ok j) with e | e | e <;> omega) j
  · rw [(newE_not hF he).2]; exact h
/-- The new one. -/
theorem new_obj (hF : Fits s) {k : Nat} (he : newE s (k : Int) = 0) : ObjAt (s.newS (k : Int)) (newR s (k : Int)) k 0 (fun _ => 0) := by
  obtain ⟨k0, k6, hr, hs⟩ := newE_zero he
  unfold ArS.newS
  rw [if_neg (by omega)]
  rw [hs] at hr ⊢
  have hx : (s.take (clsK k)).S (seekF s (clsK k)) = true := by rw [take_S hr]; simp
  have hc := take_cls2 hr
  have hfit := clsK_fit (k := k) (by omega)
  have e := setW_yes (hF.take (clsK k)) hx (i := 0) (by rw [hc]; omega) (k : Int)
  rw [show ((0 : Nat) : Int) = 0 from rfl] at e
  rw [e]
  have hz : ∀ q, seekF s (clsK k) ≤ q → q < seekF s (clsK k) + wN (clsK k) → (s.take (clsK k)).ws q = 0 := fun q h1 h2 => by
    rw [take_some hr]
    show clr s.ws _ _ q = 0
    unfold clr; rw [if_pos ⟨h1, h2⟩]
  refine ⟨hx, by rw [hc]; exact hfit, ?_, ?_, fun i hi => ?_⟩
  · show upd _ _ _ _ = _
    unfold upd; rw [if_pos (by omega)]
  · show upd _ _ _ _ = _
    unfold upd; rw [if_neg (by omega)]; exact hz _ (by omega) (by omega)
  · show upd _ _ _ _ = _
    unfold upd; rw [if_neg (by omega)]; exact hz _ (by omega) (by omega)
theorem new_apart (hF : Fits s) {j : Int} (he : newE s j = 0) (h : s.S r = true) : newR s j ≠ r := by
  obtain ⟨_, _, hr, hs⟩ := newE_zero he
  intro e
  rw [hs] at hr e
  have := (seekF_is hF hr).2.2.2.2.1
  rw [e, h] at this; cases this
end

/-- A field's error. -/
def fldE (s : ArS) (r i : Int) : Int := if r = 0 then 8 else if i < 0 ∨ wordI s r 0 ≤ i then 6 else 0
def fldV (s : ArS) (r i : Int) : Int := if fldE s r i = 0 then wordI s r (2 + i) else 0
def ArS.setFS (s : ArS) (r i x : Int) : ArS := if fldE s r i = 0 then s.setW r (2 + i) x else s
def scE (r : Int) : Int := if r = 0 then 8 else 0
def scV (s : ArS) (r : Int) : Int := wordI s r 1
def ArS.setSS (s : ArS) (r x : Int) : ArS := s.setW r 1 x
theorem Fits.setFS {s : ArS} (h : Fits s) (r i x : Int) : Fits (s.setFS r i x) := by
  unfold ArS.setFS; split
  · exact h.setW _ _ _
  · exact h
end Go.Proofs.YtidpmplkbgllfaaGreatDoor

namespace Go.Proofs.YtidpmplkbgllfaaGreatDoor
open Go Go.RowKit Go.Shelf Go.MuLone Go.RwLone
set_option linter.unusedSimpArgs false
set_option linter.unusedVariables false

theorem cIndex0 (w : World) : (Instr.index 126 (.agg wordsRow) (.int .i64 0)).run Tryz.prog w = .ok (.int .i64 2) w := by kernel_rfl
theorem cIndex1 (w : World) : (Instr.index 126 (.agg wordsRow) (.int .i64 1)).run Tryz.prog w = .ok (.int .i64 4) w := by kernel_rfl
theorem cIndex2 (w : World) : (Instr.index 126 (.agg wordsRow) (.int .i64 2)).run Tryz.prog w = .ok (.int .i64 8) w := by kernel_rfl

theorem clsN_no (n : Int) (w : World) (h : n < 0 ∨ 6 < n) : Calls Tryz.prog 47 #[.int .i64 n] w fun e w' => e = .returned (.tuple #[.int .i64 0, .bool false]) ∧ w = w' := by
  rcases h with h | h
  · go_enter Tryz.func47, Tryz.ntmps47
    go_wp2
    go_ret2
    exact ⟨rfl, rfl⟩
  · have h' : ¬ n < 0 := by omega
    go_enter Tryz.func47, Tryz.ntmps47
    go_wp2
    go_ret2
    exact ⟨rfl, rfl⟩

set_option maxHeartbeats 1000000 in
theorem clsN_yes (n m : Int) (w : World) (hT : TableAt w) (h0 : 0 ≤ n) (h6 : n ≤ 6) (hm : clsK n = m) : Calls Tryz.prog 47 #[.int .i64 n] w fun e w' => e = .returned (.tuple #[.int .i64 m, .bool true]) ∧ w = w' := by
  obtain ⟨T, fr, hT⟩ := hT
  have HM : Hid (m = clsK n) := hm.symm
  clear hm
  have i0 := cIndex0
  have i1 := cIndex1
  have i2 := cIndex2
  go_enter Tryz.func47, Tryz.ntmps47
  go_wp2_with (refine wpList_load_row rfl 126 _ rfl 0 rfl T wordsRow fr _ hT Tryz.underlying126 rfl (by kernel_rfl) ?_)
  clear hT
  go_loop [13] (fun c => ∃ k : Nat, k ≤ 3 ∧ c = .int .i64 (k : Int) ∧ (0 < k → 1 ≤ n) ∧ (1 < k → 3 ≤ n) ∧ k < 3) (fun c => 3 - (intOf c).toNat)
  case atStart => exact ⟨0, by omega, rfl, by omega, by omega, by omega⟩
  case round =>
    obtain ⟨k, hk, rfl, g1, g2, g3⟩ := hrel
    have hkk : k = 0 ∨ k = 1 ∨ k = 2 := by omega
    rcases hkk with rfl | rfl | rfl
    · clear g1 g2 g3 hk
      by_cases hn : n ≤ 0
      · obtain rfl : m = 0 := by rw [HM.out]; unfold clsK; rw [if_pos hn]
        go_wp2
        go_ret2
        exact ⟨rfl, rfl⟩
      · go_wp2
        go_round
        case rel => exact ⟨1, by omega, rfl, by omega, by omega, by omega⟩
        case measure => simp [intOf]
    · replace g1 := g1 (by omega)
      clear g2 g3 hk
      by_cases hn : n ≤ 2
      · obtain rfl : m = 1 := by rw [HM.out]; unfold clsK; rw [if_neg (by omega), if_pos hn]
        go_wp2
        go_ret2
        exact ⟨rfl, rfl⟩
      · go_wp2
        go_round
        case rel => exact ⟨2, by omega, rfl, by omega, by omega, by omega⟩
        case measure => simp [intOf]
    · replace g1 := g1 (by omega)
      replace g2 := g2 (by omega)
      clear g3 hk
      obtain rfl : m = 2 := by rw [HM.out]; unfold clsK; rw [if_neg (by omega), if_neg (by omega)]
      go_wp2
      go_ret2
      exact ⟨rfl, rfl⟩

section
variable {B : Nat} {X : ArB} {s s' : ArS} {wb wr w' : World}
/-- What a step of a call on an arena leaves. -/
def Step1 (B : Nat) (X : ArB) (s' : ArS) (wb wr w' : World) : Prop := ∃ lo', ArIn B (X.with lo') s' wb w' ∧ ArStep X wr (X.with lo') w'
theorem Step1.ask (h : ArIn B X s wb wr) (hB : Below wr.heap.size wr w') : Step1 B X s wb wr w' := ⟨X.lo, h.ask hB, ArStep.ofBelow X hB h.at_.lt⟩
theorem Step1.same (h : ArIn B X s wb wr) : Step1 B X s wb wr wr := Step1.ask h (Below.refl _ _)
theorem Step1.trans {s1 s2 : ArS} {w1 w2 : World} {lo1 lo2 : Option Nat} (k : ArStep X wr (X.with lo1) w1) (h : ArIn B (X.with lo2) s2 wb w2) (h2 : ArStep (X.with lo1) w1 (X.with lo2) w2) : Step1 B X s2 wb wr w2 := ⟨lo2, h, k.trans h2⟩
theorem Step1.behind {s1 : ArS} {w1 w2 : World} {lo1 : Option Nat} (k : ArStep X wr (X.with lo1) w1) (h : ArIn B (X.with lo1) s1 wb w1) (hB : Below w1.heap.size w1 w2) : Step1 B X s1 wb wr w2 :=
  ⟨lo1, h.ask hB, k.trans (ArStep.ofBelow (X.with lo1) hB h.at_.lt)⟩

theorem ArIn.set (h : ArIn B X s wb wr) (r i x : Int) : Calls Tryz.prog 48 #[.pointer (some ⟨X.a, 0, none⟩), .int .i64 r, .int .i64 i, .int .i64 x] wr fun e w' =>
    e = .returned (.bool (hasWd s r i)) ∧ Step1 B X (s.setW r i x) wb wr w' := (set_any h.at_ h.tabAt r i x).mono fun _ _ hP => h.post hP
theorem ArIn.word (h : ArIn B X s wb wr) (r i v : Int) (hv : wordI s r i = v) : Calls Tryz.prog 49 #[.pointer (some ⟨X.a, 0, none⟩), .int .i64 r, .int .i64 i] wr fun e w' =>
    e = .returned (.int .i64 v) ∧ Below wr.heap.size wr w' := hv ▸ word_any h.at_ h.tabAt r i

set_option maxRecDepth 100000 in
set_option maxHeartbeats 2000000 in
theorem ceNew (h : ArIn B X s wb wr) (k : Int) : Calls Tryz.prog 27 #[.pointer (some ⟨X.a, 0, none⟩), .int .i64 k] wr fun e w' =>
    e = .returned (.tuple #[.int .i64 ((newR s k : Nat) : Int), .int .i64 (newE s k)]) ∧ Step1 B X (s.newS k) wb wr w' := by
  by_cases h1 : k < 0
  · have e1 : newR s k = 0 := by unfold newR; rw [if_pos (.inl h1)]
    have e2 : newE s k = 6 := by unfold newE; rw [if_pos h1]
    have e3 : s.newS k = s := by unfold ArS.newS; rw [if_pos (.inl h1)]
    rw [e1, e2, e3]
    clear e1 e2 e3
    go_enter Tryz.func27, Tryz.ntmps27
    go_wp2_with fail
    go_ret2
    exact ⟨rfl, Step1.same h⟩
  · by_cases h6 : 6 < k
    · have e1 : newR s k = 0 := by unfold newR; rw [if_pos (.inr h6)]
      have e2 : newE s k = 7 := by unfold newE; rw [if_neg h1, if_pos h6]
      have e3 : s.newS k = s := by unfold ArS.newS; rw [if_pos (.inr h6)]
      rw [e1, e2, e3]
      have cC := clsN_no k wr (.inr h6)
      clear e1 e2 e3 h6
      go_enter Tryz.func27, Tryz.ntmps27
      go_wp2_with fail
      refine cC.mono ?_
      rintro e w' ⟨rfl, rfl⟩
      clear cC
      go_wp2_with fail
      go_ret2
      exact ⟨rfl, Step1.same h⟩
    · obtain ⟨c, hc⟩ : ∃ c, clsK k = c := ⟨_, rfl⟩
      have cC := clsN_yes k c wr h.tabAt (by omega) (by omega) hc
      have cT := h.take c
      have HN := Lib.hid (newE_mid (s := s) (k := k) (by omega) (by omega))
      have HR : Hid (newR s k = seekF s c) := Lib.hid (by unfold newR; rw [if_neg (by omega), hc])
      have HS : Hid (s.newS k = (s.take c).setW ((seekF s c : Nat) : Int) 0 k) := Lib.hid (by unfold ArS.newS; rw [if_neg (by omega), hc])
      have HC := Lib.hid hc
      clear hc
      by_cases h0 : seekF s c = 0
      · have e2 : newE s k = 10 := by rw [HN.out, if_pos (by rw [HC.out]; exact h0)]
        have e3 : s.newS k = s := (newE_not h.at_.fits (by rw [e2]; decide)).2
        rw [HR.out, e2, e3]
        rw [h0, take_none h0] at cT
        have hd : decide ((0 : Nat) ≠ 0) = false := rfl
        rw [hd] at cT
        rw [h0]
        clear e2 e3 h0 hd
        go_enter Tryz.func27, Tryz.ntmps27
        go_wp2_with fail
        refine cC.mono ?_
        rintro e w' ⟨rfl, rfl⟩
        clear cC
        go_wp2_with fail
        refine cT.mono ?_
        rintro e w1 ⟨rfl, lo1, h1, k1⟩
        clear cT
        go_wp2_with fail
        go_ret2
        exact ⟨rfl, lo1, h1, k1⟩
      · have e2 : newE s k = 0 := by rw [HN.out, if_neg (by rw [HC.out]; exact h0)]
        rw [HR.out, e2, HS.out]
        rw [decide_eq_true h0] at cT
        clear e2 h0
        generalize seekF s c = x at *
        go_enter Tryz.func27, Tryz.ntmps27
        go_wp2_with fail
        refine cC.mono ?_
        rintro e w' ⟨rfl, rfl⟩
        clear cC
        go_wp2_with fail
        refine cT.mono ?_
        rintro e w1 ⟨rfl, lo1, h1, k1⟩
        clear cT
        have cS := h1.set (x : Int) 0 k
        go_wp2_with fail
        refine cS.mono ?_
        rintro e w2 ⟨rfl, lo2, h2, k2⟩
        clear cS
        go_wp2_with fail
        go_ret2
        exact ⟨rfl, Step1.trans (s1 := s) k1 h2 k2⟩

theorem ceFields0 (h : ArAt wr X s) (hT : TableAt wr) (r v : Int) (hv : wordI s r 0 = v) : Calls Tryz.prog 28 #[.pointer (some ⟨X.a, 0, none⟩), .int .i64 r] wr fun e w' =>
    e = .returned (.int .i64 v) ∧ Below wr.heap.size wr w' := by
  have cW : Calls Tryz.prog 49 #[.pointer (some ⟨X.a, 0, none⟩), .int .i64 r, .int .i64 0] wr fun e w' => e = .returned (.int .i64 v) ∧ Below wr.heap.size wr w' := hv ▸ word_any h hT r 0
  clear hv
  go_enter Tryz.func28, Tryz.ntmps28
  go_wp2_with fail
  refine cW.mono ?_
  rintro e w' ⟨rfl, hB⟩
  clear cW
  go_wp2_with fail
  go_ret
  exact ⟨rfl, hB⟩

set_option maxHeartbeats 1000000 in
theorem ceCheck0 (h : ArAt wr X s) (hT : TableAt wr) (r i : Int) : Calls Tryz.prog 50 #[.pointer (some ⟨X.a, 0, none⟩), .int .i64 r, .int .i64 i] wr fun e w' =>
    e = .returned (.int .i64 (fldE s r i)) ∧ Below wr.heap.size wr w' := by
  by_cases h0 : r = 0
  · have e1 : fldE s r i = 8 := by unfold fldE; rw [if_pos h0]
    rw [e1]
    subst h0
    clear e1
    go_enter Tryz.func50, Tryz.ntmps50
    go_wp2_with fail
    go_ret
    exact ⟨rfl, Below.refl _ _⟩
  · by_cases h1 : i < 0
    · have e1 : fldE s r i = 6 := by unfold fldE; rw [if_neg h0, if_pos (.inl h1)]
      rw [e1]
      clear e1
      go_enter Tryz.func50, Tryz.ntmps50
      go_wp2_with fail
      go_ret
      exact ⟨rfl, Below.refl _ _⟩
    · obtain ⟨n, hn⟩ : ∃ n, wordI s r 0 = n := ⟨_, rfl⟩
      have cF := ceFields0 h hT r n hn
      by_cases h2 : n ≤ i
      · have e1 : fldE s r i = 6 := by unfold fldE; rw [if_neg h0, if_pos (.inr (by rw [hn]; exact h2))]
        rw [e1]
        clear e1 hn
        go_enter Tryz.func50, Tryz.ntmps50
        go_wp2_with fail
        refine cF.mono ?_
        rintro e w1 ⟨rfl, hB⟩
        clear cF
        go_wp2_with fail
        go_ret
        exact ⟨rfl, hB⟩
      · have e1 : fldE s r i = 0 := by unfold fldE; rw [if_neg h0, if_neg (by rw [hn]; omega)]
        rw [e1]
        clear e1 hn
        go_enter Tryz.func50, Tryz.ntmps50
        go_wp2_with fail
        refine cF.mono ?_
        rintro e w1 ⟨rfl, hB⟩
        clear cF
        go_wp2_with fail
        go_ret
        exact ⟨rfl, hB⟩

theorem fldE_zero {r i : Int} (h : fldE s r i = 0) : r ≠ 0 ∧ 0 ≤ i ∧ i < wordI s r 0 := by
  unfold fldE at h
  by_cases h0 : r = 0
  · rw [if_pos h0] at h; omega
  · by_cases h1 : i < 0 ∨ wordI s r 0 ≤ i
    · rw [if_neg h0, if_pos h1] at h; omega
    · exact ⟨h0, by omega, by omega⟩

set_option maxHeartbeats 1000000 in
/-- Field, of an object with no more fields than may be. -/
theorem ceField0 (h : ArAt wr X s) (hT : TableAt wr) (r i : Int) (hk : wordI s r 0 ≤ 6) : Calls Tryz.prog 52 #[.pointer (some ⟨X.a, 0, none⟩), .int .i64 r, .int .i64 i] wr fun e w' =>
    e = .returned (.tuple #[.int .i64 (fldV s r i), .int .i64 (fldE s r i)]) ∧ Below wr.heap.size wr w' := by
  have cC := ceCheck0 h hT r i
  by_cases h0 : fldE s r i = 0
  · have e1 : fldV s r i = wordI s r (2 + i) := by unfold fldV; rw [if_pos h0]
    obtain ⟨_, i0, i1⟩ := fldE_zero h0
    rw [e1]
    rw [h0] at cC ⊢
    have HW := Lib.hid (rfl : wordI s r (2 + i) = wordI s r (2 + i))
    have i6 : i < 6 := by omega
    clear e1 h0 hk i1
    generalize hv : wordI s r (2 + i) = v at *
    have HV := Lib.hid hv
    clear hv HW
    go_enter Tryz.func52, Tryz.ntmps52
    go_wp2_with fail
    refine cC.mono ?_
    rintro e w1 ⟨rfl, hB⟩
    clear cC
    have cW : Calls Tryz.prog 49 #[.pointer (some ⟨X.a, 0, none⟩), .int .i64 r, .int .i64 (2 + i)] w1 fun e w' => e = .returned (.int .i64 v) ∧ Below w1.heap.size w1 w' := HV.out ▸ word_any (h.below hB) (hT.below hB) r (2 + i)
    go_wp2_with fail
    refine cW.mono ?_
    rintro e w2 ⟨rfl, hB2⟩
    clear cW
    go_wp2_with fail
    go_ret2
    exact ⟨rfl, hB.trans (hB2.mono hB.size)⟩
  · have e1 : fldV s r i = 0 := by unfold fldV; rw [if_neg h0]
    rw [e1]
    clear e1 hk
    generalize fldE s r i = n at *
    go_enter Tryz.func52, Tryz.ntmps52
    go_wp2_with fail
    refine cC.mono ?_
    rintro e w1 ⟨rfl, hB⟩
    clear cC
    go_wp2_with fail
    go_ret2
    exact ⟨rfl, hB⟩

theorem ceFields (h : ArIn B X s wb wr) (r v : Int) (hv : wordI s r 0 = v) : Calls Tryz.prog 28 #[.pointer (some ⟨X.a, 0, none⟩), .int .i64 r] wr fun e w' =>
    e = .returned (.int .i64 v) ∧ Below wr.heap.size wr w' := ceFields0 h.at_ h.tabAt r v hv
theorem ceCheck (h : ArIn B X s wb wr) (r i : Int) : Calls Tryz.prog 50 #[.pointer (some ⟨X.a, 0, none⟩), .int .i64 r, .int .i64 i] wr fun e w' =>
    e = .returned (.int .i64 (fldE s r i)) ∧ Below wr.heap.size wr w' := ceCheck0 h.at_ h.tabAt r i
theorem ceField (h : ArIn B X s wb wr) (r i : Int) (hk : wordI s r 0 ≤ 6) : Calls Tryz.prog 52 #[.pointer (some ⟨X.a, 0, none⟩), .int .i64 r, .int .i64 i] wr fun e w' =>
    e = .returned (.tuple #[.int .i64 (fldV s r i), .int .i64 (fldE s r i)]) ∧ Below wr.heap.size wr w' := ceField0 h.at_ h.tabAt r i hk

set_option maxHeartbeats 1000000 in
theorem ceSetField (h : ArIn B X s wb wr) (r i x : Int) (hk : wordI s r 0 ≤ 6) : Calls Tryz.prog 29 #[.pointer (some ⟨X.a, 0, none⟩), .int .i64 r, .int .i64 i, .int .i64 x] wr fun e w' =>
    e = .returned (.int .i64 (fldE s r i)) ∧ Step1 B X (s.setFS r i x) wb wr w' := by
  have cC := ceCheck h r i
  by_cases h0 : fldE s r i = 0
  · have e1 : s.setFS r i x = s.setW r (2 + i) x := by unfold ArS.setFS; rw [if_pos h0]
    obtain ⟨_, i0, i1⟩ := fldE_zero h0
    rw [e1]
    rw [h0] at cC ⊢
    have i6 : i < 6 := by omega
    clear e1 h0 hk i1
    go_enter Tryz.func29, Tryz.ntmps29
    go_wp2_with fail
    refine cC.mono ?_
    rintro e w1 ⟨rfl, hB⟩
    clear cC
    have cS := (h.ask hB).set r (2 + i) x
    go_wp2_with fail
    refine cS.mono ?_
    rintro e w2 ⟨rfl, lo2, h2, k2⟩
    clear cS
    go_wp2_with fail
    go_ret
    exact ⟨rfl, lo2, h2, (ArStep.ofBelow X hB h.at_.lt).trans k2⟩
  · have e1 : s.setFS r i x = s := by unfold ArS.setFS; rw [if_neg h0]
    rw [e1]
    clear e1 hk
    generalize fldE s r i = n at *
    go_enter Tryz.func29, Tryz.ntmps29
    go_wp2_with fail
    refine cC.mono ?_
    rintro e w1 ⟨rfl, hB⟩
    clear cC
    go_wp2_with fail
    go_ret
    exact ⟨rfl, Step1.ask h hB⟩

end
end Go.Proofs.YtidpmplkbgllfaaGreatDoor

namespace Go.Proofs.YtidpmplkbgllfaaGreatDoor
open Go Go.RowKit Go.Shelf Go.MuLone Go.RwLone
set_option linter.unusedSimpArgs false
set_option linter.unusedVariables false
attribute [local go_sem] Oper.semAt_some

theorem ptsfn_any (a : Nat) (r : Int) (w : World) :
    Calls Tryz.prog 30 #[.pointer (some ⟨a, 0, none⟩), .int .i64 r] w fun e w' => e = .returned (.func (.func 51) #[] #[.pointer (some ⟨w.heap.size, 0, none⟩), .pointer (some ⟨w.heap.size + 1, 0, none⟩)]) ∧ (w.alloc (.cells #[.pointer (some ⟨a, 0, none⟩)] 27)).alloc (.cells #[.int .i64 r] 41) = w' := by
  go_enter Tryz.func30, Tryz.ntmps30
  go_wp2_with fail
  go_ret
  exact ⟨rfl, rfl⟩

/-- What a round over an object's fields keeps: the arena, the closure's boxes, the classes' table. -/
def KpPt (X : ArB) (B : Nat) (W W' : World) : Prop := KpAr X B W W' ∧ W'.heap[(0 : Nat)]? = W.heap[(0 : Nat)]?
theorem KpPt.trans {X : ArB} {B : Nat} {A C D : World} (h : KpPt X B A C) (k : KpPt X B C D) : KpPt X B A D := ⟨h.1.trans k.1, k.2.trans h.2⟩
theorem KpPt.putObj {X : ArB} {B : Nat} {n0 : Nat} (hX : ∀ k, X.has k → k < n0) (hB : B + 1 < n0) (hg : (0 : Nat) < n0) (W : World) (l : Nat) (o : Obj) (h : n0 ≤ l) : KpPt X B W (W.putObj l o) :=
  ⟨KpAr.putObj hX hB W l o h, World.putObj_heap_other (by omega)⟩
theorem KpPt.ofBelow {X : ArB} {B : Nat} {n0 : Nat} {W W' : World} (h : Below n0 W W') (hX : ∀ k, X.has k → k < n0) (hB : B + 1 < n0) (hg : (0 : Nat) < n0) : KpPt X B W W' :=
  ⟨KpAr.ofBelow h hX hB, h.block _ hg⟩

def nz (F : Nat → Int) (j : Nat) : Bool := !decide (F j = 0)
def ptArgs (F : Nat → Int) (x : Fin 6) : Array Value := #[.int .i64 (F x.val)]
/-- What is read of an object, or of none: k fields, which are F. -/
structure Reads (s : ArS) (r : Int) (k : Nat) (F : Nat → Int) : Prop where
  n : wordI s r 0 = (k : Int)
  k6 : k ≤ 6
  at_ : ∀ i : Nat, i < k → fldV s r (i : Int) = F i
theorem ObjAt.fldE {s : ArS} {r k : Nat} {v : Int} {F : Nat → Int} (h : ObjAt s r k v F) (hF : Fits s) {i : Nat} (hi : i < k) : fldE s (r : Int) (i : Int) = 0 := by
  unfold Go.Proofs.YtidpmplkbgllfaaGreatDoor.fldE
  rw [if_neg (by have := (h.pos hF).1; omega), h.fields hF, if_neg (by omega)]
theorem ObjAt.reads {s : ArS} {r k : Nat} {v : Int} {F : Nat → Int} (h : ObjAt s r k v F) (hF : Fits s) : Reads s (r : Int) k F :=
  ⟨h.fields hF, h.k6 hF, fun i hi => by unfold fldV; rw [if_pos (h.fldE hF hi)]; exact h.field hF hi⟩
theorem reads_nil {s : ArS} (hF : Fits s) : Reads s 0 0 (fun _ => 0) := ⟨wordI_nil hF 0, by omega, fun i hi => absurd hi (by omega)⟩

/-- What holds between two fields. -/
def PtRel (X : ArB) (s : ArS) (B k : Nat) (r : Int) (F : Nat → Int) (J : List (Fin 6) → World → Prop) (v10 : Value) (W : World) : Prop :=
  ArAt W X s ∧ TableAt W ∧ W.cell? ⟨B, 0, none⟩ = some (.pointer (some ⟨X.a, 0, none⟩)) ∧ W.cell? ⟨B + 1, 0, none⟩ = some (.int .i64 r) ∧
    ∃ j : Nat, j ≤ k ∧ v10 = .int .i64 (j : Int) ∧ ∃ q : List (Fin 6), q.map Fin.val = elems (nz F) j ∧ J q W

theorem ArAt.sameA {w w' : World} {X : ArB} {s : ArS} (h : ArAt w X s) (hT : TableAt w) {B : Nat} (k : KpPt X B w w') : ArAt w' X s ∧ TableAt w' := by
  refine ⟨h.same k.1.1, ?_⟩
  obtain ⟨T, fr, hT⟩ := hT
  exact ⟨T, fr, k.2.trans hT⟩

set_option maxRecDepth 100000 in
set_option maxHeartbeats 4000000 in
theorem pts1_in (n : Nat) {X : ArB} {s : ArS} (B l k : Nat) (r : Int) (F : Nat → Int) (hO : Reads s r k F) (J Jx : List (Fin 6) → World → Prop) (W : World) (hJa : AbidesFrom W.heap.size J)
    (hY : ∀ pre (x : Fin 6) W1, J pre W1 → pre.length < 6 → YieldAt Fence.wide (n - 1) Tryz.prog l (ptArgs F x) W1 fun e W' =>
      (e = .returned (.bool true) ∧ J (pre ++ [x]) W' ∧ KpPt X B W1 W') ∨ (e = .returned (.bool false) ∧ Jx (pre ++ [x]) W'))
    (hA : ArAt W X s) (hT : TableAt W) (hB0 : W.cell? ⟨B, 0, none⟩ = some (.pointer (some ⟨X.a, 0, none⟩))) (hB1 : W.cell? ⟨B + 1, 0, none⟩ = some (.int .i64 r)) (h0 : J [] W) :
    CallsIn Fence.wide n Tryz.prog 51 #[.func (.yield l) #[] #[], .pointer (some ⟨B, 0, none⟩), .pointer (some ⟨B + 1, 0, none⟩)] W fun e W' => (∃ v, e = .returned v) ∧
      ((∃ xs : List (Fin 6), xs.map Fin.val = elems (nz F) k ∧ J xs W') ∨ (∃ pre : List (Fin 6), (∃ j, j < k ∧ nz F j = true ∧ pre.map Fin.val = elems (nz F) (j + 1)) ∧ Jx pre W')) := by
  have hk6 := hO.k6
  refine callsIn_of_wp Tryz.func51 rfl (by trivial) ?_ rfl
  simp only [Tryz.ntmps51, List.size_toArray, List.length_cons, List.length_nil, Nat.reduceAdd, Nat.reduceSub, Array.replicate_succ, Array.replicate_zero, List.push_toArray, List.append_toArray, List.nil_append, List.cons_append]
  have cF := ceFields0 hA hT r (k : Int) hO.n
  gi_wp2_with fail
  refine ⟨trivial, fun h => (by cases h), ?_⟩
  refine (callsIn_wide.2 cF).mono ?_
  rintro e W0 ⟨rfl, hBl⟩
  have hA' := hA.below hBl
  have hT' := hT.below hBl
  have hB0' : W0.cell? ⟨B, 0, none⟩ = some (.pointer (some ⟨X.a, 0, none⟩)) := (hBl.cell (p := ⟨B, 0, none⟩) (World.block_lt_of_cell? W _ hB0)).trans hB0
  have hB1' : W0.cell? ⟨B + 1, 0, none⟩ = some (.int .i64 r) := (hBl.cell (p := ⟨B + 1, 0, none⟩) (World.block_lt_of_cell? W _ hB1)).trans hB1
  have h0' := abides_below hJa h0 hBl
  clear cF hA hT hB0 hB1 h0 hBl
  gi_wp2_with fail
  gi_loopw [10] (fun v10 wr => PtRel X s B k r F J v10 wr) (fun v10 _ => k - (intOf v10).toNat)
  case atStart => exact ⟨hA', hT', hB0', hB1', 0, by omega, rfl, [], rfl, h0'⟩
  case round =>
    clear hA' hT' hB0' hB1' h0'
    obtain ⟨hA, hT, hB0, hB1, j, hj, rfl, q, hq, hJ⟩ := hrel
    have HQ := Lib.hid hq
    clear hq
    by_cases hlt : j < k
    · have hJ1 : (j : Int) < (k : Int) := by omega
      have cR := ceField0 hA hT r (j : Int) (by rw [hO.n]; omega)
      rw [hO.at_ j hlt] at cR
      obtain ⟨y, hy⟩ : ∃ y, F j = y := ⟨_, rfl⟩
      rw [hy] at cR
      have HY := Lib.hid hy
      clear hy
      generalize fldE s r (j : Int) = e0 at *
      gi_wp2_with fail
      refine ⟨trivial, fun h => (by cases h), ?_⟩
      refine (callsIn_wide.2 cR).mono ?_
      rintro e w4 ⟨rfl, hBl⟩
      have hA4 := hA.below hBl
      have hT4 := hT.below hBl
      have hB04 : w4.cell? ⟨B, 0, none⟩ = some (.pointer (some ⟨X.a, 0, none⟩)) := (hBl.cell (p := ⟨B, 0, none⟩) (World.block_lt_of_cell? wr _ hB0)).trans hB0
      have hB14 : w4.cell? ⟨B + 1, 0, none⟩ = some (.int .i64 r) := (hBl.cell (p := ⟨B + 1, 0, none⟩) (World.block_lt_of_cell? wr _ hB1)).trans hB1
      have hJ4 := abides_below hJa hJ hBl
      clear cR hA hT hB0 hB1 hJ
      by_cases hy0 : y = 0
      · have hnz : nz F j = false := by unfold nz; rw [HY.out, hy0]; rfl
        have HNZ := Lib.hid hnz
        subst hy0
        clear hnz
        gi_wp2_with fail
        refine ⟨fun f h => (by cases h), ?_⟩
        gi_wp2_with fail
        go_roundw
        case rel => exact ⟨hA4, hT4, hB04, hB14, j + 1, by omega, by go_num, q, by rw [elems_no (T := nz F) HNZ.out]; exact HQ.out, hJ4⟩
        case measure => simp [intOf]; omega
      · have hnz : nz F j = true := by unfold nz; rw [HY.out, decide_eq_false hy0]; rfl
        have HNZ := Lib.hid hnz
        have hlen : q.length < 6 := by
          have h1 := congrArg List.length HQ.out
          rw [List.length_map] at h1
          have h2 := elems_length (nz F) j
          omega
        have hY' := hY q ⟨j, by omega⟩ w4 hJ4 hlen
        unfold ptArgs at hY'
        rw [show F (⟨j, by omega⟩ : Fin 6).val = y from HY.out] at hY'
        obtain ⟨fn, tmps, assign, body, hy, hY2⟩ := hY'
        clear hJ4 hBl hnz
        gi_wp2_with fail
        refine ⟨fun h => (by cases h), ?_⟩
        refine hY2.mono ?_
        rintro e W3 (⟨rfl, hJ3, hk3⟩ | ⟨rfl, hJx3⟩)
        · obtain ⟨hA3, hT3⟩ := hA4.sameA hT4 hk3
          have hB03 : W3.cell? ⟨B, 0, none⟩ = some (.pointer (some ⟨X.a, 0, none⟩)) := (World.cell?_of_block (w := w4) (a := ⟨B, 0, none⟩) hk3.1.2.1).trans hB04
          have hB13 : W3.cell? ⟨B + 1, 0, none⟩ = some (.int .i64 r) := (World.cell?_of_block (w := w4) (a := ⟨B + 1, 0, none⟩) hk3.1.2.2).trans hB14
          clear hA4 hT4 hB04 hB14 hk3 hy hY2
          gi_wp2_with fail
          go_roundw
          case rel => exact ⟨hA3, hT3, hB03, hB13, j + 1, by omega, by go_num, _, by rw [elems_yes (T := nz F) HNZ.out, List.map_append, HQ.out]; rfl, hJ3⟩
          case measure => simp [intOf]; omega
        · gi_wp2_with fail
          refine bodyPost_ret (results_none rfl _ _ _) rfl ?_
          exact ⟨⟨_, rfl⟩, .inr ⟨_, ⟨j, hlt, HNZ.out, by rw [elems_yes (T := nz F) HNZ.out, List.map_append, HQ.out]; rfl⟩, hJx3⟩⟩
    · obtain rfl : j = k := by omega
      gi_wp2_with fail
      go_end0
      exact ⟨⟨_, rfl⟩, .inl ⟨q, HQ.out, hJ⟩⟩

/-- The iterator over an object's fields. -/
theorem pts_stops (n : Nat) {X : ArB} {s : ArS} (B k : Nat) (r : Int) (F : Nat → Int) (hO : Reads s r k F) (w : World) (hA : ArAt w X s) (hT : TableAt w) (hB0 : w.cell? ⟨B, 0, none⟩ = some (.pointer (some ⟨X.a, 0, none⟩))) (hB1 : w.cell? ⟨B + 1, 0, none⟩ = some (.int .i64 r)) :
    SeqStopsK Fence.wide n Tryz.prog 51 #[.pointer (some ⟨B, 0, none⟩), .pointer (some ⟨B + 1, 0, none⟩)] (ptArgs F) (KpPt X B)
      (fun xs => xs.map Fin.val = elems (nz F) k) (fun pre => ∃ j, j < k ∧ nz F j = true ∧ pre.map Fin.val = elems (nz F) (j + 1)) 6 w := fun l J Jx W hW hJa _ hY h0 =>
  pts1_in n B l k r F hO J Jx W hJa hY (hA.below hW) (hT.below hW) ((hW.cell (p := ⟨B, 0, none⟩) (World.block_lt_of_cell? w _ hB0)).trans hB0) ((hW.cell (p := ⟨B + 1, 0, none⟩) (World.block_lt_of_cell? w _ hB1)).trans hB1) h0
end Go.Proofs.YtidpmplkbgllfaaGreatDoor

namespace Go.Proofs.YtidpmplkbgllfaaGreatDoor
open Go Go.RowKit Go.Shelf Go.MuLone Go.RwLone
set_option linter.unusedSimpArgs false
set_option linter.unusedVariables false

/-- The first k cells of class c are taken. -/
structure Filled (c : Int) (W C k : Nat) (s : ArS) : Prop where
  cls : ∀ p, p < s.P → s.cls p = if p * C < k then c else -1
  set : ∀ r, s.S r = true ↔ 1 ≤ r ∧ r ≤ 32 * s.P ∧ (r - 1) % 32 % W = 0 ∧ (r - 1) / 32 * C + (r - 1) % 32 / W < k

structure WC (c : Int) (W C : Nat) : Prop where
  ok : okC c = true
  w : wN c = W
  is : W = 2 ∧ C = 16 ∨ W = 4 ∧ C = 8 ∨ W = 8 ∧ C = 4
theorem wc_of {c : Int} (h : okC c = true) : ∃ W C, WC c W C ∧ cellsOfC c = C := by
  rcases okC_cases h with rfl | rfl | rfl
  · exact ⟨2, 16, ⟨h, rfl, by omega⟩, rfl⟩
  · exact ⟨4, 8, ⟨h, rfl, by omega⟩, rfl⟩
  · exact ⟨8, 4, ⟨h, rfl, by omega⟩, rfl⟩

theorem filled_new (c : Int) (W C P : Nat) : Filled c W C 0 (.new P) :=
  ⟨fun p _ => by simp [ArS.new], fun r => by simp [ArS.new]⟩

theorem filled_seek {c : Int} {W C k : Nat} {s : ArS} (hw : WC c W C) (h : Filled c W C k s) (hk : k < s.P * C) : seekF s c = 32 * (k / C) + k % C * W + 1 := by
  obtain ⟨hok, hW, his⟩ := hw
  have hcne : c ≠ -1 := by rcases okC_cases hok with e | e | e <;> omega
  have hfree : ∀ r, free1 s c r = true → k ≤ (r - 1) / 32 * C + (r - 1) % 32 / W ∧ (r - 1) / 32 * C < k ∧ 1 ≤ r := fun r hr => by
    obtain ⟨a1, a2, a3, a4, a5⟩ := free1_open hr
    rw [hW] at a4
    have a6 := h.cls (pg r) (by unfold pg; omega)
    rw [a3] at a6
    have a7 : pg r * C < k := by
      by_cases x : pg r * C < k
      · exact x
      · rw [if_neg x] at a6; exact absurd a6 hcne
    refine ⟨?_, a7, a1⟩
    by_cases x : (r - 1) / 32 * C + (r - 1) % 32 / W < k
    · have := (h.set r).2 ⟨a1, a2, a4, x⟩
      rw [a5] at this; cases this
    · omega
  by_cases h0 : k % C = 0
  · have hq : k / C < s.P := by rcases his with ⟨rfl, rfl⟩ | ⟨rfl, rfl⟩ | ⟨rfl, rfl⟩ <;> omega
    have e := seekF_page (s := s) hok (fun r hr => by
      cases x : free1 s c r with
      | false => rfl
      | true =>
        obtain ⟨b1, b2, b3⟩ := hfree r x
        rcases his with ⟨rfl, rfl⟩ | ⟨rfl, rfl⟩ | ⟨rfl, rfl⟩ <;> omega)
    rw [e, h0]
    have hc1 : s.cls (k / C) = -1 := by
      rw [h.cls _ hq, if_neg (by rcases his with ⟨rfl, rfl⟩ | ⟨rfl, rfl⟩ | ⟨rfl, rfl⟩ <;> omega)]
    rw [spare_first hq hc1 fun q' hq' => by
      rw [h.cls _ (by omega), if_pos (by rcases his with ⟨rfl, rfl⟩ | ⟨rfl, rfl⟩ | ⟨rfl, rfl⟩ <;> omega)]
      exact hcne]
    omega
  · refine seekF_cell hok (free1_mk (by omega) ?_ ?_ ?_ ?_) fun r' hr' => ?_
    · rcases his with ⟨rfl, rfl⟩ | ⟨rfl, rfl⟩ | ⟨rfl, rfl⟩ <;> omega
    · have e : pg (32 * (k / C) + k % C * W + 1) = k / C := by unfold pg; rcases his with ⟨rfl, rfl⟩ | ⟨rfl, rfl⟩ | ⟨rfl, rfl⟩ <;> omega
      rw [e, h.cls _ (by rcases his with ⟨rfl, rfl⟩ | ⟨rfl, rfl⟩ | ⟨rfl, rfl⟩ <;> omega), if_pos (by rcases his with ⟨rfl, rfl⟩ | ⟨rfl, rfl⟩ | ⟨rfl, rfl⟩ <;> omega)]
    · rw [hW]; rcases his with ⟨rfl, rfl⟩ | ⟨rfl, rfl⟩ | ⟨rfl, rfl⟩ <;> omega
    · cases x : s.S (32 * (k / C) + k % C * W + 1) with
      | false => rfl
      | true =>
        have := ((h.set _).1 x).2.2.2
        rcases his with ⟨rfl, rfl⟩ | ⟨rfl, rfl⟩ | ⟨rfl, rfl⟩ <;> omega
    · cases x : free1 s c r' with
      | false => rfl
      | true =>
        obtain ⟨b1, b2, b3⟩ := hfree r' x
        have b4 := (free1_open x).2.2.2.1
        rw [hW] at b4
        rcases his with ⟨rfl, rfl⟩ | ⟨rfl, rfl⟩ | ⟨rfl, rfl⟩ <;> omega

theorem filled_end {c : Int} {W C : Nat} {s : ArS} (hw : WC c W C) (h : Filled c W C (s.P * C) s) : seekF s c = 0 ∧ ∀ p, p < s.P → s.cls p = c := by
  obtain ⟨hok, hW, his⟩ := hw
  have hcne : c ≠ -1 := by rcases okC_cases hok with e | e | e <;> omega
  have hall : ∀ p, p < s.P → s.cls p = c := fun p hp => by
    rw [h.cls p hp, if_pos (by rcases his with ⟨rfl, rfl⟩ | ⟨rfl, rfl⟩ | ⟨rfl, rfl⟩ <;> omega)]
  refine ⟨?_, hall⟩
  rw [seekF_page hok fun r hr => by
    cases x : free1 s c r with
    | false => rfl
    | true =>
      obtain ⟨a1, a2, a3, a4, a5⟩ := free1_open x
      rw [hW] at a4
      have := (h.set r).2 ⟨a1, a2, a4, by rcases his with ⟨rfl, rfl⟩ | ⟨rfl, rfl⟩ | ⟨rfl, rfl⟩ <;> omega⟩
      rw [a5] at this; cases this]
  exact spare_none fun q hq => by rw [hall q hq]; exact hcne

theorem filled_take {c : Int} {W C k : Nat} {s : ArS} (hw : WC c W C) (h : Filled c W C k s) (hk : k < s.P * C) : Filled c W C (k + 1) (s.take c) := by
  have e := filled_seek hw h hk
  have hne : seekF s c ≠ 0 := by omega
  rw [take_some hne, e]
  obtain ⟨hok, hW, his⟩ := hw
  have ep : pg (32 * (k / C) + k % C * W + 1) = k / C := by unfold pg; rcases his with ⟨rfl, rfl⟩ | ⟨rfl, rfl⟩ | ⟨rfl, rfl⟩ <;> omega
  refine ⟨fun p hp => ?_, fun r => ?_⟩
  · show upd s.cls (pg _) c p = _
    rw [ep]
    unfold upd
    by_cases x : p = k / C
    · rw [if_pos x, if_pos (by subst x; rcases his with ⟨rfl, rfl⟩ | ⟨rfl, rfl⟩ | ⟨rfl, rfl⟩ <;> omega)]
    · rw [if_neg x, h.cls p hp]
      have : p * C < k ↔ p * C < k + 1 := by rcases his with ⟨rfl, rfl⟩ | ⟨rfl, rfl⟩ | ⟨rfl, rfl⟩ <;> omega
      simp only [this]
  · show putN s.S _ r = true ↔ _
    have hput : putN s.S (32 * (k / C) + k % C * W + 1) r = true ↔ s.S r = true ∨ r = 32 * (k / C) + k % C * W + 1 := by simp [putN]
    rw [hput, h.set r]
    constructor
    · rintro (⟨a1, a2, a3, a4⟩ | rfl)
      · exact ⟨a1, a2, a3, by omega⟩
      · refine ⟨by omega, ?_, ?_, ?_⟩
        · show _ ≤ 32 * s.P
          rcases his with ⟨rfl, rfl⟩ | ⟨rfl, rfl⟩ | ⟨rfl, rfl⟩ <;> omega
        · rcases his with ⟨rfl, rfl⟩ | ⟨rfl, rfl⟩ | ⟨rfl, rfl⟩ <;> omega
        · rcases his with ⟨rfl, rfl⟩ | ⟨rfl, rfl⟩ | ⟨rfl, rfl⟩ <;> omega
    · rintro ⟨a1, a2, a3, a4⟩
      by_cases x : (r - 1) / 32 * C + (r - 1) % 32 / W < k
      · exact .inl ⟨a1, a2, a3, x⟩
      · right
        rcases his with ⟨rfl, rfl⟩ | ⟨rfl, rfl⟩ | ⟨rfl, rfl⟩ <;> omega
theorem freeTo_new (P : Nat) : freeTo (.new P) P = P := by
  unfold freeTo
  rw [List.countP_eq_length.2 (fun q _ => by simp [ArS.new]), List.length_range]
theorem freeTo_none {s : ArS} (h : ∀ p, p < s.P → s.cls p ≠ -1) : freeTo s s.P = 0 := by
  unfold freeTo
  rw [List.countP_eq_zero]
  intro q hq
  simp at hq
  simp [h q hq]
theorem freeTo_all {s : ArS} (h : ∀ p, p < s.P → s.cls p = -1) : freeTo s s.P = s.P := by
  unfold freeTo
  rw [List.countP_eq_length.2 (fun q hq => by simp at hq; simp [h q hq]), List.length_range]
end Go.Proofs.YtidpmplkbgllfaaGreatDoor

namespace Go.Proofs.YtidpmplkbgllfaaGreatDoor
open Go Go.RowKit Go.Shelf Go.MuLone Go.RwLone
set_option linter.unusedSimpArgs false
set_option linter.unusedVariables false

section
variable {s : ArS} {r k : Nat} {v : Int} {F : Nat → Int}
theorem ObjAt.fldNo (h : ObjAt s r k v F) (hF : Fits s) {i : Int} (hi : i < 0 ∨ (k : Int) ≤ i) : Go.Proofs.YtidpmplkbgllfaaGreatDoor.fldE s (r : Int) i = 6 := by
  unfold Go.Proofs.YtidpmplkbgllfaaGreatDoor.fldE
  rw [if_neg (by have := (h.pos hF).1; omega), h.fields hF, if_pos (by omega)]
theorem fldE_nil (i : Int) : Go.Proofs.YtidpmplkbgllfaaGreatDoor.fldE s 0 i = 8 := by unfold Go.Proofs.YtidpmplkbgllfaaGreatDoor.fldE; rw [if_pos rfl]
theorem fldV_not {r i : Int} (h : Go.Proofs.YtidpmplkbgllfaaGreatDoor.fldE s r i ≠ 0) : fldV s r i = 0 := by unfold fldV; rw [if_neg h]
theorem ObjAt.le6 (h : ObjAt s r k v F) (hF : Fits s) : wordI s (r : Int) 0 ≤ 6 := by rw [h.fields hF]; have := h.k6 hF; omega
theorem ObjAt.scE (h : ObjAt s r k v F) (hF : Fits s) : Go.Proofs.YtidpmplkbgllfaaGreatDoor.scE (r : Int) = 0 := by unfold Go.Proofs.YtidpmplkbgllfaaGreatDoor.scE; rw [if_neg (by have := (h.pos hF).1; omega)]

/-- A class with a free page has room. -/
theorem room_free {c : Int} (hc : okC c = true) (h : 0 < freeTo s s.P) : seekF s c ≠ 0 := by
  rcases seekF_cases s c with ⟨h0, _⟩ | ⟨_, ⟨h1, _⟩ | ⟨_, h1⟩⟩
  · rw [hc] at h0; cases h0
  · have := (free1_open h1).1; omega
  · rcases spare_cases s s.P with ⟨q, _, _, _, h4⟩ | ⟨h2, _⟩
    · omega
    · rw [freeTo_none h2] at h; omega
theorem freeTo_upd {q : Nat} {c : Int} : ∀ p, freeTo s p ≤ freeTo { s with cls := upd s.cls q c } p + (if q < p then 1 else 0)
  | 0 => by simp [freeTo]
  | p + 1 => by
    have ih := freeTo_upd (q := q) (c := c) p
    rw [freeTo_succ, freeTo_succ]
    show _ ≤ _ + (if upd s.cls q c p = -1 then 1 else 0) + _
    generalize freeTo { s with cls := upd s.cls q c } p = m at *
    by_cases e : p = q
    · subst e
      rw [if_neg (Nat.lt_irrefl _)] at ih
      rw [if_pos (Nat.lt_succ_self p)]
      split <;> split <;> omega
    · have hu : upd s.cls q c p = s.cls p := by unfold upd; rw [if_neg e]
      rw [hu]
      by_cases x : q < p
      · rw [if_pos x] at ih
        rw [if_pos (Nat.lt_succ_of_lt x)]
        omega
      · rw [if_neg x] at ih
        rw [if_neg (by omega : ¬ q < p + 1)]
        omega
theorem free_take (c : Int) : freeTo s s.P ≤ freeTo (s.take c) (s.take c).P + 1 := by
  by_cases h0 : seekF s c = 0
  · rw [take_none h0]; omega
  · rw [take_some h0]
    have := freeTo_upd (s := s) (q := pg (seekF s c)) (c := c) s.P
    have e : freeTo { s with cls := upd s.cls (pg (seekF s c)) c, S := putN s.S (seekF s c), ws := clr s.ws (seekF s c) (wN c) } s.P = freeTo { s with cls := upd s.cls (pg (seekF s c)) c } s.P := rfl
    show _ ≤ freeTo _ s.P + 1
    rw [e]
    split at this <;> omega
theorem freeTo_setW (r i x : Int) (p : Nat) : freeTo (s.setW r i x) p = freeTo s p := by
  unfold freeTo; rw [setW_cls]
theorem free_new (k : Int) : freeTo s s.P ≤ freeTo (s.newS k) (s.newS k).P + 1 := by
  unfold ArS.newS
  split
  · omega
  · rw [setW_P, freeTo_setW]; exact free_take _
theorem new_room (hk0 : 0 ≤ v) (hk : v ≤ 6) (h : 0 < freeTo s s.P) : newE s v = 0 := by
  rw [newE_mid hk0 hk, if_neg (room_free (clsK_ok _) h)]
/-- An arena of free pages alone. -/
theorem seek_empty {c : Int} (hc : okC c = true) (hP : 0 < s.P) (h : ∀ p, p < s.P → s.cls p = -1) : seekF s c = 1 := by
  have hcne : c ≠ -1 := by rcases okC_cases hc with e | e | e <;> omega
  rw [seekF_page hc fun r hr => by
    cases x : free1 s c r with
    | false => rfl
    | true =>
      obtain ⟨a1, a2, a3, _, _⟩ := free1_open x
      rw [h (pg r) (by unfold pg; omega)] at a3
      exact absurd a3.symm hcne]
  exact spare_first hP (h 0 hP) (fun q hq => absurd hq (by omega))
theorem newS_S (he : newE s v = 0) (q : Nat) : (s.newS v).S q = (s.S q || decide (q = newR s v)) := by
  obtain ⟨a1, a2, hr, hs⟩ := newE_zero he
  unfold ArS.newS
  rw [if_neg (by omega), setW_S, hs, take_S (by rw [← hs]; exact hr)]
theorem newS_mate (hF : Fits s) (he : newE s v = 0) {q : Nat} (hq : s.S q = true) : (s.newS v).cls (pg q) = s.cls (pg q) := by
  obtain ⟨a1, a2, hr, hs⟩ := newE_zero he
  unfold ArS.newS
  rw [if_neg (by omega), setW_cls, take_mate hF (by rw [← hs]; exact hr) hq]
theorem newS_cls (he : newE s v = 0) : (s.newS v).cls (pg (newR s v)) = clsK v := by
  obtain ⟨a1, a2, hr, hs⟩ := newE_zero he
  unfold ArS.newS
  rw [if_neg (by omega), setW_cls, hs, take_cls2 (by rw [← hs]; exact hr)]
end

section
variable {B : Nat} {X : ArB} {s s' : ArS} {wb wr w' : World} {r k : Nat} {v : Int} {F : Nat → Int}
theorem ceNewOk (h : ArIn B X s wb wr) (k : Int) (r : Nat) (hr : newR s k = r) (he : newE s k = 0) : Calls Tryz.prog 27 #[.pointer (some ⟨X.a, 0, none⟩), .int .i64 k] wr fun e w' =>
    e = .returned (.tuple #[.int .i64 (r : Int), .int .i64 0]) ∧ Step1 B X (s.newS k) wb wr w' := by
  have := ceNew h k
  rw [hr, he] at this; exact this
theorem ceFieldsOk (h : ArIn B X s wb wr) (hO : ObjAt s r k v F) : Calls Tryz.prog 28 #[.pointer (some ⟨X.a, 0, none⟩), .int .i64 (r : Int)] wr fun e w' =>
    e = .returned (.int .i64 (k : Int)) ∧ Below wr.heap.size wr w' := ceFields h _ _ (hO.fields h.at_.fits)
theorem ceFieldOk (h : ArIn B X s wb wr) (hO : ObjAt s r k v F) (i : Nat) (hi : i < k) (y : Int) (hy : F i = y) : Calls Tryz.prog 52 #[.pointer (some ⟨X.a, 0, none⟩), .int .i64 (r : Int), .int .i64 (i : Int)] wr fun e w' =>
    e = .returned (.tuple #[.int .i64 y, .int .i64 0]) ∧ Below wr.heap.size wr w' := by
  have := ceField h (r : Int) (i : Int) (hO.le6 h.at_.fits)
  rw [(hO.reads h.at_.fits).at_ i hi, hO.fldE h.at_.fits hi, hy] at this; exact this
theorem ceFieldNo (h : ArIn B X s wb wr) (hO : ObjAt s r k v F) (i : Int) (hi : i < 0 ∨ (k : Int) ≤ i) : Calls Tryz.prog 52 #[.pointer (some ⟨X.a, 0, none⟩), .int .i64 (r : Int), .int .i64 i] wr fun e w' =>
    e = .returned (.tuple #[.int .i64 0, .int .i64 6]) ∧ Below wr.heap.size wr w' := by
  have := ceField h (r : Int) i (hO.le6 h.at_.fits)
  have e1 := hO.fldNo h.at_.fits hi
  rw [fldV_not (by rw [e1]; decide), e1] at this; exact this
theorem ceFieldNil (h : ArIn B X s wb wr) (i : Int) : Calls Tryz.prog 52 #[.pointer (some ⟨X.a, 0, none⟩), .int .i64 0, .int .i64 i] wr fun e w' =>
    e = .returned (.tuple #[.int .i64 0, .int .i64 8]) ∧ Below wr.heap.size wr w' := by
  have := ceField h 0 i (by rw [wordI_nil h.at_.fits]; decide)
  rw [fldV_not (by rw [fldE_nil]; decide), fldE_nil] at this; exact this
theorem ceSetFieldOk (h : ArIn B X s wb wr) (hO : ObjAt s r k v F) (i : Nat) (hi : i < k) (x : Int) : Calls Tryz.prog 29 #[.pointer (some ⟨X.a, 0, none⟩), .int .i64 (r : Int), .int .i64 (i : Int), .int .i64 x] wr fun e w' =>
    e = .returned (.int .i64 0) ∧ Step1 B X (s.setW (r : Int) (2 + (i : Int)) x) wb wr w' := by
  have := ceSetField h (r : Int) (i : Int) x (hO.le6 h.at_.fits)
  have e1 := hO.fldE h.at_.fits hi
  have e2 : s.setFS (r : Int) (i : Int) x = s.setW (r : Int) (2 + (i : Int)) x := by unfold ArS.setFS; rw [if_pos e1]
  rw [e1, e2] at this; exact this
theorem ceSetFieldNo (h : ArIn B X s wb wr) (hO : ObjAt s r k v F) (i : Int) (hi : i < 0 ∨ (k : Int) ≤ i) (x : Int) : Calls Tryz.prog 29 #[.pointer (some ⟨X.a, 0, none⟩), .int .i64 (r : Int), .int .i64 i, .int .i64 x] wr fun e w' =>
    e = .returned (.int .i64 6) ∧ Step1 B X s wb wr w' := by
  have := ceSetField h (r : Int) i x (hO.le6 h.at_.fits)
  have e1 := hO.fldNo h.at_.fits hi
  have e2 : s.setFS (r : Int) i x = s := by unfold ArS.setFS; rw [if_neg (by rw [e1]; decide)]
  rw [e1, e2] at this; exact this
theorem ceSetFieldNil (h : ArIn B X s wb wr) (i x : Int) : Calls Tryz.prog 29 #[.pointer (some ⟨X.a, 0, none⟩), .int .i64 0, .int .i64 i, .int .i64 x] wr fun e w' =>
    e = .returned (.int .i64 8) ∧ Step1 B X s wb wr w' := by
  have := ceSetField h 0 i x (by rw [wordI_nil h.at_.fits]; decide)
  have e1 := fldE_nil (s := s) i
  have e2 : s.setFS 0 i x = s := by unfold ArS.setFS; rw [if_neg (by rw [e1]; decide)]
  rw [e1, e2] at this; exact this
end

theorem cefit1 : newR (.new 2) 2 = 1 := by decide +kernel
theorem cefit2 : newE (.new 2) 2 = 0 := by decide +kernel

end Go.Proofs.YtidpmplkbgllfaaGreatDoor

namespace Go.Proofs.YtidpmplkbgllfaaGreatDoor
open Go Go.RowKit
set_option linter.unusedSimpArgs false
set_option linter.unusedVariables false

/-- An object: where it lies, how many fields, its number, its fields. -/
structure Ob where
  r : Nat
  k : Nat
  v : Int
  F : Nat → Int
/-- The objects of the list lie in the arena, each apart from the others. -/
structure Objs (s : ArS) (l : List Ob) : Prop where
  at_ : ∀ (i : Nat) (x : Ob), l[i]? = some x → ObjAt s x.r x.k x.v x.F
  apart : ∀ (i j : Nat) (x y : Ob), i ≠ j → l[i]? = some x → l[j]? = some y → x.r ≠ y.r
def obRefs (l : List Ob) : List Nat := l.map (·.r)
theorem obRefs_at {l : List Ob} {i : Nat} {x : Ob} (h : l[i]? = some x) : (obRefs l)[i]? = some x.r := by simp [obRefs, h]
theorem obRefs_length (l : List Ob) : (obRefs l).length = l.length := by simp [obRefs]
theorem obRefs_push (l : List Ob) (x : Ob) : obRefs (l ++ [x]) = obRefs l ++ [x.r] := by simp [obRefs]
theorem set_same {α : Type} {l : List α} {i : Nat} {x y : α} (h : l[i]? = some y) : (l.set i x)[i]? = some x := by
  have := (List.getElem?_eq_some_iff.1 h).1
  simp [this]
theorem set_other {α : Type} {l : List α} {i j : Nat} {x : α} (h : i ≠ j) : (l.set i x)[j]? = l[j]? := by simp [h]
theorem obRefs_set {l : List Ob} {i : Nat} {x y : Ob} (h : l[i]? = some y) (hr : x.r = y.r) : obRefs (l.set i x) = obRefs l := by
  apply List.ext_getElem?
  intro j
  unfold obRefs
  rw [List.getElem?_map, List.getElem?_map]
  by_cases e : i = j
  · subst e
    rw [set_same h, h]
    simp [hr]
  · rw [set_other e]
section
variable {s : ArS} {l : List Ob}
theorem Objs.nil (s : ArS) : Objs s [] := ⟨fun i x h => by simp at h, fun i j x y _ h => by simp at h⟩
theorem Objs.new (h : Objs s l) (hF : Fits s) {k : Nat} (he : newE s (k : Int) = 0) : Objs (s.newS (k : Int)) (l ++ [⟨newR s (k : Int), k, 0, fun _ => 0⟩]) := by
  have o := new_obj hF he
  have hne : ∀ (i : Nat) (x : Ob), l[i]? = some x → newR s (k : Int) ≠ x.r := fun i x hx => new_apart hF he (h.at_ i x hx).S
  have cut : ∀ (i : Nat) (x : Ob), (l ++ [(⟨newR s (k : Int), k, 0, fun _ => 0⟩ : Ob)])[i]? = some x → (l[i]? = some x) ∨ (i = l.length ∧ x = ⟨newR s (k : Int), k, 0, fun _ => 0⟩) := fun i x hx => by
    by_cases hi : i < l.length
    · rw [List.getElem?_append_left hi] at hx; exact .inl hx
    · rw [List.getElem?_append_right (by omega)] at hx
      by_cases e : i = l.length
      · subst e; simp at hx; exact .inr ⟨rfl, hx.symm⟩
      · rw [List.getElem?_eq_none (by simp; omega)] at hx; cases hx
  refine ⟨fun i x hx => ?_, fun i j x y hij hx hy => ?_⟩
  · rcases cut i x hx with h1 | ⟨_, rfl⟩
    · exact (h.at_ i x h1).new hF _
    · exact o
  · rcases cut i x hx with h1 | ⟨e1, rfl⟩ <;> rcases cut j y hy with h2 | ⟨e2, rfl⟩
    · exact h.apart i j x y hij h1 h2
    · exact fun e => hne i x h1 e.symm
    · exact hne j y h2
    · omega
theorem Objs.keep (h : Objs s l) (hF : Fits s) (k : Int) : Objs (s.newS k) l := ⟨fun i x hx => (h.at_ i x hx).new hF k, h.apart⟩
theorem Objs.upd (h : Objs s l) {i : Nat} {x y : Ob} (hx : l[i]? = some x) (hr : y.r = x.r) {s' : ArS} (ho : ObjAt s' y.r y.k y.v y.F) (hk : ∀ (j : Nat) (z : Ob), i ≠ j → l[j]? = some z → ObjAt s' z.r z.k z.v z.F) : Objs s' (l.set i y) := by
  have cut : ∀ (j : Nat) (z : Ob), (l.set i y)[j]? = some z → (j = i ∧ z = y) ∨ (i ≠ j ∧ l[j]? = some z) := fun j z hz => by
    by_cases e : i = j
    · subst e; rw [set_same hx] at hz; cases hz; exact .inl ⟨rfl, rfl⟩
    · rw [set_other e] at hz; exact .inr ⟨e, hz⟩
  refine ⟨fun j z hz => ?_, fun j j' z z' hjj hz hz' => ?_⟩
  · rcases cut j z hz with ⟨_, rfl⟩ | ⟨e, h1⟩
    · exact ho
    · exact hk j z e h1
  · rcases cut j z hz with ⟨rfl, rfl⟩ | ⟨e, h1⟩ <;> rcases cut j' z' hz' with ⟨rfl, rfl⟩ | ⟨e', h2⟩
    · exact absurd rfl hjj
    · rw [hr]; exact h.apart _ _ _ _ hjj hx h2
    · rw [hr]; exact h.apart _ _ _ _ hjj h1 hx
    · exact h.apart _ _ _ _ hjj h1 h2
theorem Objs.setSc (h : Objs s l) (hF : Fits s) {i : Nat} {x : Ob} (hx : l[i]? = some x) (v : Int) : Objs (s.setW (x.r : Int) 1 v) (l.set i { x with v := v }) :=
  h.upd (y := { x with v := v }) hx rfl ((h.at_ i x hx).setSc hF v) fun j z e hz => (h.at_ j z hz).otherSc hF (h.at_ i x hx) (h.apart i j x z e hx hz) v
theorem Objs.setF (h : Objs s l) (hF : Fits s) {i : Nat} {x : Ob} (hx : l[i]? = some x) {j : Nat} (hj : j < x.k) (v : Int) : Objs (s.setW (x.r : Int) (2 + (j : Int)) v) (l.set i { x with F := Go.Proofs.YtidpmplkbgllfaaGreatDoor.upd x.F j v }) :=
  h.upd (y := { x with F := Go.Proofs.YtidpmplkbgllfaaGreatDoor.upd x.F j v }) hx rfl ((h.at_ i x hx).setF hF hj v) fun j' z e hz => (h.at_ j' z hz).otherF hF (h.at_ i x hx) (h.apart i j' x z e hx hz) hj v
end
theorem ObjAt.congr {s : ArS} {r k : Nat} {v : Int} {F F' : Nat → Int} (h : ObjAt s r k v F) (e : ∀ i, i < k → F i = F' i) : ObjAt s r k v F' := ⟨h.S, h.fit, h.nf, h.sc, fun i hi => (h.fs i hi).trans (e i hi)⟩
theorem u8_natO {a : Int} (h : (Lit.int .u8 a).wf = true) : ∃ n : Nat, a = (n : Int) ∧ n < 256 := by
  have h2 : 0 ≤ a ∧ a ≤ 255 := by
    simp [Lit.wf, IntKind.min, IntKind.max, IntKind.signed, IntKind.bits] at h
    omega
  exact ⟨a.toNat, by omega, by omega⟩
end Go.Proofs.YtidpmplkbgllfaaGreatDoor
