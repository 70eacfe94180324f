/- A marker scans an object; at this seat's numbers. -/
import Derived.Test.YtkjpeacnponcfaaGreatDoorGmQ
import Derived.Test.YtkjpeacnponcfaaGreatDoorMrF
namespace Go.Proofs.YtkjpeacnponcfaaGreatDoor
open Go Go.RowKit Go.Shelf Go.MuLone Go.RwLone
set_option linter.unusedSimpArgs false
set_option linter.unusedVariables false
attribute [local go_sem] Oper.semAt_some

/-- Some more are shaded. -/
def Col.shades (c : Col) (l : List Int) : Col := ⟨fun y => c.ma y || decide (y ∈ l), c.sc⟩
theorem Col.shades_nil (c : Col) : c.shades [] = c := by unfold Col.shades; simp
theorem Col.shades_snoc (c : Col) (l : List Int) (x : Int) : (c.shades l).shade x = c.shades (l ++ [x]) := by
  unfold Col.shades Col.shade
  congr 1
  funext y
  by_cases e : y = x
  · subst e; rw [updI_at]; simp
  · rw [updI_ne e]; simp [e]
def ptaL {F : Nat → Int} {k : Nat} (q : List (InPt F k)) : List Int := (ptaVals q).map F
/-- What holds between two fields of what is scanned. -/
def ScnI (T7 : MkB) (V7 : World) (xa : Nat) (c0 : Col) (b : Nat) (F : Nat → Int) (k : Nat) (st : List (InPt F k) × (Nat → Prop)) (V : World) : Prop :=
  ∃ T1, MkAt V T1 xa (c0.shades (ptaL st.1)) ∧ MkStep T7 V7 T1 V ∧ Blk V b #[.pointer (some ⟨T7.m, 0, none⟩)] 33 ∧ (∀ k, T1.has k → T7.has k ∨ st.2 k) ∧ (∀ k, st.2 k → V7.heap.size ≤ k)
theorem scnI_own {T7 : MkB} {V7 : World} {xa : Nat} {c0 : Col} {b : Nat} {F : Nat → Int} {k : Nat} : OwnFrom V7.heap.size (ScnI T7 V7 xa c0 b F k) := by
  rintro st V V' row ⟨T1, hM, hS, hb, hO, hO2⟩ hg hr
  exact ⟨T1, hM.grown hg (fun r e => (hr r e).2), hS.grown hg (fun r e => (hr r e).1), hb.kept hg (fun r e => (hr r e).2), hO, hO2⟩
/-- What a marker's memory says, as one is about to be scanned. -/
structure MkOx (x : Int) (S S2 : Nat → Bool) (room : Int) (st : List Int) (ov : Bool) (c : Col) : Prop where
  ma : c.ma = inS S
  sc : c.sc = inS S2
  sub : ∀ x, c.sc x = true → c.ma x = true
  r1 : 1 ≤ room
  r2 : room ≤ 4096
  len : (st.length : Int) ≤ room
  grey : ∀ y, c.ma y = true → c.sc y = false → y ≠ x → y ∈ st ∨ ov = true
section
variable {w wr w' w1 : World} {T T' T1 : MkB} {X : ArB} {s : ArS} {S S2 : Nat → Bool} {c : Col} {room : Int} {st : List Int} {ov : Bool}
def ScnEnd (T : MkB) (w : World) (xa : Nat) (c' : Col) (w' : World) : Prop := ∃ T', MkAt w' T' xa c' ∧ MkStep T w T' w'
end
end Go.Proofs.YtkjpeacnponcfaaGreatDoor
