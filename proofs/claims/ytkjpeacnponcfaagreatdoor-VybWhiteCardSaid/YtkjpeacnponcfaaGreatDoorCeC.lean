/- Calls on objects; rooms; fit; at this seat's numbers. -/
import Derived.Test.YtkjpeacnponcfaaGreatDoorCeB
import Derived.Test.YtkjpeacnponcfaaGreatDoorArK
namespace Go.Proofs.YtkjpeacnponcfaaGreatDoor
open Go Go.RowKit Go.Shelf Go.MuLone Go.RwLone
set_option linter.unusedSimpArgs false
set_option linter.unusedVariables false

section
variable {s : ArS} {r k : Nat} {v : Int} {F : Nat → Int}
theorem ObjAt.fldNo (h : ObjAt s r k v F) (hF : Fits s) {i : Int} (hi : i < 0 ∨ (k : Int) ≤ i) : Go.Proofs.YtkjpeacnponcfaaGreatDoor.fldE s (r : Int) i = 6 := by
  unfold Go.Proofs.YtkjpeacnponcfaaGreatDoor.fldE
  rw [if_neg (by have := (h.pos hF).1; omega), h.fields hF, if_pos (by omega)]
theorem fldE_nil (i : Int) : Go.Proofs.YtkjpeacnponcfaaGreatDoor.fldE s 0 i = 8 := by unfold Go.Proofs.YtkjpeacnponcfaaGreatDoor.fldE; rw [if_pos rfl]
theorem fldV_not {r i : Int} (h : Go.Proofs.YtkjpeacnponcfaaGreatDoor.fldE s r i ≠ 0) : fldV s r i = 0 := by unfold fldV; rw [if_neg h]
theorem ObjAt.le6 (h : ObjAt s r k v F) (hF : Fits s) : wordI s (r : Int) 0 ≤ 6 := by rw [h.fields hF]; have := h.k6 hF; omega
theorem ObjAt.scE (h : ObjAt s r k v F) (hF : Fits s) : Go.Proofs.YtkjpeacnponcfaaGreatDoor.scE (r : Int) = 0 := by unfold Go.Proofs.YtkjpeacnponcfaaGreatDoor.scE; rw [if_neg (by have := (h.pos hF).1; omega)]

/-- A class with a free page has room. -/
theorem room_free {c : Int} (hc : okC c = true) (h : 0 < freeTo s s.P) : seekF s c ≠ 0 := by
  rcases seekF_cases s c with ⟨h0, _⟩ | ⟨_, ⟨h1, _⟩ | ⟨_, h1⟩⟩
  · rw [hc] at h0; cases h0
  · have := (free1_open h1).1; omega
  · rcases spare_cases s s.P with ⟨q, _, _, _, h4⟩ | ⟨h2, _⟩
    · omega
    · rw [freeTo_none h2] at h; omega
theorem freeTo_upd {q : Nat} {c : Int} : ∀ p, freeTo s p ≤ freeTo { s with cls := upd s.cls q c } p + (if q < p then 1 else 0)
  | 0 => by simp [freeTo]
  | p + 1 => by
    have ih := freeTo_upd (q := q) (c := c) p
    rw [freeTo_succ, freeTo_succ]
    show _ ≤ _ + (if upd s.cls q c p = -1 then 1 else 0) + _
    generalize freeTo { s with cls := upd s.cls q c } p = m at *
    by_cases e : p = q
    · subst e
      rw [if_neg (Nat.lt_irrefl _)] at ih
      rw [if_pos (Nat.lt_succ_self p)]
      split <;> split <;> omega
    · have hu : upd s.cls q c p = s.cls p := by unfold upd; rw [if_neg e]
      rw [hu]
      by_cases x : q < p
      · rw [if_pos x] at ih
        rw [if_pos (Nat.lt_succ_of_lt x)]
        omega
      · rw [if_neg x] at ih
        rw [if_neg (by omega : ¬ q < p + 1)]
        omega
theorem free_take (c : Int) : freeTo s s.P ≤ freeTo (s.take c) (s.take c).P + 1 := by
  by_cases h0 : seekF s c = 0
  · rw [take_none h0]; omega
  · rw [take_some h0]
    have := freeTo_upd (s := s) (q := pg (seekF s c)) (c := c) s.P
    have e : freeTo { s with cls := upd s.cls (pg (seekF s c)) c, S := putN s.S (seekF s c), ws := clr s.ws (seekF s c) (wN c) } s.P = freeTo { s with cls := upd s.cls (pg (seekF s c)) c } s.P := rfl
    show _ ≤ freeTo _ s.P + 1
    rw [e]
    split at this <;> omega
theorem freeTo_setW (r i x : Int) (p : Nat) : freeTo (s.setW r i x) p = freeTo s p := by
  unfold freeTo; rw [setW_cls]
theorem free_new (k : Int) : freeTo s s.P ≤ freeTo (s.newS k) (s.newS k).P + 1 := by
  unfold ArS.newS
  split
  · omega
  · rw [setW_P, freeTo_setW]; exact free_take _
theorem new_room (hk0 : 0 ≤ v) (hk : v ≤ 6) (h : 0 < freeTo s s.P) : newE s v = 0 := by
  rw [newE_mid hk0 hk, if_neg (room_free (clsK_ok _) h)]
/-- An arena of free pages alone. -/
theorem seek_empty {c : Int} (hc : okC c = true) (hP : 0 < s.P) (h : ∀ p, p < s.P → s.cls p = -1) : seekF s c = 1 := by
  have hcne : c ≠ -1 := by rcases okC_cases hc with e | e | e <;> omega
  rw [seekF_page hc fun r hr => by
    cases x : free1 s c r with
    | false => rfl
    | true =>
      obtain ⟨a1, a2, a3, _, _⟩ := free1_open x
      rw [h (pg r) (by unfold pg; omega)] at a3
      exact absurd a3.symm hcne]
  exact spare_first hP (h 0 hP) (fun q hq => absurd hq (by omega))
theorem newS_S (he : newE s v = 0) (q : Nat) : (s.newS v).S q = (s.S q || decide (q = newR s v)) := by
  obtain ⟨a1, a2, hr, hs⟩ := newE_zero he
  unfold ArS.newS
  rw [if_neg (by omega), setW_S, hs, take_S (by rw [← hs]; exact hr)]
theorem newS_mate (hF : Fits s) (he : newE s v = 0) {q : Nat} (hq : s.S q = true) : (s.newS v).cls (pg q) = s.cls (pg q) := by
  obtain ⟨a1, a2, hr, hs⟩ := newE_zero he
  unfold ArS.newS
  rw [if_neg (by omega), setW_cls, take_mate hF (by rw [← hs]; exact hr) hq]
theorem newS_cls (he : newE s v = 0) : (s.newS v).cls (pg (newR s v)) = clsK v := by
  obtain ⟨a1, a2, hr, hs⟩ := newE_zero he
  unfold ArS.newS
  rw [if_neg (by omega), setW_cls, hs, take_cls2 (by rw [← hs]; exact hr)]
end

section
variable {B : Nat} {X : ArB} {s s' : ArS} {wb wr w' : World} {r k : Nat} {v : Int} {F : Nat → Int}
theorem ceNewOk (h : ArIn B X s wb wr) (k : Int) (r : Nat) (hr : newR s k = r) (he : newE s k = 0) : Calls Tryz.prog 25 #[.pointer (some ⟨X.a, 0, none⟩), .int .i64 k] wr fun e w' =>
    e = .returned (.tuple #[.int .i64 (r : Int), .int .i64 0]) ∧ Step1 B X (s.newS k) wb wr w' := by
  have := ceNew h k
  rw [hr, he] at this; exact this
theorem ceFieldsOk (h : ArIn B X s wb wr) (hO : ObjAt s r k v F) : Calls Tryz.prog 26 #[.pointer (some ⟨X.a, 0, none⟩), .int .i64 (r : Int)] wr fun e w' =>
    e = .returned (.int .i64 (k : Int)) ∧ Below wr.heap.size wr w' := ceFields h _ _ (hO.fields h.at_.fits)
theorem ceFieldOk (h : ArIn B X s wb wr) (hO : ObjAt s r k v F) (i : Nat) (hi : i < k) (y : Int) (hy : F i = y) : Calls Tryz.prog 48 #[.pointer (some ⟨X.a, 0, none⟩), .int .i64 (r : Int), .int .i64 (i : Int)] wr fun e w' =>
    e = .returned (.tuple #[.int .i64 y, .int .i64 0]) ∧ Below wr.heap.size wr w' := by
  have := ceField h (r : Int) (i : Int) (hO.le6 h.at_.fits)
  rw [(hO.reads h.at_.fits).at_ i hi, hO.fldE h.at_.fits hi, hy] at this; exact this
theorem ceFieldNo (h : ArIn B X s wb wr) (hO : ObjAt s r k v F) (i : Int) (hi : i < 0 ∨ (k : Int) ≤ i) : Calls Tryz.prog 48 #[.pointer (some ⟨X.a, 0, none⟩), .int .i64 (r : Int), .int .i64 i] wr fun e w' =>
    e = .returned (.tuple #[.int .i64 0, .int .i64 6]) ∧ Below wr.heap.size wr w' := by
  have := ceField h (r : Int) i (hO.le6 h.at_.fits)
  have e1 := hO.fldNo h.at_.fits hi
  rw [fldV_not (by rw [e1]; decide), e1] at this; exact this
theorem ceFieldNil (h : ArIn B X s wb wr) (i : Int) : Calls Tryz.prog 48 #[.pointer (some ⟨X.a, 0, none⟩), .int .i64 0, .int .i64 i] wr fun e w' =>
    e = .returned (.tuple #[.int .i64 0, .int .i64 8]) ∧ Below wr.heap.size wr w' := by
  have := ceField h 0 i (by rw [wordI_nil h.at_.fits]; decide)
  rw [fldV_not (by rw [fldE_nil]; decide), fldE_nil] at this; exact this
theorem ceSetFieldOk (h : ArIn B X s wb wr) (hO : ObjAt s r k v F) (i : Nat) (hi : i < k) (x : Int) : Calls Tryz.prog 27 #[.pointer (some ⟨X.a, 0, none⟩), .int .i64 (r : Int), .int .i64 (i : Int), .int .i64 x] wr fun e w' =>
    e = .returned (.int .i64 0) ∧ Step1 B X (s.setW (r : Int) (2 + (i : Int)) x) wb wr w' := by
  have := ceSetField h (r : Int) (i : Int) x (hO.le6 h.at_.fits)
  have e1 := hO.fldE h.at_.fits hi
  have e2 : s.setFS (r : Int) (i : Int) x = s.setW (r : Int) (2 + (i : Int)) x := by unfold ArS.setFS; rw [if_pos e1]
  rw [e1, e2] at this; exact this
theorem ceSetFieldNo (h : ArIn B X s wb wr) (hO : ObjAt s r k v F) (i : Int) (hi : i < 0 ∨ (k : Int) ≤ i) (x : Int) : Calls Tryz.prog 27 #[.pointer (some ⟨X.a, 0, none⟩), .int .i64 (r : Int), .int .i64 i, .int .i64 x] wr fun e w' =>
    e = .returned (.int .i64 6) ∧ Step1 B X s wb wr w' := by
  have := ceSetField h (r : Int) i x (hO.le6 h.at_.fits)
  have e1 := hO.fldNo h.at_.fits hi
  have e2 : s.setFS (r : Int) i x = s := by unfold ArS.setFS; rw [if_neg (by rw [e1]; decide)]
  rw [e1, e2] at this; exact this
theorem ceSetFieldNil (h : ArIn B X s wb wr) (i x : Int) : Calls Tryz.prog 27 #[.pointer (some ⟨X.a, 0, none⟩), .int .i64 0, .int .i64 i, .int .i64 x] wr fun e w' =>
    e = .returned (.int .i64 8) ∧ Step1 B X s wb wr w' := by
  have := ceSetField h 0 i x (by rw [wordI_nil h.at_.fits]; decide)
  have e1 := fldE_nil (s := s) i
  have e2 : s.setFS 0 i x = s := by unfold ArS.setFS; rw [if_neg (by rw [e1]; decide)]
  rw [e1, e2] at this; exact this
end

theorem cefit1 : newR (.new 2) 2 = 1 := by decide +kernel
theorem cefit2 : newE (.new 2) 2 = 0 := by decide +kernel

end Go.Proofs.YtkjpeacnponcfaaGreatDoor
