/- Plain: a list of objects in an arena's cells. It speaks of no program's text. -/
import Derived.Test.YtkjpeacnponcfaaGreatDoorCeC
namespace Go.Proofs.YtkjpeacnponcfaaGreatDoor
open Go Go.RowKit
set_option linter.unusedSimpArgs false
set_option linter.unusedVariables false

/-- An object: where it lies, how many fields, its number, its fields. -/
structure Ob where
  r : Nat
  k : Nat
  v : Int
  F : Nat → Int
/-- The objects of the list lie in the arena, each apart from the others. -/
structure Objs (s : ArS) (l : List Ob) : Prop where
  at_ : ∀ (i : Nat) (x : Ob), l[i]? = some x → ObjAt s x.r x.k x.v x.F
  apart : ∀ (i j : Nat) (x y : Ob), i ≠ j → l[i]? = some x → l[j]? = some y → x.r ≠ y.r
def obRefs (l : List Ob) : List Nat := l.map (·.r)
theorem obRefs_at {l : List Ob} {i : Nat} {x : Ob} (h : l[i]? = some x) : (obRefs l)[i]? = some x.r := by simp [obRefs, h]
theorem obRefs_length (l : List Ob) : (obRefs l).length = l.length := by simp [obRefs]
theorem obRefs_push (l : List Ob) (x : Ob) : obRefs (l ++ [x]) = obRefs l ++ [x.r] := by simp [obRefs]
theorem set_same {α : Type} {l : List α} {i : Nat} {x y : α} (h : l[i]? = some y) : (l.set i x)[i]? = some x := by
  have := (List.getElem?_eq_some_iff.1 h).1
  simp [this]
theorem set_other {α : Type} {l : List α} {i j : Nat} {x : α} (h : i ≠ j) : (l.set i x)[j]? = l[j]? := by simp [h]
theorem obRefs_set {l : List Ob} {i : Nat} {x y : Ob} (h : l[i]? = some y) (hr : x.r = y.r) : obRefs (l.set i x) = obRefs l := by
  apply List.ext_getElem?
  intro j
  unfold obRefs
  rw [List.getElem?_map, List.getElem?_map]
  by_cases e : i = j
  · subst e
    rw [set_same h, h]
    simp [hr]
  · rw [set_other e]
section
variable {s : ArS} {l : List Ob}
theorem Objs.nil (s : ArS) : Objs s [] := ⟨fun i x h => by simp at h, fun i j x y _ h => by simp at h⟩
theorem Objs.new (h : Objs s l) (hF : Fits s) {k : Nat} (he : newE s (k : Int) = 0) : Objs (s.newS (k : Int)) (l ++ [⟨newR s (k : Int), k, 0, fun _ => 0⟩]) := by
  have o := new_obj hF he
  have hne : ∀ (i : Nat) (x : Ob), l[i]? = some x → newR s (k : Int) ≠ x.r := fun i x hx => new_apart hF he (h.at_ i x hx).S
  have cut : ∀ (i : Nat) (x : Ob), (l ++ [(⟨newR s (k : Int), k, 0, fun _ => 0⟩ : Ob)])[i]? = some x → (l[i]? = some x) ∨ (i = l.length ∧ x = ⟨newR s (k : Int), k, 0, fun _ => 0⟩) := fun i x hx => by
    by_cases hi : i < l.length
    · rw [List.getElem?_append_left hi] at hx; exact .inl hx
    · rw [List.getElem?_append_right (by omega)] at hx
      by_cases e : i = l.length
      · subst e; simp at hx; exact .inr ⟨rfl, hx.symm⟩
      · rw [List.getElem?_eq_none (by simp; omega)] at hx; cases hx
  refine ⟨fun i x hx => ?_, fun i j x y hij hx hy => ?_⟩
  · rcases cut i x hx with h1 | ⟨_, rfl⟩
    · exact (h.at_ i x h1).new hF _
    · exact o
  · rcases cut i x hx with h1 | ⟨e1, rfl⟩ <;> rcases cut j y hy with h2 | ⟨e2, rfl⟩
    · exact h.apart i j x y hij h1 h2
    · exact fun e => hne i x h1 e.symm
    · exact hne j y h2
    · omega
theorem Objs.keep (h : Objs s l) (hF : Fits s) (k : Int) : Objs (s.newS k) l := ⟨fun i x hx => (h.at_ i x hx).new hF k, h.apart⟩
theorem Objs.upd (h : Objs s l) {i : Nat} {x y : Ob} (hx : l[i]? = some x) (hr : y.r = x.r) {s' : ArS} (ho : ObjAt s' y.r y.k y.v y.F) (hk : ∀ (j : Nat) (z : Ob), i ≠ j → l[j]? = some z → ObjAt s' z.r z.k z.v z.F) : Objs s' (l.set i y) := by
  have cut : ∀ (j : Nat) (z : Ob), (l.set i y)[j]? = some z → (j = i ∧ z = y) ∨ (i ≠ j ∧ l[j]? = some z) := fun j z hz => by
    by_cases e : i = j
    · subst e; rw [set_same hx] at hz; cases hz; exact .inl ⟨rfl, rfl⟩
    · rw [set_other e] at hz; exact .inr ⟨e, hz⟩
  refine ⟨fun j z hz => ?_, fun j j' z z' hjj hz hz' => ?_⟩
  · rcases cut j z hz with ⟨_, rfl⟩ | ⟨e, h1⟩
    · exact ho
    · exact hk j z e h1
  · rcases cut j z hz with ⟨rfl, rfl⟩ | ⟨e, h1⟩ <;> rcases cut j' z' hz' with ⟨rfl, rfl⟩ | ⟨e', h2⟩
    · exact absurd rfl hjj
    · rw [hr]; exact h.apart _ _ _ _ hjj hx h2
    · rw [hr]; exact h.apart _ _ _ _ hjj h1 hx
    · exact h.apart _ _ _ _ hjj h1 h2
theorem Objs.setSc (h : Objs s l) (hF : Fits s) {i : Nat} {x : Ob} (hx : l[i]? = some x) (v : Int) : Objs (s.setW (x.r : Int) 1 v) (l.set i { x with v := v }) :=
  h.upd (y := { x with v := v }) hx rfl ((h.at_ i x hx).setSc hF v) fun j z e hz => (h.at_ j z hz).otherSc hF (h.at_ i x hx) (h.apart i j x z e hx hz) v
theorem Objs.setF (h : Objs s l) (hF : Fits s) {i : Nat} {x : Ob} (hx : l[i]? = some x) {j : Nat} (hj : j < x.k) (v : Int) : Objs (s.setW (x.r : Int) (2 + (j : Int)) v) (l.set i { x with F := Go.Proofs.YtkjpeacnponcfaaGreatDoor.upd x.F j v }) :=
  h.upd (y := { x with F := Go.Proofs.YtkjpeacnponcfaaGreatDoor.upd x.F j v }) hx rfl ((h.at_ i x hx).setF hF hj v) fun j' z e hz => (h.at_ j' z hz).otherF hF (h.at_ i x hx) (h.apart i j' x z e hx hz) hj v
end
theorem ObjAt.congr {s : ArS} {r k : Nat} {v : Int} {F F' : Nat → Int} (h : ObjAt s r k v F) (e : ∀ i, i < k → F i = F' i) : ObjAt s r k v F' := ⟨h.S, h.fit, h.nf, h.sc, fun i hi => (h.fs i hi).trans (e i hi)⟩
theorem u8_natO {a : Int} (h : (Lit.int .u8 a).wf = true) : ∃ n : Nat, a = (n : Int) ∧ n < 256 := by
  have h2 : 0 ≤ a ∧ a ≤ 255 := by
    simp [Lit.wf, IntKind.min, IntKind.max, IntKind.signed, IntKind.bits] at h
    omega
  exact ⟨a.toNat, by omega, by omega⟩
end Go.Proofs.YtkjpeacnponcfaaGreatDoor
