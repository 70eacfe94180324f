/- Plain: colours, and scans. It speaks of no program. -/
import Derived.Test.YtkjpeacnponcfaaGreatDoorGoM
import Derived.Test.YtkjpeacnponcfaaGreatDoorGoR
namespace Go.Proofs.YtkjpeacnponcfaaGreatDoor
open Go Go.RowKit
set_option linter.unusedSimpArgs false
set_option linter.unusedVariables false

/-- What is marked, and what is scanned. -/
structure Col where
  ma : Int → Bool
  sc : Int → Bool
def Col.white : Col := ⟨fun _ => false, fun _ => false⟩
def Col.shade (c : Col) (x : Int) : Col := ⟨updI c.ma x true, c.sc⟩
def Col.black (c : Col) (x : Int) : Col := ⟨updI c.ma x true, updI c.sc x true⟩
def Col.regrey (c : Col) (x : Int) : Col := ⟨c.ma, updI c.sc x false⟩
def Col.forget (c : Col) (x : Int) : Col := ⟨updI c.ma x false, updI c.sc x false⟩
def Col.scan (P : Int → List Int) (c : Col) (x : Int) : Col := ⟨fun y => c.ma y || decide (y ∈ P x), updI c.sc x true⟩
/-- None is grey. -/
def Col.dry (c : Col) : Prop := ∀ x, c.ma x = true → c.sc x = true
/-- So many scans, one behind the other. -/
inductive Scans (P : Int → List Int) : Col → List Int → Col → Prop
  | nil (c : Col) : Scans P c [] c
  | cons {c c' : Col} {x : Int} {l : List Int} : c.ma x = true → c.sc x = false → Scans P (c.scan P x) l c' → Scans P c (x :: l) c'
theorem Scans.trans {P : Int → List Int} {c c' c2 : Col} {l l' : List Int} (h : Scans P c l c') (k : Scans P c' l' c2) : Scans P c (l ++ l') c2 := by
  induction h with
  | nil c => exact k
  | cons h1 h2 _ ih => exact .cons h1 h2 (ih k)
/-- What holds while objects are shaded, and scanned. -/
structure Tri (P : Int → List Int) (fr : List Int) (c : Col) (ord : List Int) : Prop where
  sub : ∀ x, c.sc x = true → c.ma x = true
  clo : ∀ x, c.sc x = true → ∀ y ∈ P x, c.ma y = true
  snd : ∀ x, c.ma x = true → Rch fr P x
  nod : ord.Nodup
  ord : ∀ x, c.sc x = true ↔ x ∈ ord
  rts : ∀ x ∈ fr, x ≠ 0 → c.ma x = true
theorem Rch.more {fr fr' : List Int} {P : Int → List Int} {x : Int} (h : Rch fr P x) (hs : ∀ y ∈ fr, y ∈ fr') : Rch fr' P x := by
  induction h with
  | root h1 h2 => exact .root (hs _ h1) h2
  | step _ h2 h3 ih => exact .step ih h2 h3
section
variable {P : Int → List Int} {fr ord l : List Int} {c c' : Col} {x : Int}
theorem good_white : Tri P [] Col.white [] := ⟨fun x h => (by cases h), fun x h => (by cases h), fun x h => (by cases h), List.nodup_nil, fun x => ⟨fun h => (by cases h), fun h => (by cases h)⟩, fun x h => (by cases h)⟩
theorem Tri.shade (h : Tri P fr c ord) (hx : x ≠ 0) : Tri P (fr ++ [x]) (c.shade x) ord := by
  have hm : ∀ y, c.ma y = true → (c.shade x).ma y = true := fun y hy => by
    show updI c.ma x true y = true
    by_cases e : y = x
    · rw [e, updI_at]
    · rw [updI_ne e]; exact hy
  refine ⟨fun y hy => hm y (h.sub y hy), fun y hy z hz => hm z (h.clo y hy z hz), fun y hy => ?_, h.nod, h.ord, fun y hy h0 => ?_⟩
  · by_cases e : y = x
    · rw [e]; exact .root (by simp) hx
    · have hy2 : updI c.ma x true y = true := hy
      rw [updI_ne e] at hy2
      exact (h.snd y hy2).more fun z hz => List.mem_append.2 (.inl hz)
  · rcases List.mem_append.1 hy with e | e
    · exact hm y (h.rts y e h0)
    · have e2 : y = x := by simpa using e
      rw [e2]
      show updI c.ma x true x = true
      exact updI_at _ _ _
theorem Tri.skip (h : Tri P fr c ord) (hx : c.ma x = true ∨ x = 0) : Tri P (fr ++ [x]) c ord :=
  ⟨h.sub, h.clo, fun y hy => (h.snd y hy).more fun z hz => List.mem_append.2 (.inl hz), h.nod, h.ord, fun y hy h0 => by
    rcases List.mem_append.1 hy with e | e
    · exact h.rts y e h0
    · have e2 : y = x := by simpa using e
      rw [e2] at h0 ⊢
      rcases hx with e3 | e3
      · exact e3
      · exact absurd e3 h0⟩
theorem Tri.scan (h : Tri P fr c ord) (h0 : ∀ y ∈ P x, y ≠ 0) (hm : c.ma x = true) (hs : c.sc x = false) : Tri P fr (c.scan P x) (ord ++ [x]) := by
  have hmk : ∀ y, c.ma y = true → (c.scan P x).ma y = true := fun y hy => by show (c.ma y || _) = true; rw [hy]; rfl
  have hP : ∀ y ∈ P x, (c.scan P x).ma y = true := fun y hy => by show (c.ma y || decide (y ∈ P x)) = true; rw [decide_eq_true hy]; simp
  have cut : ∀ y, (c.scan P x).sc y = true → y = x ∨ c.sc y = true := fun y hy => by
    have hy2 : updI c.sc x true y = true := hy
    by_cases e : y = x
    · exact .inl e
    · rw [updI_ne e] at hy2; exact .inr hy2
  have hxo : x ∉ ord := fun e => by have := (h.ord x).2 e; rw [hs] at this; cases this
  refine ⟨fun y hy => ?_, fun y hy z hz => ?_, fun y hy => ?_, ?_, fun y => ?_, fun y hy h1 => hmk y (h.rts y hy h1)⟩
  · rcases cut y hy with e | e
    · rw [e]; exact hmk x hm
    · exact hmk y (h.sub y e)
  · rcases cut y hy with e | e
    · rw [e] at hz; exact hP z hz
    · exact hmk z (h.clo y e z hz)
  · have hy2 : (c.ma y || decide (y ∈ P x)) = true := hy
    cases e : c.ma y with
    | true => exact h.snd y e
    | false =>
      rw [e] at hy2
      have e2 : y ∈ P x := by simpa using hy2
      exact .step (h.snd x hm) e2 (h0 y e2)
  · exact List.nodup_append.2 ⟨h.nod, by simp, fun a ha b hb e => by
      have e2 : b = x := by simpa using hb
      rw [e2] at e; exact hxo (e ▸ ha)⟩
  · constructor
    · intro hy
      rcases cut y hy with e | e
      · rw [e]; simp
      · exact List.mem_append.2 (.inl ((h.ord y).1 e))
    · intro hy
      show updI c.sc x true y = true
      by_cases e : y = x
      · rw [e, updI_at]
      · rw [updI_ne e]
        rcases List.mem_append.1 hy with e2 | e2
        · exact (h.ord y).2 e2
        · exact absurd (by simpa using e2) e
theorem Tri.scans (h : Tri P fr c ord) (h0 : ∀ x, ∀ y ∈ P x, y ≠ 0) (hs : Scans P c l c') : Tri P fr c' (ord ++ l) := by
  induction hs generalizing ord with
  | nil c => rw [List.append_nil]; exact h
  | cons h1 h2 _ ih =>
    have := ih (h.scan (h0 _) h1 h2)
    rwa [List.append_assoc] at this
/-- In the end. -/
theorem Tri.dry (h : Tri P fr c ord) (hd : c.dry) (y : Int) : c.ma y = true ↔ Rch fr P y := by
  constructor
  · exact h.snd y
  · intro hy
    induction hy with
    | root h1 h2 => exact h.rts _ h1 h2
    | step _ h2 _ ih => exact h.clo _ (hd _ ih) _ h2
theorem Tri.ordDry (h : Tri P fr c ord) (hd : c.dry) (y : Int) : y ∈ ord ↔ Rch fr P y :=
  ⟨fun e => (h.dry hd y).1 (h.sub y ((h.ord y).2 e)), fun e => (h.ord y).1 (hd y ((h.dry hd y).2 e))⟩
end
theorem same_length {l m : List Int} (hl : l.Nodup) (hm : m.Nodup) (h : ∀ x, x ∈ l ↔ x ∈ m) : l.length = m.length :=
  Nat.le_antisymm (nodup_sub hl fun x hx => (h x).1 hx) (nodup_sub hm fun x hx => (h x).2 hx)
end Go.Proofs.YtkjpeacnponcfaaGreatDoor
