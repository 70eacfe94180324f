/- A marker's Trace; at this seat's numbers. -/
import Derived.Test.YtkjpeacnponcfaaGreatDoorGmS
import Derived.Deep.LoopGhost
namespace Go.Proofs.YtkjpeacnponcfaaGreatDoor
open Go Go.RowKit Go.Shelf Go.MuLone Go.RwLone
set_option linter.unusedSimpArgs false
set_option linter.unusedVariables false
attribute [local go_sem] Oper.semAt_some

/-- Where what lies at r points. -/
def ptsAt (obs : List Ob) (r : Int) : List Int := match obs.find? (fun x => decide ((x.r : Int) = r)) with
  | some x => pts x
  | none => []
theorem ptsAt_mem {s : ArS} {obs : List Ob} (ho : Objs s obs) {x : Ob} (hx : x ∈ obs) : ptsAt obs (x.r : Int) = pts x := by
  unfold ptsAt
  obtain ⟨i, hi⟩ := List.mem_iff_getElem?.1 hx
  cases hf : obs.find? (fun y => decide ((y.r : Int) = (x.r : Int))) with
  | none =>
    have := List.find?_eq_none.1 hf x hx
    simp at this
  | some y =>
    have h1 := List.find?_some hf
    have h2a : (y.r : Int) = (x.r : Int) := by simpa using h1
    have h2 : y.r = x.r := by omega
    obtain ⟨j, hj⟩ := List.mem_iff_getElem?.1 (List.mem_of_find?_eq_some hf)
    by_cases e : i = j
    · subst e; rw [hi] at hj; cases hj; rfl
    · exact absurd h2.symm (ho.apart i j x y e hi hj)

/-- How many aren't scanned. -/
def unscN (N : Nat) (c : Col) : Nat := (List.range N).countP fun n : Nat => !c.sc (n : Int)
def unsc (c : Col) : Nat := unscN 2049 c
theorem countP_lt {p q : Nat → Bool} : ∀ (l : List Nat) (a : Nat), a ∈ l → p a = true → q a = false → (∀ x, q x = true → p x = true) → l.countP q + 1 ≤ l.countP p
  | [], a, h, _, _, _ => by cases h
  | b :: l, a, h, h1, h2, h3 => by
    rw [List.countP_cons, List.countP_cons]
    rcases List.mem_cons.1 h with e | e
    · subst e
      rw [h1, h2]
      have : l.countP q ≤ l.countP p := List.countP_mono_left (fun x _ hx => h3 x hx)
      simp; omega
    · have ih := countP_lt l a e h1 h2 h3
      cases hq : q b with
      | true => rw [h3 b hq]; simp; omega
      | false => cases p b <;> simp <;> omega
theorem unscN_lt {N : Nat} {c c' : Col} {x : Int} (h1 : 0 ≤ x) (h2 : x < N) (hs : c.sc x = false) (hc : c'.sc = updI c.sc x true) : unscN N c' + 1 ≤ unscN N c := by
  unfold unscN
  obtain ⟨n, rfl⟩ : ∃ n : Nat, x = (n : Int) := ⟨x.toNat, by omega⟩
  refine countP_lt (p := fun n : Nat => !c.sc (n : Int)) (q := fun n : Nat => !c'.sc (n : Int)) (List.range N) n (List.mem_range.2 (by omega)) (by show (!c.sc (n : Int)) = true; rw [hs]; rfl) (by show (!c'.sc (n : Int)) = false; rw [hc, updI_at]; rfl) fun y hy => ?_
  have hy2 : (!c'.sc (y : Int)) = true := hy
  show (!c.sc (y : Int)) = true
  rw [hc] at hy2
  by_cases e : (y : Int) = (n : Int)
  · rw [e, updI_at] at hy2; cases hy2
  · rw [updI_ne e] at hy2; exact hy2
theorem unsc_lt {c c' : Col} {x : Int} (h1 : 0 ≤ x) (h2 : x < 2049) (hs : c.sc x = false) (hc : c'.sc = updI c.sc x true) : unsc c' + 1 ≤ unsc c := unscN_lt h1 h2 hs hc
theorem unscN_le (N : Nat) (c : Col) : unscN N c ≤ N := by
  unfold unscN
  have := List.countP_le_length (p := fun n : Nat => !c.sc (n : Int)) (l := List.range N)
  rw [List.length_range] at this
  exact this
theorem unsc_le (c : Col) : unsc c ≤ 2049 := unscN_le 2049 c
/-- How far the end is. -/
def topG (c : Col) (st : List Int) : Bool := match st.getLast? with
  | some r => greyC c r
  | none => false
def farT (c : Col) (st : List Int) (ov : Bool) : Nat := unsc c * 10000 + if topG c st = true then 0 else (if ov = true then 5000 else 0) + st.length + 1
theorem farT_le (c : Col) (st : List Int) (ov : Bool) (h : st.length ≤ 4096) : farT c st ov ≤ unsc c * 10000 + 9097 := by
  unfold farT
  split
  · omega
  · split <;> omega
theorem farT_pop {c : Col} {st : List Int} {r : Int} {ov : Bool} (h : greyC c r = false) : farT c st ov < farT c (st ++ [r]) ov := by
  have e : topG c (st ++ [r]) = false := by unfold topG; simp [h]
  have e2 : farT c (st ++ [r]) ov = unsc c * 10000 + ((if ov = true then 5000 else 0) + (st.length + 1) + 1) := by
    unfold farT; rw [if_neg (by rw [e]; simp)]; simp
  rw [e2]
  unfold farT
  split <;> omega
theorem farT_scan {c c' : Col} {st st' : List Int} {ov ov' : Bool} (h : unsc c' + 1 ≤ unsc c) (hl : st'.length ≤ 4096) : farT c' st' ov' < farT c st ov := by
  have h1 := farT_le c' st' ov' hl
  have h2 : unsc c * 10000 ≤ farT c st ov := by unfold farT; omega
  omega
theorem farT_refill {c : Col} {st : List Int} {ov : Bool} {room : Int} (h : Refilled c room st ov) : farT c st ov < farT c [] true := by
  have e0 : topG c [] = false := rfl
  have e1 : farT c [] true = unsc c * 10000 + 5001 := by unfold farT; rw [if_neg (by rw [e0]; simp)]; simp
  rw [e1]
  rcases List.eq_nil_or_concat st with e | ⟨q, r, e⟩
  · have := h.nil e
    subst e
    rw [this]
    unfold farT
    rw [if_neg (by rw [e0]; simp)]; simp
  · have hr := h.is r (by rw [e]; simp)
    have : topG c st = true := by unfold topG; rw [e]; simp [hr]
    unfold farT
    rw [if_pos this]; omega

/-- What holds between two rounds of a trace. -/
def TrA (T : MkB) (w : World) (X : ArB) (obs : List Ob) (c : Col) (n : Int) (k : Nat) (v5 : Value) (wx : World) : Prop :=
  ∃ (T1 : MkB) (c1 : Col) (l : List Int) (S S2 : Nat → Bool) (room : Int) (st : List Int) (ov : Bool), v5 = .int .i64 (l.length : Int) ∧ MkMem wx T1 X.a S S2 room st ov ∧ MkOk S S2 room st ov c1 ∧ MkStep T w T1 wx ∧ Scans (ptsAt obs) c l c1 ∧ (l.length : Int) ≤ max n 0 ∧ (∀ x, c1.ma x = true → x ∈ refsI obs) ∧ l.length + unsc c1 ≤ 2049 ∧ farT c1 st ov ≤ k
/-- What a trace leaves. -/
def TrEnd (T : MkB) (w : World) (xa : Nat) (obs : List Ob) (c : Col) (n : Int) (e : Ending) (w' : World) : Prop :=
  ∃ (T' : MkB) (c' : Col) (l : List Int), e = .returned (.int .i64 (l.length : Int)) ∧ MkAt w' T' xa c' ∧ MkStep T w T' w' ∧ Scans (ptsAt obs) c l c' ∧ (l.length : Int) ≤ max n 0 ∧ ((l.length : Int) < n → c'.dry)
section
variable {w wr w' w1 : World} {T T' T1 : MkB} {X : ArB} {s : ArS} {S S2 : Nat → Bool} {c : Col} {room : Int} {st : List Int} {ov : Bool} {obs : List Ob}
theorem inAr_of (ho : Objs s obs) (h : ∀ x, c.ma x = true → x ∈ refsI obs) : InAr s c := fun x hx => by
  obtain ⟨y, hy, rfl⟩ := List.mem_map.1 (h x hx)
  obtain ⟨i, hi⟩ := List.mem_iff_getElem?.1 hy
  rw [inS_nat]; exact (ho.at_ i y hi).S
theorem pts_in0 (hc : Closed obs) {x : Ob} (hx : x ∈ obs) {j : Nat} (hj : j < x.k) (h0 : nz x.F j = true) : x.F j ∈ refsI obs := by
  rcases hc x hx j hj with e | ⟨z, hz, e⟩
  · unfold nz at h0; rw [e] at h0; simp at h0
  · rw [e]; exact List.mem_map.2 ⟨z, hz, rfl⟩
end
end Go.Proofs.YtkjpeacnponcfaaGreatDoor
