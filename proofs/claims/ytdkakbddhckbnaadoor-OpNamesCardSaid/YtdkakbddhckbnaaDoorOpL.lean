/- What OpNames' own loop finds; the row of names; at this seat's numbers. -/
import Derived.Test.YtdkakbddhckbnaaDoorOpJ
namespace Go.Proofs.YtdkakbddhckbnaaDoor
open Go Go.RowKit
set_option linter.unusedSimpArgs false
set_option linter.unusedVariables false
attribute [local go_sem] Oper.semAt_some

abbrev nameCells : Array Value := #[.string nm0, .string nm1, .string nm2, .string nm3, .string nm4, .string nm5, .string nm6, .string nm7, .string nm8, .string nm9, .string nm10, .string nm11, .string nm12]
theorem names_any (w : World) : Calls Tryd.prog 12 #[] w fun e w' => e = .returned (.slice (some ⟨w.heap.size, 0, none⟩) 13 13) ∧ w.alloc (.cells nameCells 9) = w' := by
  go_enter Tryd.func12, Tryd.ntmps12
  go_wp2_with fail
  go_ret
  exact ⟨rfl, rfl⟩
theorem name_cell {V : World} {b : Nat} (h : Blk V b nameCells 9) : ∀ p, p < 13 → V.cell? ⟨b, p, none⟩ = some (.string (opN p).nm) := fun p hp => by
  rw [h.cell p]
  match p, hp with
  | 0, _ | 1, _ | 2, _ | 3, _ | 4, _ | 5, _ | 6, _ | 7, _ | 8, _ | 9, _ | 10, _ | 11, _ | 12, _ => rfl

/-- The last of the first p names that is s. -/
def codM (s : ByteArray) : Nat → Int × Bool
  | 0 => (0, false)
  | p + 1 => if (opN p).nm.toList == s.toList then ((p : Int), true) else codM s p
def wantO (n : Int) : Nat → ByteArray
  | 0 => ⟨#[]⟩
  | p + 1 => if (p : Int) = n then (opN p).nm else wantO n p
theorem wantO_out {n : Int} : ∀ p : Nat, (∀ k : Nat, k < p → (k : Int) ≠ n) → wantO n p = ⟨#[]⟩
  | 0, _ => rfl
  | p + 1, h => by
    unfold wantO
    rw [if_neg (h p (Nat.lt_succ_self p))]
    exact wantO_out p (fun k hk => h k (Nat.lt_succ_of_lt hk))
theorem wantO_in {m : Nat} : ∀ p : Nat, m < p → wantO (m : Int) p = (opN m).nm
  | 0, h => absurd h (Nat.not_lt_zero _)
  | p + 1, h => by
    unfold wantO
    by_cases e : p = m
    · subst e; rw [if_pos rfl]
    · rw [if_neg (by omega)]
      exact wantO_in p (by omega)
theorem wantO_name (n : Int) : wantO n 13 = (opOf n).nm := by
  cases hq : inR n 13
  · rw [opOf_no hq, wantO_out 13 (fun k hk e => by
      have := inR_not.1 hq
      omega)]
    rfl
  · obtain ⟨m, rfl⟩ := Int.eq_ofNat_of_zero_le (inR_iff.1 hq).1
    have hm : m < 13 := by have := (inR_iff.1 hq).2; omega
    rw [opOf_nat hm, wantO_in 13 hm]
theorem codM_none {s : ByteArray} : ∀ p, (∀ k, k < p → ((opN k).nm.toList == s.toList) = false) → codM s p = (0, false)
  | 0, _ => rfl
  | p + 1, h => by
    unfold codM
    rw [h p (Nat.lt_succ_self p), if_neg (by decide)]
    exact codM_none p (fun k hk => h k (Nat.lt_succ_of_lt hk))
theorem codN_none {s : ByteArray} (h : ∀ k, k < 13 → ((opN k).nm.toList == s.toList) = false) : ∀ p, p ≤ 13 → codN s p = (0, false)
  | 0, _ => rfl
  | p + 1, hp => by
    unfold codN
    rw [h (12 - p) (by omega), if_neg (by decide)]
    exact codN_none h p (by omega)
theorem codM_nm : ∀ k, k < 13 → codM (opN k).nm 13 = ((k : Int), true) := by
  intro k hk
  match k, hk with
  | 0, _ | 1, _ | 2, _ | 3, _ | 4, _ | 5, _ | 6, _ | 7, _ | 8, _ | 9, _ | 10, _ | 11, _ | 12, _ =>
    simp only [codM, ByteArray.toList_eq]
    decide
theorem codM_codN (s : ByteArray) : codM s 13 = codN s 13 := by
  by_cases h : ∃ k, k < 13 ∧ ((opN k).nm.toList == s.toList) = true
  · obtain ⟨k, hk, e⟩ := h
    have e1 := eq_of_beq e
    have e2 : (opN k).nm = s := by
      simp only [ByteArray.toList_eq] at e1
      exact ByteArray.ext (Array.ext' e1)
    rw [← e2, codM_nm k hk, codN_nm k hk]
  · have h2 : ∀ k, k < 13 → ((opN k).nm.toList == s.toList) = false := fun k hk => by
      cases e : ((opN k).nm.toList == s.toList)
      · rfl
      · exact absurd ⟨k, hk, e⟩ h
    rw [codM_none 13 h2, codN_none h2 13 (Nat.le_refl _)]

/-- What it writes, what it tells. -/
theorem opN_w : ∀ k, k < 13 → (opN k).w = (k == 2 || k == 12) ∧ (opN k).t = (k == 0 || (k == 1 || (k == 10 || k == 11))) := by
  intro k hk
  match k, hk with
  | 0, _ | 1, _ | 2, _ | 3, _ | 4, _ | 5, _ | 6, _ | 7, _ | 8, _ | 9, _ | 10, _ | 11, _ | 12, _ => decide
theorem opOf_wt {n : Int} (h0 : n ≠ 0) (h1 : n ≠ 1) (h2 : n ≠ 2) (h10 : n ≠ 10) (h11 : n ≠ 11) (h12 : n ≠ 12) : (opOf n).w = false ∧ (opOf n).t = false := by
  cases hq : inR n 13
  · rw [opOf_no hq]; exact ⟨rfl, rfl⟩
  · obtain ⟨k, rfl⟩ := Int.eq_ofNat_of_zero_le (inR_iff.1 hq).1
    have hk : k < 13 := by have := (inR_iff.1 hq).2; omega
    rw [opOf_nat hk, (opN_w k hk).1, (opN_w k hk).2]
    have e0 : (k == 0) = false := by simp; omega
    have e1 : (k == 1) = false := by simp; omega
    have e2 : (k == 2) = false := by simp; omega
    have e10 : (k == 10) = false := by simp; omega
    have e11 : (k == 11) = false := by simp; omega
    have e12 : (k == 12) = false := by simp; omega
    rw [e0, e1, e2, e10, e11, e12]
    exact ⟨rfl, rfl⟩
/-- Its registers, by its code. -/
theorem regsOf_two {x : It} (h : x.o = 1 ∨ x.o = 5 ∨ x.o = 7) : regsOf x = [x.a, x.b] := by
  unfold regsOf
  rcases h with h | h | h <;> rw [h] <;> rfl
theorem regsOf_store {x : It} (h : x.o = 2) : regsOf x = [x.a, x.c] := by
  unfold regsOf
  rw [h]; rfl
theorem regsOf_one {x : It} (hq : inR x.o 13 = true) (h1 : x.o ≠ 1) (h5 : x.o ≠ 5) (h7 : x.o ≠ 7) (h2 : x.o ≠ 2) : regsOf x = [x.a] := by
  unfold regsOf
  obtain ⟨k, e⟩ := Int.eq_ofNat_of_zero_le (inR_iff.1 hq).1
  have hk : k < 13 := by have := (inR_iff.1 hq).2; omega
  rw [e] at h1 h5 h7 h2
  rw [e, opOf_nat hk]
  match k, hk with
  | 0, _ | 3, _ | 4, _ | 6, _ | 8, _ | 9, _ | 10, _ | 11, _ | 12, _ => rfl
  | 1, _ => exact absurd rfl h1
  | 5, _ => exact absurd rfl h5
  | 7, _ => exact absurd rfl h7
  | 2, _ => exact absurd rfl h2
theorem regsOf_none {x : It} (h : inR x.o 13 = false) : regsOf x = [] := by
  unfold regsOf
  rw [opOf_no h]
  rfl
end Go.Proofs.YtdkakbddhckbnaaDoor
