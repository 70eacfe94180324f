/- Plain: registers that aren't 0, by their numbers, as a row of pairs. It speaks of no program. -/
import Derived.Test.YtoemfehlnnbjdaaHeap
import Derived.Laws.OwnMore
import Derived.WalkSmall
namespace Go.Proofs.Ytoemfehlnnbjdaa
open Go Go.RowKit
set_option linter.unusedSimpArgs false
set_option linter.unusedVariables false

/-- Register i, if it isn't 0. -/
def oneR (f : Nat → Int) (i : Nat) : List (Nat × Int) := if f i = 0 then [] else [(i, f i)]
/-- The registers from a on, n of them, that aren't 0. -/
def segR (f : Nat → Int) (a : Nat) : Nat → List (Nat × Int)
  | 0 => []
  | n + 1 => segR f a n ++ oneR f (a + n)
theorem segR_add (f : Nat → Int) (a n : Nat) : ∀ m, segR f a (n + m) = segR f a n ++ segR f (a + n) m
  | 0 => by simp [segR]
  | m + 1 => by rw [← Nat.add_assoc]; simp [segR, segR_add f a n m, Nat.add_assoc]
theorem oneR_mem {f : Nat → Int} {i : Nat} {p : Nat × Int} (h : p ∈ oneR f i) : p.1 = i ∧ p.2 = f i ∧ f i ≠ 0 := by
  unfold oneR at h
  split at h
  · cases h
  · next h0 =>
    have e : p = (i, f i) := by simpa using h
    rw [e]; exact ⟨rfl, rfl, h0⟩
theorem segR_mem {f : Nat → Int} {a : Nat} {p : Nat × Int} : ∀ {n}, p ∈ segR f a n → a ≤ p.1 ∧ p.1 < a + n ∧ p.2 = f p.1 ∧ f p.1 ≠ 0
  | 0, h => by cases h
  | n + 1, h => by
    rcases List.mem_append.1 h with h | h
    · obtain ⟨h1, h2, h3, h4⟩ := segR_mem h
      exact ⟨h1, by omega, h3, h4⟩
    · obtain ⟨h1, h2, h3⟩ := oneR_mem h
      rw [← h1] at h2 h3
      exact ⟨by omega, by omega, h2, h3⟩
theorem segR_congr {f g : Nat → Int} {a : Nat} : ∀ {n}, (∀ k, a ≤ k → k < a + n → f k = g k) → segR f a n = segR g a n
  | 0, _ => rfl
  | n + 1, h => by
    show segR f a n ++ oneR f (a + n) = segR g a n ++ oneR g (a + n)
    rw [segR_congr (n := n) (fun k h1 h2 => h k h1 (by omega))]
    unfold oneR
    rw [h (a + n) (by omega) (by omega)]
theorem segR_length (f : Nat → Int) (a : Nat) : ∀ n, (segR f a n).length ≤ n
  | 0 => Nat.le_refl _
  | n + 1 => by
    have h := segR_length f a n
    have h1 : (oneR f (a + n)).length ≤ 1 := by unfold oneR; split <;> simp
    show (segR f a n ++ oneR f (a + n)).length ≤ n + 1
    rw [List.length_append]; omega
theorem segR_none {f : Nat → Int} (h : ∀ k, f k = 0) (a : Nat) : ∀ n, segR f a n = []
  | 0 => rfl
  | n + 1 => by
    show segR f a n ++ oneR f (a + n) = []
    rw [segR_none h a n]
    unfold oneR
    rw [if_pos (h _)]; rfl
/-- Register i is something else. -/
def updR (f : Nat → Int) (i : Nat) (r : Int) : Nat → Int := fun j => if j = i then r else f j
theorem segR_split (f : Nat → Int) {i n : Nat} (h : i < n) : segR f 0 n = segR f 0 i ++ (oneR f i ++ segR f (i + 1) (n - i - 1)) := by
  have e1 := segR_add f 0 (i + 1) (n - i - 1)
  rw [show i + 1 + (n - i - 1) = n by omega] at e1
  rw [e1]
  show (segR f 0 i ++ oneR f (0 + i)) ++ segR f (0 + (i + 1)) (n - i - 1) = _
  rw [Nat.zero_add, Nat.zero_add, List.append_assoc]
theorem segR_upd (f : Nat → Int) {i n : Nat} (h : i < n) (r : Int) : segR (updR f i r) 0 n = segR f 0 i ++ ((if r = 0 then [] else [(i, r)]) ++ segR f (i + 1) (n - i - 1)) := by
  rw [segR_split _ h]
  congr 1
  · exact segR_congr fun k _ h2 => by unfold updR; rw [if_neg (by omega)]
  · congr 1
    · unfold oneR updR; rw [if_pos rfl]
    · exact segR_congr fun k h1 _ => by unfold updR; rw [if_neg (by omega)]
/-- Where register i stands, or would: all ahead are below it, and all behind not. -/
theorem segR_cut (f : Nat → Int) {i n : Nat} (h : i ≤ n) : (segR f 0 i).length ≤ (segR f 0 n).length ∧ (∀ t (ht : t < (segR f 0 n).length), t < (segR f 0 i).length → (segR f 0 n)[t].1 < i) ∧ (∀ t (ht : t < (segR f 0 n).length), (segR f 0 i).length ≤ t → i ≤ (segR f 0 n)[t].1) := by
  have e := segR_add f 0 i (n - i)
  rw [show i + (n - i) = n by omega, Nat.zero_add] at e
  refine ⟨by rw [e, List.length_append]; omega, fun t ht h1 => ?_, fun t ht h1 => ?_⟩
  · have hg : (segR f 0 n)[t]? = some (segR f 0 i)[t] := by rw [e, List.getElem?_append_left h1]; simp
    have e2 : (segR f 0 n)[t] = (segR f 0 i)[t] := by rw [List.getElem?_eq_getElem ht] at hg; exact Option.some.inj hg
    rw [e2]
    have := (segR_mem (List.getElem_mem h1)).2.1
    omega
  · have hm : (segR f 0 n)[t] ∈ segR f i (n - i) := by
      have hg : (segR f 0 n)[t]? = (segR f i (n - i))[t - (segR f 0 i).length]? := by rw [e, List.getElem?_append_right h1]
      rw [List.getElem?_eq_getElem ht] at hg
      exact List.mem_of_getElem? hg.symm
    exact (segR_mem hm).1
/-- What stands there is register i, if it isn't 0. -/
theorem segR_at (f : Nat → Int) {i n : Nat} (h : i ≤ n) : (decide ((segR f 0 i).length < (segR f 0 n).length) && decide (((segR f 0 n).getD (segR f 0 i).length (0, 0)).1 = i)) = (decide (i < n) && !decide (f i = 0)) ∧
    (i < n → f i ≠ 0 → (segR f 0 n)[(segR f 0 i).length]? = some (i, f i)) := by
  by_cases hn : i < n
  · by_cases h0 : f i = 0
    · refine ⟨?_, fun _ h1 => absurd h0 h1⟩
      rw [decide_eq_true hn, decide_eq_true h0]
      have e : segR f 0 n = segR f 0 i ++ segR f (i + 1) (n - i - 1) := by rw [segR_split f hn]; unfold oneR; rw [if_pos h0]; rfl
      by_cases hl : (segR f 0 i).length < (segR f 0 n).length
      · have hg : (segR f 0 n)[(segR f 0 i).length]? = (segR f (i + 1) (n - i - 1))[0]? := by rw [e, List.getElem?_append_right (Nat.le_refl _), Nat.sub_self]
        rw [List.getElem?_eq_getElem hl] at hg
        have hm := (segR_mem (List.mem_of_getElem? hg.symm)).1
        have e2 : (segR f 0 n).getD (segR f 0 i).length (0, 0) = (segR f 0 n)[(segR f 0 i).length] := by simp [List.getD, hl]
        have hne : ¬ ((segR f 0 n)[(segR f 0 i).length]).1 = i := by omega
        rw [e2, decide_eq_false hne]
        simp
      · rw [decide_eq_false hl]; rfl
    · have e : segR f 0 n = segR f 0 i ++ ([(i, f i)] ++ segR f (i + 1) (n - i - 1)) := by rw [segR_split f hn]; unfold oneR; rw [if_neg h0]
      have hg : (segR f 0 n)[(segR f 0 i).length]? = some (i, f i) := by rw [e, List.getElem?_append_right (Nat.le_refl _), Nat.sub_self]; rfl
      refine ⟨?_, fun _ _ => hg⟩
      have hl : (segR f 0 i).length < (segR f 0 n).length := (List.getElem?_eq_some_iff.1 hg).1
      have e2 : (segR f 0 n).getD (segR f 0 i).length (0, 0) = (i, f i) := by simp [List.getD, hg]
      rw [e2, decide_eq_true hl, decide_eq_true hn, decide_eq_false h0]
      simp
  · obtain rfl : i = n := by omega
    exact ⟨by simp, fun h1 => absurd h1 hn⟩

/-- A row of registers, cell by cell. -/
def regCells : List (Nat × Int) → List Value
  | [] => []
  | p :: L => .int .i64 (p.1 : Int) :: .int .i64 p.2 :: regCells L
theorem regCells_length : ∀ L, (regCells L).length = L.length * 2
  | [] => rfl
  | p :: L => by simp [regCells, regCells_length L]; omega
theorem regCells_append : ∀ L M, regCells (L ++ M) = regCells L ++ regCells M
  | [], _ => rfl
  | p :: L, M => by simp [regCells, regCells_append L M]
theorem regCells_get : ∀ (L : List (Nat × Int)) (t : Nat) (p : Nat × Int), L[t]? = some p → (regCells L)[t * 2]? = some (.int .i64 (p.1 : Int)) ∧ (regCells L)[t * 2 + 1]? = some (.int .i64 p.2)
  | [], t, p, h => by simp at h
  | q :: L, 0, p, h => by simp at h; subst h; exact ⟨rfl, rfl⟩
  | q :: L, t + 1, p, h => by
    obtain ⟨h1, h2⟩ := regCells_get L t p (by simpa using h)
    rw [show (t + 1) * 2 = t * 2 + 1 + 1 by omega]
    exact ⟨by simpa [regCells] using h1, by simpa [regCells] using h2⟩
theorem regCells_one : ∀ L, ∀ u ∈ regCells L, u.oneCell' = true
  | [], u, h => by cases h
  | p :: L, u, h => by
    simp [regCells] at h
    rcases h with rfl | rfl | h
    · rfl
    · rfl
    · exact regCells_one L u h
theorem regCells_take (L : List (Nat × Int)) (k : Nat) (h : k ≤ L.length) : (regCells L).take (k * 2) = regCells (L.take k) := by
  have e : regCells L = regCells (L.take k) ++ regCells (L.drop k) := by rw [← regCells_append, List.take_append_drop]
  have hl : (regCells (L.take k)).length = k * 2 := by rw [regCells_length, List.length_take, Nat.min_eq_left h]
  rw [e, ← hl]; exact List.take_left
theorem regCells_drop (L : List (Nat × Int)) (k : Nat) (h : k ≤ L.length) : (regCells L).drop (k * 2) = regCells (L.drop k) := by
  have e : regCells L = regCells (L.take k) ++ regCells (L.drop k) := by rw [← regCells_append, List.take_append_drop]
  have hl : (regCells (L.take k)).length = k * 2 := by rw [regCells_length, List.length_take, Nat.min_eq_left h]
  rw [e, ← hl]; exact List.drop_left
end Go.Proofs.Ytoemfehlnnbjdaa
