/- Plain: what a sweep makes of an arena and of colours, page by page. -/
import Derived.Test.YtidpmplkbgllfaaGreatDoorUh
import Derived.Test.YtidpmplkbgllfaaGreatDoorUg
import Derived.Test.YtidpmplkbgllfaaGreatDoorArPa
namespace Go.Proofs.YtidpmplkbgllfaaGreatDoor
open Go Go.RowKit
set_option linter.unusedSimpArgs false
set_option linter.unusedVariables false

/-- A page's taken cells, rising. -/
def pgL (S : Nat → Bool) (p : Nat) : List Nat := (elems (inPage S p) 32).map fun o => 32 * p + o + 1
theorem pgL_mem {S : Nat → Bool} {p r : Nat} : r ∈ pgL S p ↔ S r = true ∧ 1 ≤ r ∧ pg r = p := by
  unfold pgL elems inPage pg
  constructor
  · intro h
    obtain ⟨o, ho, rfl⟩ := List.mem_map.1 h
    obtain ⟨h1, h2⟩ := List.mem_filter.1 ho
    have := List.mem_range.1 h1
    exact ⟨h2, by omega, by omega⟩
  · rintro ⟨h1, h2, h3⟩
    refine List.mem_map.2 ⟨(r - 1) % 32, List.mem_filter.2 ⟨List.mem_range.2 (by omega), ?_⟩, by omega⟩
    rw [show 32 * p + (r - 1) % 32 + 1 = r by omega]; exact h1
theorem pgL_up (S : Nat → Bool) (p : Nat) : (pgL S p).Pairwise (· < ·) := by
  unfold pgL elems
  exact List.pairwise_map.2 ((List.pairwise_lt_range.filter _).imp fun h => by omega)
theorem pgL_nodup (S : Nat → Bool) (p : Nat) : (pgL S p).Nodup := (pgL_up S p).imp fun h => by omega
theorem pgL_length (S : Nat → Bool) (p : Nat) : (pgL S p).length = matesOf S p := by
  unfold pgL matesOf; rw [List.length_map]
theorem pgL_le (S : Nat → Bool) (p : Nat) : (pgL S p).length ≤ 32 := by
  rw [pgL_length]; exact mates_le S p

/-- Cells are given back one behind the other. -/
def giveL (s : ArS) (l : List Nat) : ArS := l.foldl (fun (s : ArS) (r : Nat) => s.giveI (r : Int)) s
theorem giveL_snoc (s : ArS) (l : List Nat) (r : Nat) : giveL s (l ++ [r]) = (giveL s l).giveI (r : Int) := by unfold giveL; simp
theorem giveI_S (s : ArS) (r q : Nat) : (s.giveI (r : Int)).S q = (s.S q && !decide (q = r)) := by
  cases h : s.S r with
  | true => rw [giveI_nat h]; rfl
  | false =>
    rw [giveI_no (by rw [inS_nat]; exact h)]
    by_cases e : q = r
    · rw [e, h]; rfl
    · simp [e]
theorem giveL_S (s : ArS) (l : List Nat) (q : Nat) : (giveL s l).S q = (s.S q && !decide (q ∈ l)) := by
  induction l generalizing s with
  | nil => unfold giveL; simp
  | cons r l ih =>
    have e : giveL s (r :: l) = giveL (s.giveI (r : Int)) l := rfl
    rw [e, ih, giveI_S]
    by_cases h1 : q = r <;> by_cases h2 : q ∈ l <;> simp [h1, h2]
theorem giveL_P (s : ArS) (l : List Nat) : (giveL s l).P = s.P := by
  induction l generalizing s with
  | nil => rfl
  | cons r l ih => exact (ih _).trans (giveI_P s _)
theorem Fits.giveL {s : ArS} (h : Fits s) (l : List Nat) : Fits (Go.Proofs.YtidpmplkbgllfaaGreatDoor.giveL s l) := by
  induction l generalizing s with
  | nil => exact h
  | cons r l ih => exact ih (h.giveI _)
theorem giveI_cls (s : ArS) (r p : Nat) : (s.giveI (r : Int)).cls p = s.cls p ∨ (s.giveI (r : Int)).cls p = -1 := by
  cases h : s.S r with
  | true =>
    rw [giveI_nat h]
    show giveCls s r p = _ ∨ giveCls s r p = _
    unfold giveCls upd
    split
    · exact .inl rfl
    · by_cases e : p = pg r
      · right; simp [e]
      · left; simp [e]
  | false => rw [giveI_no (by rw [inS_nat]; exact h)]; exact .inl rfl
theorem giveL_cls (s : ArS) (l : List Nat) (p : Nat) : (giveL s l).cls p = s.cls p ∨ (giveL s l).cls p = -1 := by
  induction l generalizing s with
  | nil => exact .inl rfl
  | cons r l ih =>
    have e : giveL s (r :: l) = giveL (s.giveI (r : Int)) l := rfl
    rw [e]
    rcases ih (s.giveI (r : Int)) with h | h
    · rw [h]; exact giveI_cls s r p
    · exact .inr h
theorem used_cls {s : ArS} (hF : Fits s) {p : Nat} (h : usedIn s.S p = true) : s.cls p ≠ -1 := fun e => by
  obtain ⟨k, hk, hS⟩ := usedIn_yes.1 h
  have h1 := (hF.at_ _ hS).2.2.1
  rw [show pg (32 * p + k + 1) = p by unfold pg; omega, e] at h1
  cases h1
theorem pgL_used (S : Nat → Bool) (p : Nat) : usedIn S p = decide (pgL S p ≠ []) := by
  rw [mates_used, ← pgL_length]
  cases pgL S p <;> simp
/-- A page keeps its class as long as it has a taken cell. -/
theorem giveL_used {s : ArS} (hF : Fits s) (l : List Nat) {p : Nat} (h : usedIn (giveL s l).S p = true) : (giveL s l).cls p = s.cls p := by
  rcases giveL_cls s l p with e | e
  · exact e
  · exact absurd e (used_cls (hF.giveL l) h)
theorem giveL_free {s : ArS} (hF : Fits s) (l : List Nat) {p : Nat} (hp : p < s.P) (h : usedIn (giveL s l).S p = false) : (giveL s l).cls p = -1 := by
  by_cases e : (giveL s l).cls p = -1
  · exact e
  · have := (hF.giveL l).used p (by rw [giveL_P]; exact hp) e
    rw [h] at this; cases this

/-- They are white, one behind the other. -/
def forgL (c : Col) (l : List Nat) : Col := l.foldl (fun (c : Col) (r : Nat) => c.forget (r : Int)) c
theorem forgL_snoc (c : Col) (l : List Nat) (r : Nat) : forgL c (l ++ [r]) = (forgL c l).forget (r : Int) := by unfold forgL; simp
theorem forgL_ma (c : Col) (l : List Nat) (x : Int) : (forgL c l).ma x = (c.ma x && !decide (∃ r ∈ l, (r : Int) = x)) := by
  induction l generalizing c with
  | nil => unfold forgL; simp
  | cons r l ih =>
    have e : forgL c (r :: l) = forgL (c.forget (r : Int)) l := rfl
    rw [e, ih]
    show (updI c.ma (r : Int) false x && _) = _
    by_cases h1 : x = (r : Int)
    · rw [h1, updI_at]; simp
    · rw [updI_ne h1]
      have h2 : (∃ r' ∈ r :: l, (r' : Int) = x) ↔ ∃ r' ∈ l, (r' : Int) = x := by
        constructor
        · rintro ⟨r', hr, e⟩
          rcases List.mem_cons.1 hr with e2 | e2
          · exact absurd (e2 ▸ e.symm) h1
          · exact ⟨r', e2, e⟩
        · rintro ⟨r', hr, e⟩; exact ⟨r', List.mem_cons_of_mem _ hr, e⟩
      simp only [h2]
/-- A cell's object isn't marked. -/
def wht (c : Col) (r : Nat) : Bool := !c.ma (r : Int)
def blk (c : Col) (r : Nat) : Bool := c.ma (r : Int)
/-- What stands when a page was swept. -/
def swS (s : ArS) (c : Col) (p : Nat) : ArS := giveL s ((pgL s.S p).filter (wht c))
def swC (s : ArS) (c : Col) (p : Nat) : Col := forgL c ((pgL s.S p).filter (blk c))
def swL (s : ArS) (c : Col) (p : Nat) : List Int := ((pgL s.S p).filter (wht c)).map fun (r : Nat) => (r : Int)
theorem swS_P (s : ArS) (c : Col) (p : Nat) : (swS s c p).P = s.P := giveL_P _ _
theorem Fits.sw {s : ArS} (h : Fits s) (c : Col) (p : Nat) : Fits (swS s c p) := h.giveL _
theorem swS_S {s : ArS} (hF : Fits s) (c : Col) (p r : Nat) : (swS s c p).S r = (s.S r && (c.ma (r : Int) || !decide (pg r = p))) := by
  unfold swS
  rw [giveL_S]
  cases hS : s.S r with
  | false => rfl
  | true =>
    have h1 := (hF.at_ r hS).1
    have e : r ∈ (pgL s.S p).filter (wht c) ↔ (pg r = p ∧ c.ma (r : Int) = false) := by
      rw [List.mem_filter, pgL_mem]
      unfold wht
      simp [hS, h1]
    simp only [Bool.true_and]
    cases hm : c.ma (r : Int) <;> by_cases e2 : pg r = p <;> simp [e, hm, e2]
theorem swC_ma {s : ArS} (hF : Fits s) (c : Col) (hi : ∀ x, c.ma x = true → inS s.S x = true) (p : Nat) (x : Int) : (swC s c p).ma x = (c.ma x && !decide (pg x.toNat = p)) := by
  unfold swC
  rw [forgL_ma]
  cases hm : c.ma x with
  | false => rfl
  | true =>
    have h1 := hi x hm
    unfold inS at h1
    rw [Bool.and_eq_true] at h1
    have h0 : 0 ≤ x := of_decide_eq_true h1.1
    have h2 := hF.at_ _ h1.2
    simp only [Bool.true_and]
    congr 1
    rw [decide_eq_decide]
    constructor
    · rintro ⟨r, hr, e⟩
      have h3 := (pgL_mem.1 (List.mem_filter.1 hr).1).2.2
      rw [← e]; simpa using h3
    · intro e
      refine ⟨x.toNat, List.mem_filter.2 ⟨pgL_mem.2 ⟨h1.2, h2.1, e⟩, ?_⟩, by omega⟩
      unfold blk
      rw [show ((x.toNat : Nat) : Int) = x by omega]; exact hm
theorem sw_inn {s : ArS} (hF : Fits s) {c : Col} (hi : ∀ x, c.ma x = true → inS s.S x = true) (p : Nat) : ∀ x, (swC s c p).ma x = true → inS (swS s c p).S x = true := fun x hx => by
  rw [swC_ma hF c hi, Bool.and_eq_true] at hx
  have h1 := hi x hx.1
  unfold inS at h1 ⊢
  rw [Bool.and_eq_true] at h1 ⊢
  refine ⟨h1.1, ?_⟩
  have h0 : 0 ≤ x := of_decide_eq_true h1.1
  rw [swS_S hF, h1.2, show ((x.toNat : Nat) : Int) = x by omega, hx.1]; rfl
theorem swL_len (s : ArS) (c : Col) (p : Nat) : (swL s c p).length ≤ 32 := by
  unfold swL
  rw [List.length_map]
  exact Nat.le_trans (List.length_filter_le _ _) (pgL_le _ _)
/-- How many there are falls by what is given back. -/
theorem swS_card {s : ArS} (hF : Fits s) (c : Col) {p : Nat} (N : Nat) (hN : ∀ r, s.S r = true → r < N) : (elems (swS s c p).S N).length + (swL s c p).length = (elems s.S N).length := by
  have h1 : ∀ l : List Nat, ∀ s : ArS, l.Nodup → (∀ r ∈ l, s.S r = true ∧ r < N) → (elems (giveL s l).S N).length + l.length = (elems s.S N).length := by
    intro l
    induction l with
    | nil => intro s _ _; rfl
    | cons r l ih =>
      intro s hn hl
      have e : giveL s (r :: l) = giveL (s.giveI (r : Int)) l := rfl
      have h2 := (List.nodup_cons.1 hn)
      have h3 := hl r (List.mem_cons_self ..)
      have h4 := ih (s.giveI (r : Int)) h2.2 (fun q hq => ⟨by rw [giveI_S, (hl q (List.mem_cons_of_mem _ hq)).1]; simp; exact fun e => h2.1 (e ▸ hq), (hl q (List.mem_cons_of_mem _ hq)).2⟩)
      have h5 := elems_sub (T := s.S) (T' := (s.giveI (r : Int)).S) (o := r) h3.1 (fun j => giveI_S s r j) N h3.2
      rw [e, h5]
      simp only [List.length_cons]
      omega
  have h2 := h1 ((pgL s.S p).filter (wht c)) s ((pgL_nodup _ _).filter _) (fun r hr => by
    have h3 := (pgL_mem.1 (List.mem_filter.1 hr).1).1
    exact ⟨h3, hN r h3⟩)
  unfold swS swL
  rw [List.length_map]
  exact h2
end Go.Proofs.YtidpmplkbgllfaaGreatDoor
