/- Plain: what an arena is, as pages' classes, taken cells and words; taking and giving. It speaks of no program's text. -/
import Derived.Test.YtoemfehlnnbjdaaDoorSzA
namespace Go.Proofs.YtoemfehlnnbjdaaDoor
open Go Go.RowKit
set_option linter.unusedSimpArgs false

/-- A row of integers. -/
def row (n : Nat) (f : Nat → Int) : Array Value := Array.ofFn (n := n) fun k => Value.int .i64 (f k.val)
def upd (f : Nat → Int) (p : Nat) (v : Int) : Nat → Int := fun q => if q = p then v else f q
def clr (f : Nat → Int) (r n : Nat) : Nat → Int := fun q => if r ≤ q ∧ q < r + n then 0 else f q
theorem row_size (n : Nat) (f : Nat → Int) : (row n f).size = n := by simp [row]
theorem row_get {n : Nat} (f : Nat → Int) {k : Nat} (h : k < n) : (row n f)[k]? = some (.int .i64 (f k)) := by
  simp [row, Array.getElem?_eq_getElem, h]
theorem row_congr {n : Nat} {f g : Nat → Int} (h : ∀ k, k < n → f k = g k) : row n f = row n g := by
  apply Array.ext
  · simp [row]
  · intro k h1 h2
    simp [row] at h1 ⊢
    exact h k h1
theorem row_set {n : Nat} (f : Nat → Int) {k : Nat} (v : Int) (h : k < n) : (row n f).setIfInBounds k (.int .i64 v) = row n (upd f k v) := by
  apply Array.ext_getElem?
  intro j
  by_cases e : k = j
  · subst e
    rw [Array.getElem?_setIfInBounds_self, row_get _ h, row_size]
    simp [h, upd]
  · rw [Array.getElem?_setIfInBounds_ne e]
    have e2 : ¬ j = k := fun x => e x.symm
    by_cases hj : j < n
    · rw [row_get _ hj, row_get _ hj]; simp [upd, e2]
    · rw [Array.getElem?_eq_none (by rw [row_size]; omega), Array.getElem?_eq_none (by rw [row_size]; omega)]
theorem row_const (n : Nat) (v : Int) : Array.replicate n (Value.int .i64 v) = row n (fun _ => v) := by
  apply Array.ext
  · simp [row]
  · intro k h1 h2; simp [row]

/-- The page in which a Ref lies. -/
def pg (r : Nat) : Nat := (r - 1) / 32
def putN (S : Nat → Bool) (r : Nat) : Nat → Bool := fun j => S j || decide (j = r)
def dropN (S : Nat → Bool) (r : Nat) : Nat → Bool := fun j => S j && !decide (j = r)
def usedIn (S : Nat → Bool) (p : Nat) : Bool := (List.range 32).any fun k => S (32 * p + k + 1)
theorem usedIn_yes {S : Nat → Bool} {p : Nat} : usedIn S p = true ↔ ∃ k, k < 32 ∧ S (32 * p + k + 1) = true := by
  simp [usedIn, List.any_eq_true]
theorem usedIn_pg {S : Nat → Bool} {r : Nat} (h1 : 1 ≤ r) (h : S r = true) : usedIn S (pg r) = true :=
  usedIn_yes.2 ⟨(r - 1) % 32, by omega, by unfold pg; rw [show 32 * ((r - 1) / 32) + (r - 1) % 32 + 1 = r by omega]; exact h⟩

/-- Pages' classes, taken cells, words. -/
structure ArS where
  P : Nat
  cls : Nat → Int
  S : Nat → Bool
  ws : Nat → Int

def okC (c : Int) : Bool := decide (0 ≤ c) && decide (c ≤ 2)
theorem okC_yes {c : Int} (h0 : 0 ≤ c) (h2 : c ≤ 2) : okC c = true := by simp [okC, h0, h2]
theorem okC_no {c : Int} (h : c < 0 ∨ 2 < c) : okC c = false := by simp [okC]; omega
theorem okC_cases {c : Int} (h : okC c = true) : c = 0 ∨ c = 1 ∨ c = 2 := by simp [okC] at h; omega
/-- How long a class's cells are. -/
def wN (c : Int) : Nat := (wordsOf c).toNat

/-- What holds of every arena. -/
structure Fits (s : ArS) : Prop where
  p64 : s.P ≤ 64
  cl : ∀ p, p < s.P → s.cls p = -1 ∨ okC (s.cls p) = true
  at_ : ∀ r, s.S r = true → 1 ≤ r ∧ r ≤ 32 * s.P ∧ okC (s.cls (pg r)) = true ∧ (r - 1) % 32 % wN (s.cls (pg r)) = 0
  used : ∀ p, p < s.P → s.cls p ≠ -1 → usedIn s.S p = true

/-- Is there a free cell of class c with Ref r? -/
def free1 (s : ArS) (c : Int) (r : Nat) : Bool := decide (1 ≤ r) && (decide (r ≤ 32 * s.P) && (decide (s.cls (pg r) = c) && (decide ((r - 1) % 32 % wN c = 0) && !s.S r)))
theorem free1_mk {s : ArS} {c : Int} {r : Nat} (h1 : 1 ≤ r) (h2 : r ≤ 32 * s.P) (h3 : s.cls (pg r) = c) (h4 : (r - 1) % 32 % wN c = 0) (h5 : s.S r = false) : free1 s c r = true := by
  simp [free1, h1, h2, h3, h4, h5]
theorem free1_open {s : ArS} {c : Int} {r : Nat} (h : free1 s c r = true) : 1 ≤ r ∧ r ≤ 32 * s.P ∧ s.cls (pg r) = c ∧ (r - 1) % 32 % wN c = 0 ∧ s.S r = false := by
  simpa [free1] using h

/-- The first free page below p, as its first cell; 0: there is none. -/
def spare (s : ArS) (p : Nat) : Nat := match (List.range p).find? (fun q => s.cls q == -1) with
  | some q => 32 * q + 1
  | none => 0
/-- The Ref that is taken next; 0: there is no room. -/
def seekF (s : ArS) (c : Int) : Nat :=
  if okC c = true then match (List.range (32 * s.P + 1)).find? (free1 s c) with
    | some r => r
    | none => spare s s.P
  else 0

theorem spare_zero (s : ArS) : spare s 0 = 0 := rfl
theorem spare_cases (s : ArS) (p : Nat) : (∃ q, q < p ∧ s.cls q = -1 ∧ (∀ q', q' < q → s.cls q' ≠ -1) ∧ spare s p = 32 * q + 1) ∨ ((∀ q, q < p → s.cls q ≠ -1) ∧ spare s p = 0) := by
  unfold spare
  cases h : (List.range p).find? (fun q => s.cls q == -1) with
  | none =>
    right
    rw [List.find?_eq_none] at h
    exact ⟨fun q hq e => h q (by simpa using hq) (by simp [e]), rfl⟩
  | some q =>
    left
    rw [List.find?_range_eq_some] at h
    obtain ⟨h1, h2, h3⟩ := h
    exact ⟨q, by simpa using h2, by simpa using h1, fun q' hq' => by simpa using h3 q' hq', rfl⟩
theorem spare_first {s : ArS} {p q : Nat} (hq : q < p) (h : s.cls q = -1) (hm : ∀ q', q' < q → s.cls q' ≠ -1) : spare s p = 32 * q + 1 := by
  rcases spare_cases s p with ⟨q2, h1, h2, h3, h4⟩ | ⟨h1, _⟩
  · have : q2 = q := by
      rcases Nat.lt_trichotomy q2 q with x | x | x
      · exact absurd h2 (hm _ x)
      · exact x
      · exact absurd h (h3 _ x)
    rw [h4, this]
  · exact absurd h (h1 q hq)
theorem spare_none {s : ArS} {p : Nat} (h : ∀ q, q < p → s.cls q ≠ -1) : spare s p = 0 := by
  rcases spare_cases s p with ⟨q, h1, h2, _, _⟩ | ⟨_, h2⟩
  · exact absurd h2 (h q h1)
  · exact h2
theorem spare_step {s : ArS} {p : Nat} : spare s (p + 1) = if s.cls p = -1 ∧ spare s p = 0 then 32 * p + 1 else spare s p := by
  rcases spare_cases s p with ⟨q, h1, h2, h3, h4⟩ | ⟨h1, h2⟩
  · rw [if_neg (by omega), h4]
    exact spare_first (by omega) h2 h3
  · by_cases e : s.cls p = -1
    · rw [if_pos ⟨e, h2⟩]
      exact spare_first (by omega) e h1
    · rw [if_neg (fun x => e x.1), h2]
      exact spare_none fun q hq => by
        by_cases x : q = p
        · rw [x]; exact e
        · exact h1 q (by omega)
theorem spare_le (s : ArS) (p : Nat) : spare s p ≤ 32 * p := by
  rcases spare_cases s p with ⟨q, h1, _, _, h4⟩ | ⟨_, h2⟩ <;> omega

theorem seekF_bad {s : ArS} {c : Int} (h : okC c = false) : seekF s c = 0 := by unfold seekF; rw [if_neg (by rw [h]; decide)]
theorem seekF_cell {s : ArS} {c : Int} {r : Nat} (hc : okC c = true) (h : free1 s c r = true) (hm : ∀ r', r' < r → free1 s c r' = false) : seekF s c = r := by
  unfold seekF
  rw [if_pos hc]
  have e : (List.range (32 * s.P + 1)).find? (free1 s c) = some r := by
    rw [List.find?_range_eq_some]
    exact ⟨h, by have := (free1_open h).2.1; simp; omega, fun j hj => by simp [hm j hj]⟩
  rw [e]
theorem seekF_page {s : ArS} {c : Int} (hc : okC c = true) (h : ∀ r, r ≤ 32 * s.P → free1 s c r = false) : seekF s c = spare s s.P := by
  unfold seekF
  rw [if_pos hc]
  have e : (List.range (32 * s.P + 1)).find? (free1 s c) = none := by
    rw [List.find?_eq_none]
    intro r hr
    simp [h r (by simp at hr; omega)]
  rw [e]
theorem seekF_cases (s : ArS) (c : Int) : (okC c = false ∧ seekF s c = 0) ∨ (okC c = true ∧ ((free1 s c (seekF s c) = true ∧ ∀ r', r' < seekF s c → free1 s c r' = false) ∨ ((∀ r, free1 s c r = false) ∧ seekF s c = spare s s.P))) := by
  cases hc : okC c with
  | false => exact .inl ⟨rfl, seekF_bad hc⟩
  | true =>
    refine .inr ⟨rfl, ?_⟩
    cases h : (List.range (32 * s.P + 1)).find? (free1 s c) with
    | none =>
      right
      rw [List.find?_eq_none] at h
      have h' : ∀ r, free1 s c r = false := fun r => by
        cases e : free1 s c r with
        | false => rfl
        | true => exact absurd e (h r (by have := (free1_open e).2.1; simp; omega))
      exact ⟨h', seekF_page hc fun r _ => h' r⟩
    | some r =>
      left
      rw [List.find?_range_eq_some] at h
      obtain ⟨h1, h2, h3⟩ := h
      have e := seekF_cell hc h1 (fun r' hr' => by simpa using h3 r' hr')
      rw [e]
      exact ⟨h1, fun r' hr' => by simpa using h3 r' hr'⟩
/-- What is known of the Ref that is taken. -/
theorem seekF_is {s : ArS} (hF : Fits s) {c : Int} (h : seekF s c ≠ 0) : okC c = true ∧ 1 ≤ seekF s c ∧ seekF s c ≤ 32 * s.P ∧ pg (seekF s c) < s.P ∧ s.S (seekF s c) = false ∧ (seekF s c - 1) % 32 % wN c = 0 ∧ (s.cls (pg (seekF s c)) = c ∨ s.cls (pg (seekF s c)) = -1 ∧ ∀ k, k < 32 → s.S (32 * pg (seekF s c) + k + 1) = false) := by
  rcases seekF_cases s c with ⟨_, h0⟩ | ⟨hc, h1 | ⟨_, h1⟩⟩
  · exact absurd h0 h
  · obtain ⟨a1, a2, a3, a4, a5⟩ := free1_open h1.1
    exact ⟨hc, a1, a2, by unfold pg; omega, a5, a4, .inl a3⟩
  · rcases spare_cases s s.P with ⟨q, b1, b2, _, b4⟩ | ⟨_, b2⟩
    · rw [h1, b4]
      have e : pg (32 * q + 1) = q := by unfold pg; omega
      have hfree : ∀ k, k < 32 → s.S (32 * q + k + 1) = false := fun k hk => by
        cases hS : s.S (32 * q + k + 1) with
        | false => rfl
        | true =>
          have := (hF.at_ _ hS).2.2.1
          rw [show pg (32 * q + k + 1) = q by unfold pg; omega, b2] at this
          simp [okC] at this
      refine ⟨hc, by omega, by omega, by rw [e]; exact b1, hfree 0 (by omega), by rw [show (32 * q + 1 - 1) % 32 = 0 by omega]; simp, ?_⟩
      rw [e]
      exact .inr ⟨b2, hfree⟩
    · rw [h1] at h; exact absurd b2 h

def ArS.take (s : ArS) (c : Int) : ArS := if seekF s c = 0 then s else { s with cls := upd s.cls (pg (seekF s c)) c, S := putN s.S (seekF s c), ws := clr s.ws (seekF s c) (wN c) }
def giveCls (s : ArS) (r : Nat) : Nat → Int := if usedIn (dropN s.S r) (pg r) = true then s.cls else upd s.cls (pg r) (-1)
def ArS.give (s : ArS) (r : Nat) : ArS := if s.S r = true then { s with cls := giveCls s r, S := dropN s.S r } else s
theorem take_P (s : ArS) (c : Int) : (s.take c).P = s.P := by unfold ArS.take; split <;> rfl
theorem give_P (s : ArS) (r : Nat) : (s.give r).P = s.P := by unfold ArS.give; split <;> rfl
theorem take_none {s : ArS} {c : Int} (h : seekF s c = 0) : s.take c = s := by unfold ArS.take; rw [if_pos h]
theorem take_some {s : ArS} {c : Int} (h : seekF s c ≠ 0) : s.take c = { s with cls := upd s.cls (pg (seekF s c)) c, S := putN s.S (seekF s c), ws := clr s.ws (seekF s c) (wN c) } := by unfold ArS.take; rw [if_neg h]

theorem Fits.take {s : ArS} (h : Fits s) (c : Int) : Fits (s.take c) := by
  by_cases h0 : seekF s c = 0
  · rw [take_none h0]; exact h
  · obtain ⟨hc, h1, h2, h3, h4, h5, h6⟩ := seekF_is h h0
    rw [take_some h0]
    generalize seekF s c = r at *
    refine ⟨h.p64, fun p hp => ?_, fun j hj => ?_, fun p hp hne => ?_⟩
    · show upd s.cls (pg r) c p = -1 ∨ _
      unfold upd
      by_cases e : p = pg r
      · right; simp only [e, if_true]; exact hc
      · simp only [e, if_false]; exact h.cl p hp
    · show 1 ≤ j ∧ j ≤ 32 * s.P ∧ okC (upd s.cls (pg r) c (pg j)) = true ∧ (j - 1) % 32 % wN (upd s.cls (pg r) c (pg j)) = 0
      have hj' : s.S j = true ∨ j = r := by simpa [putN] using hj
      rcases hj' with hj' | rfl
      · obtain ⟨g1, g2, g3, g4⟩ := h.at_ j hj'
        unfold upd
        by_cases e : pg j = pg r
        · simp only [e, if_true]
          rcases h6 with h6 | ⟨_, h6⟩
          · rw [e, h6] at g4
            exact ⟨g1, g2, hc, g4⟩
          · have := h6 ((j - 1) % 32) (by omega)
            rw [show 32 * pg r + (j - 1) % 32 + 1 = j by rw [← e]; unfold pg; omega, hj'] at this
            cases this
        · simp only [e, if_false]; exact ⟨g1, g2, g3, g4⟩
      · unfold upd
        simp only [if_true]
        exact ⟨h1, h2, hc, h5⟩
    · show usedIn (putN s.S r) p = true
      by_cases e : p = pg r
      · subst e
        exact usedIn_pg h1 (by simp [putN])
      · have hne' : s.cls p ≠ -1 := by
          have : upd s.cls (pg r) c p ≠ -1 := hne
          unfold upd at this
          rwa [if_neg e] at this
        obtain ⟨k, hk, hS⟩ := usedIn_yes.1 (h.used p hp hne')
        exact usedIn_yes.2 ⟨k, hk, by simp [putN, hS]⟩

theorem Fits.give {s : ArS} (h : Fits s) (r : Nat) : Fits (s.give r) := by
  unfold ArS.give
  by_cases h0 : s.S r = true
  · rw [if_pos h0]
    obtain ⟨a1, a2, a3, a4⟩ := h.at_ r h0
    by_cases hu : usedIn (dropN s.S r) (pg r) = true
    · have e : giveCls s r = s.cls := by unfold giveCls; rw [if_pos hu]
      rw [e]
      refine ⟨h.p64, h.cl, fun j hj => h.at_ j (by simp [dropN] at hj; exact hj.1), fun p hp hne => ?_⟩
      by_cases e2 : p = pg r
      · rw [e2]; exact hu
      · obtain ⟨k, hk, hS⟩ := usedIn_yes.1 (h.used p hp hne)
        refine usedIn_yes.2 ⟨k, hk, ?_⟩
        have : ¬ 32 * p + k + 1 = r := fun x => e2 (by rw [← x]; unfold pg; omega)
        simp [dropN, hS, this]
    · have e : giveCls s r = upd s.cls (pg r) (-1) := by unfold giveCls; rw [if_neg hu]
      rw [e]
      refine ⟨h.p64, fun p hp => ?_, fun j hj => ?_, fun p hp hne => ?_⟩
      · show upd s.cls (pg r) (-1) p = -1 ∨ okC (upd s.cls (pg r) (-1) p) = true
        unfold upd
        by_cases e2 : p = pg r
        · left; simp only [e2, if_true]
        · simp only [e2, if_false]; exact h.cl p hp
      · have hj' : s.S j = true := by simp [dropN] at hj; exact hj.1
        obtain ⟨g1, g2, g3, g4⟩ := h.at_ j hj'
        have e2 : ¬ pg j = pg r := fun x => hu (by rw [← x]; exact usedIn_pg g1 hj)
        show 1 ≤ j ∧ j ≤ 32 * s.P ∧ okC (upd s.cls (pg r) (-1) (pg j)) = true ∧ (j - 1) % 32 % wN (upd s.cls (pg r) (-1) (pg j)) = 0
        unfold upd
        simp only [e2, if_false]
        exact ⟨g1, g2, g3, g4⟩
      · have hne2 : upd s.cls (pg r) (-1) p ≠ -1 := hne
        unfold upd at hne2
        by_cases e2 : p = pg r
        · rw [if_pos e2] at hne2; exact absurd rfl hne2
        · rw [if_neg e2] at hne2
          obtain ⟨k, hk, hS⟩ := usedIn_yes.1 (h.used p hp hne2)
          refine usedIn_yes.2 ⟨k, hk, ?_⟩
          have : ¬ 32 * p + k + 1 = r := fun x => e2 (by rw [← x]; unfold pg; omega)
          simp [dropN, hS, this]
  · rw [if_neg h0]; exact h

/-- An arena of free pages. -/
def ArS.new (P : Nat) : ArS := ⟨P, fun _ => -1, fun _ => false, fun _ => 0⟩
theorem fits_new {P : Nat} (h : P ≤ 64) : Fits (.new P) :=
  ⟨h, fun _ _ => .inl rfl, fun _ hr => (by cases hr), fun _ _ hne => absurd rfl hne⟩
end Go.Proofs.YtoemfehlnnbjdaaDoor
