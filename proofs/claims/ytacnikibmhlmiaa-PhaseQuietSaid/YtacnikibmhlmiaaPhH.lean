/- Plain: bits of a byte; threads that join, acknowledge and leave one by one; whole cycles. -/
import Derived.Test.YtacnikibmhlmiaaPhG
namespace Go.Proofs.Ytacnikibmhlmiaa
open Go Go.RowKit
set_option linter.unusedSimpArgs false
set_option linter.unusedVariables false

theorem bit_of {A : Nat} (hA : A < 256) (j : Nat) : (bits .and .u8 ((A : Int) / 2 ^ j) 1 == 1) = A.testBit j := by
  have e : ((A : Int) / 2 ^ j) = ((A / 2 ^ j : Nat) : Int) := by simp
  have hd : A / 2 ^ j < 256 := Nat.lt_of_le_of_lt (Nat.div_le_self _ _) hA
  have h1 : bits .and .u8 ((A / 2 ^ j : Nat) : Int) ((1 : Nat) : Int) = ((A / 2 ^ j &&& 1 : Nat) : Int) := u8_and_nat _ _ hd (by decide)
  rw [e, show (1 : Int) = ((1 : Nat) : Int) from rfl, h1, Nat.and_one_is_mod, Nat.testBit_eq_decide_div_mod_eq]
  rw [Bool.eq_iff_iff]; simp; omega
theorem bit_of0 {A : Nat} (hA : A < 256) (j : Nat) : (bits .and .u8 ((A : Int) / 2 ^ j) 1 == 0) = !A.testBit j := by
  have e : ((A : Int) / 2 ^ j) = ((A / 2 ^ j : Nat) : Int) := by simp
  have hd : A / 2 ^ j < 256 := Nat.lt_of_le_of_lt (Nat.div_le_self _ _) hA
  have h1 : bits .and .u8 ((A / 2 ^ j : Nat) : Int) ((1 : Nat) : Int) = ((A / 2 ^ j &&& 1 : Nat) : Int) := u8_and_nat _ _ hd (by decide)
  rw [e, show (1 : Int) = ((1 : Nat) : Int) from rfl, h1, Nat.and_one_is_mod, Nat.testBit_eq_decide_div_mod_eq]
  rw [Bool.eq_iff_iff]; simp; omega
theorem byte_of {a : Int} (wf : (Lit.int .u8 a).wf = true) : ∃ A : Nat, a = (A : Int) ∧ A < 256 := by
  simp [Lit.wf, IntKind.min, IntKind.max, IntKind.signed, IntKind.bits] at wf
  exact ⟨a.toNat, by omega, by omega⟩

def upto (f : Nat → Bool) (j : Nat) : Nat → Bool := fun t => decide (t < j) && f t
theorem upto_zero (f : Nat → Bool) : upto f 0 = noB := by funext t; simp [upto, noB]
theorem upto_lt (f : Nat → Bool) {t j : Nat} (h : t < j) : upto f j t = f t := by unfold upto; rw [decide_eq_true h]; rfl
theorem upto_ge (f : Nat → Bool) {t j : Nat} (h : j ≤ t) : upto f j t = false := by unfold upto; rw [decide_eq_false (show ¬ t < j by omega)]; rfl
theorem upto_succ (f : Nat → Bool) (j : Nat) : setB (upto f j) j (f j) = upto f (j + 1) := by
  funext t
  by_cases e : t = j
  · rw [e, setB_self, upto_lt _ (by omega)]
  · rw [setB_ne _ _ e]
    by_cases h : t < j
    · rw [upto_lt _ h, upto_lt _ (by omega)]
    · rw [upto_ge _ (by omega), upto_ge _ (by omega)]
theorem upto_yes {f : Nat → Bool} {j : Nat} (h : f j = true) : setB (upto f j) j true = upto f (j + 1) := h ▸ upto_succ f j
theorem upto_no {f : Nat → Bool} {j : Nat} (h : f j = false) : upto f j = upto f (j + 1) := by
  funext t
  by_cases e : t = j
  · rw [e, upto_ge _ (Nat.le_refl _), upto_lt _ (by omega), h]
  · by_cases h : t < j
    · rw [upto_lt _ h, upto_lt _ (by omega)]
    · rw [upto_ge _ (by omega), upto_ge _ (by omega)]
theorem upto_upto (f : Nat → Bool) (j : Nat) : upto (upto f j) j = upto f j := by
  funext t
  by_cases h : t < j
  · rw [upto_lt _ h]
  · rw [upto_ge _ (by omega), upto_ge _ (by omega)]
theorem noB_set (j : Nat) : setB noB j false = noB := by funext t; unfold setB noB; split <;> rfl
namespace Phs
theorem quiet_ack {S : Phs} (h : S.asks = false) (t : Nat) : S.ack t = S := by unfold Phs.ack; rw [if_neg (by rw [Phs.wants_no h]; decide)]
theorem quiet_advB {S : Phs} (h : S.asks = false) : S.advB = false := by unfold Phs.advB; rw [h]; rfl
theorem quiet_adv {S : Phs} (h : S.asks = false) : S.adv = S := by unfold Phs.adv; rw [if_neg (by rw [Phs.quiet_advB h]; decide)]
theorem not_ack {S : Phs} {t : Nat} (h : S.wants t = false) : S.ack t = S := by unfold Phs.ack; rw [if_neg (by rw [h]; decide)]
theorem not_adv {S : Phs} (h : S.advB = false) : S.adv = S := by unfold Phs.adv; rw [if_neg (by rw [h]; decide)]
/-- The threads below j that f names have joined. -/
def jn (f : Nat → Bool) (j : Nat) : Phs := ⟨0, 0, upto f j, noB, noB⟩
theorem jn_zero (f : Nat → Bool) : jn f 0 = Phs.init := by unfold jn Phs.init; rw [upto_zero]
theorem jn_join {f : Nat → Bool} {j : Nat} (h : f j = true) : (jn f j).join j = jn f (j + 1) := by
  unfold Phs.join
  rw [if_neg (by show ¬ upto f j j = true; rw [upto_ge _ (Nat.le_refl _)]; decide)]
  show (⟨0, 0, setB (upto f j) j true, setB noB j false, setB noB j false⟩ : Phs) = _
  rw [upto_yes h, noB_set]; rfl
theorem jn_skip {f : Nat → Bool} {j : Nat} (h : f j = false) : jn f j = jn f (j + 1) := by unfold jn; rw [upto_no h]
/-- A phase of a cycle, when none has acknowledged. -/
def stC (l : Nat → Bool) (r n : Nat) : Phs := ⟨n, r + (n - 1), l, if n = 1 then noB else l, noB⟩
/-- .. when those below j have. -/
def akC (l : Nat → Bool) (r n j : Nat) : Phs := ⟨n, r + (n - 1), l, if n = 1 then upto l j else l, upto l j⟩
theorem akC_zero (l : Nat → Bool) (r n : Nat) : akC l r n 0 = stC l r n := by unfold akC stC; rw [upto_zero]
theorem akC_asks {l : Nat → Bool} {r n : Nat} (j : Nat) (hn : n = 1 ∨ n = 2) : (akC l r n j).asks = true := asks_yes hn
theorem akC_wants {l : Nat → Bool} {r n j : Nat} (hn : n = 1 ∨ n = 2) (t : Nat) : (akC l r n j).wants t = (l t && !upto l j t) := by
  unfold Phs.wants; rw [akC_asks j hn]; rfl
theorem akC_next {l : Nat → Bool} {r n j : Nat} (hn : n = 1 ∨ n = 2) : (akC l r n j).wants j = l j := by
  rw [akC_wants hn, upto_ge _ (Nat.le_refl _)]; simp
theorem akC_ack {l : Nat → Bool} {r n j : Nat} (hn : n = 1 ∨ n = 2) : (akC l r n j).ack j = akC l r n (j + 1) := by
  unfold Phs.ack
  rw [akC_next hn]
  cases h : l j
  · rw [if_neg (by decide)]
    unfold akC
    rw [upto_no h]
  · rw [if_pos rfl]
    unfold akC
    show (⟨n, _, l, if n = 1 then setB (if n = 1 then upto l j else l) j true else (if n = 1 then upto l j else l), setB (upto l j) j true⟩ : Phs) = _
    rw [upto_yes h]
    rcases hn with e | e
    · rw [if_pos e, if_pos e, if_pos e, upto_yes h]
    · rw [if_neg (by omega), if_neg (by omega), if_neg (by omega)]
theorem akC_wait {l : Nat → Bool} {r n j : Nat} (hn : n = 1 ∨ n = 2) (hj : j < 4) (h : l j = true) : (akC l r n j).advB = false := by
  unfold Phs.advB
  rw [wantsAny_iff.2 ⟨j, hj, by rw [akC_next hn]; exact h⟩]; simp
theorem akC_advB {l : Nat → Bool} {r n : Nat} (hn : n = 1 ∨ n = 2) : (akC l r n 4).advB = true := by
  unfold Phs.advB
  rw [akC_asks 4 hn, wantsAny_no.2 (fun t ht => by rw [akC_wants hn, upto_lt _ ht]; cases l t <;> rfl)]; rfl
theorem akC_adv {l : Nat → Bool} {r n : Nat} (hn : n = 1 ∨ n = 2) (hl : upto l 4 = l) : (akC l r n 4).adv = stC l r (n + 1) := by
  unfold Phs.adv
  rw [if_pos (akC_advB hn)]
  unfold stC akC enter
  rw [hl]
  rcases hn with e | e
  · subst e; rfl
  · subst e; rfl
/-- Between two cycles. -/
def reC (l : Nat → Bool) (r : Nat) : Phs := ⟨0, r, l, noB, noB⟩
theorem reC_begin (l : Nat → Bool) (r : Nat) : (reC l r).begin_ = stC l r 1 := rfl
theorem stC_marked (l : Nat → Bool) (r : Nat) : (stC l r 3).marked = ⟨4, r + 2, l, noB, noB⟩ := rfl
theorem jn_re (f : Nat → Bool) : jn f 4 = reC (upto f 4) 0 := rfl
end Phs
end Go.Proofs.Ytacnikibmhlmiaa
