/- Word, Set, Take, at this seat's numbers. -/
import Derived.Test.YtfipflghnhfcjaaArC
import Derived.Lib.SliceRun
import Derived.Deep.RegionHeld3
namespace Go.Proofs.Ytfipflghnhfcjaa
open Go Go.RowKit Go.Shelf Go.MuLone Go.RwLone
set_option linter.unusedSimpArgs false
set_option linter.unusedVariables false

section
variable {w : World} {X : ArB} {s : ArS}

theorem hasWd_is (hF : Fits s) {r i : Int} (h : hasWd s r i = true) : ∃ n k : Nat, r = n ∧ i = k ∧ s.S n = true ∧ k < wN (s.cls (pg n)) ∧ 1 ≤ n ∧ n + k ≤ 32 * s.P := by
  simp only [hasWd, inS, Bool.and_eq_true, decide_eq_true_eq] at h
  obtain ⟨⟨h1, h2⟩, h3, h4⟩ := h
  obtain ⟨n, rfl⟩ : ∃ n : Nat, r = n := ⟨r.toNat, by omega⟩
  obtain ⟨k, rfl⟩ : ∃ k : Nat, i = k := ⟨i.toNat, by omega⟩
  rw [Int.toNat_natCast] at h2 h4
  obtain ⟨a1, a2, a3, a4⟩ := hF.at_ n h2
  refine ⟨n, k, rfl, rfl, h2, by unfold wN; omega, a1, ?_⟩
  rcases okC_cases a3 with e | e | e <;> rw [e] at h4 a4 <;> simp [wN, wordsOf] at h4 a4 <;> omega

def wordI (s : ArS) (r i : Int) : Int := if hasWd s r i = true then s.ws (r + i).toNat else 0
def ArS.setW (s : ArS) (r i x : Int) : ArS := if hasWd s r i = true then { s with ws := upd s.ws (r + i).toNat x } else s
theorem Fits.setW (h : Fits s) (r i x : Int) : Fits (s.setW r i x) := by
  unfold ArS.setW
  split
  · exact ⟨h.p64, h.cl, h.at_, h.used⟩
  · exact h

/-- Size and Page, over the head alone. -/
theorem size_head {P : Nat} (hB : Blk w X.a (arArr X P) 62) : Calls Try.prog 48 #[.pointer (some ⟨X.a, 0, none⟩)] w fun e w' => e = .returned (.int .i64 ((32 * P + 1 : Nat) : Int)) ∧ w = w' := by
  have h0 : w.cell? ⟨X.a, 2, none⟩ = some (.slice (some ⟨X.w, 0, none⟩) (32 * P + 1) (32 * P + 1)) := hB.cell 2
  obtain ⟨n, hn⟩ : ∃ n, n = 32 * P + 1 := ⟨_, rfl⟩
  rw [← hn] at h0 ⊢
  clear hn
  go_enter Try.func48, Try.ntmps48
  go_wp2
  go_ret
  exact ⟨rfl, rfl⟩
theorem page_head {P : Nat} (hB : Blk w X.a (arArr X P) 62) (hp : P ≤ 64) (r : Nat) (h1 : 1 ≤ r) (h2 : r ≤ 32 * P) : Calls Try.prog 30 #[.pointer (some ⟨X.a, 0, none⟩), .int .i64 r] w fun e w' => e = .returned (.int .i64 ((pg r : Nat) : Int)) ∧ w = w' := by
  have cS := size_head hB
  obtain ⟨n, hn⟩ : ∃ n, n = 32 * P + 1 := ⟨_, rfl⟩
  rw [← hn] at cS
  have h3 : (r : Int) < n := by omega
  have h4 : (1 : Int) ≤ r := by omega
  have h5 : (r : Int) ≤ 2048 := by omega
  clear hn hB h1 h2 hp
  go_enter Try.func30, Try.ntmps30
  go_wp2_with fail
  refine cS.mono ?_
  rintro e w' ⟨rfl, rfl⟩
  go_wp2_with fail
  go_ret
  exact ⟨ret_num (by unfold pg; omega), rfl⟩
end
end Go.Proofs.Ytfipflghnhfcjaa
