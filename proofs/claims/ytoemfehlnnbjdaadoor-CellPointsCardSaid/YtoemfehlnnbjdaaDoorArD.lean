/- Word, Set, Take, at this seat's numbers. -/
import Derived.Test.YtoemfehlnnbjdaaDoorArC
import Derived.Lib.SliceRun
import Derived.Deep.RegionHeld3
namespace Go.Proofs.YtoemfehlnnbjdaaDoor
open Go Go.RowKit Go.Shelf Go.MuLone Go.RwLone
set_option linter.unusedSimpArgs false
set_option linter.unusedVariables false

section
variable {w : World} {X : ArB} {s : ArS}

theorem hasWd_is (hF : Fits s) {r i : Int} (h : hasWd s r i = true) : ∃ n k : Nat, r = n ∧ i = k ∧ s.S n = true ∧ k < wN (s.cls (pg n)) ∧ 1 ≤ n ∧ n + k ≤ 32 * s.P := by
  simp only [hasWd, inS, Bool.and_eq_true, decide_eq_true_eq] at h
  obtain ⟨⟨h1, h2⟩, h3, h4⟩ := h
  obtain ⟨n, rfl⟩ : ∃ n : Nat, r = n := ⟨r.toNat, by omega⟩
  obtain ⟨k, rfl⟩ : ∃ k : Nat, i = k := ⟨i.toNat, by omega⟩
  rw [Int.toNat_natCast] at h2 h4
  obtain ⟨a1, a2, a3, a4⟩ := hF.at_ n h2
  refine ⟨n, k, rfl, rfl, h2, by unfold wN; omega, a1, ?_⟩
  rcases okC_cases a3 with e | e | e <;> rw [e] at h4 a4 <;> simp [wN, wordsOf] at h4 a4 <;> omega

def wordI (s : ArS) (r i : Int) : Int := if hasWd s r i = true then s.ws (r + i).toNat else 0
def ArS.setW (s : ArS) (r i x : Int) : ArS := if hasWd s r i = true then { s with ws := upd s.ws (r + i).toNat x } else s
theorem Fits.setW (h : Fits s) (r i x : Int) : Fits (s.setW r i x) := by
  unfold ArS.setW
  split
  · exact ⟨h.p64, h.cl, h.at_, h.used⟩
  · exact h

theorem word_any (h : ArAt w X s) (hT : TableAt w) (r i : Int) :
    Calls Tryd.prog 40 #[.pointer (some ⟨X.a, 0, none⟩), .int .i64 r, .int .i64 i] w fun e w' => e = .returned (.int .i64 (wordI s r i)) ∧ Below w.heap.size w w' := by
  have cH := hasWord_any h hT r i
  unfold wordI
  cases hw : hasWd s r i with
  | false =>
    rw [if_neg (by decide)]
    rw [hw] at cH
    clear hw
    go_enter Tryd.func40, Tryd.ntmps40
    go_wp2_with fail
    refine cH.mono ?_
    rintro e w1 ⟨rfl, hB⟩
    clear cH
    go_wp2_with fail
    go_ret
    exact ⟨rfl, hB⟩
  | true =>
    rw [if_pos rfl]
    rw [hw] at cH
    obtain ⟨n, k, rfl, rfl, hS, hk, h1, h2⟩ := hasWd_is h.fits hw
    have hp := h.fits.p64
    rw [show ((n : Int) + (k : Int)).toNat = n + k by omega]
    clear hw hS hk
    go_enter Tryd.func40, Tryd.ntmps40
    go_wp2_with fail
    refine cH.mono ?_
    rintro e w1 ⟨rfl, hB⟩
    have hA := h.below hB
    have c2 := hA.c2
    have c3 := cell_row hA.word (k := n + k) (by omega)
    have hle : (n : Int) + (k : Int) < ((32 * s.P + 1 : Nat) : Int) := by omega
    clear cH
    obtain ⟨N, hN⟩ : ∃ N, N = 32 * s.P + 1 := ⟨_, rfl⟩
    rw [← hN] at c2 hle
    have hN2 : N ≤ 2049 := by omega
    clear hN
    go_wp2_with fail
    go_ret
    exact ⟨rfl, hB⟩

theorem set_any (h : ArAt w X s) (hT : TableAt w) (r i x : Int) :
    Calls Tryd.prog 60 #[.pointer (some ⟨X.a, 0, none⟩), .int .i64 r, .int .i64 i, .int .i64 x] w (ArPost X (.bool (hasWd s r i)) (s.setW r i x) w) := by
  have cH := hasWord_any h hT r i
  have hF := h.fits.setW r i x
  unfold ArS.setW at hF ⊢
  cases hw : hasWd s r i with
  | false =>
    rw [if_neg (by decide)]
    rw [hw] at cH
    clear hw hF
    go_enter Tryd.func60, Tryd.ntmps60
    go_wp2_with fail
    refine cH.mono ?_
    rintro e w1 ⟨rfl, hB⟩
    clear cH
    go_wp2_with fail
    go_ret
    exact (ArStep.ofBelow X hB h.lt).post rfl (h.below hB)
  | true =>
    rw [if_pos hw] at hF
    rw [if_pos rfl]
    rw [hw] at cH
    obtain ⟨n, k, rfl, rfl, hS, hk, h1, h2⟩ := hasWd_is h.fits hw
    have hp := h.fits.p64
    rw [show ((n : Int) + (k : Int)).toNat = n + k by omega] at hF ⊢
    clear hw hS hk
    have HF := Lib.hid hF
    clear hF
    go_enter Tryd.func60, Tryd.ntmps60
    go_wp2_with fail
    refine cH.mono ?_
    rintro e w1 ⟨rfl, hB⟩
    have hA := h.below hB
    have c2 := hA.c2
    have c3 := cell_row hA.word (k := n + k) (by omega)
    have c4 := hA.word.free (n + k)
    have hle : (n : Int) + (k : Int) < ((32 * s.P + 1 : Nat) : Int) := by omega
    have hlt : n + k < 32 * s.P + 1 := by omega
    have hne : X.a ≠ X.w ∧ X.c ≠ X.w ∧ X.b ≠ X.w := ⟨h.ne.aw, h.ne.cw, fun e => h.ne.wb e.symm⟩
    have hF2 : ArAt (w1.setCell ⟨X.w, n + k, none⟩ (.int .i64 x)) X { s with ws := upd s.ws (n + k) x } := by
      have hT : Turn (fun b => b = X.w) w1 (w1.setCell ⟨X.w, n + k, none⟩ (.int .i64 x)) := (Turn.refl (fun b => b = X.w) w1).set _ _ (.inr rfl)
      refine ⟨⟨hA.head.turn hT hA.ne.aw, hA.page.turn hT hA.ne.cw, ?_, hA.set.turn hT (fun e => hA.ne.wb e.symm) (fun l hl e => hA.ne.lw (by rw [hl, e])), hA.ne, hp⟩, HF.out⟩
      have hB := hA.word.setAt (n + k) (.int .i64 x)
      rw [row_set _ _ hlt] at hB
      exact hB
    have hS2 : ArStep X w X (w1.setCell ⟨X.w, n + k, none⟩ (.int .i64 x)) := ⟨.inl rfl, rfl, ((ArStep.ofBelow X hB h.lt).turn).set _ _ (.inr (.inr (.inr (.inl rfl))))⟩
    clear cH hne hlt HF hA
    generalize s.ws (n + k) = v at *
    obtain ⟨N, hN⟩ : ∃ N, N = 32 * s.P + 1 := ⟨_, rfl⟩
    rw [← hN] at c2 hle
    have hN2 : N ≤ 2049 := by omega
    clear hN
    go_wp2_with fail
    go_ret
    exact hS2.post rfl hF2

/-- Size and Page, over the head alone. -/
theorem size_head {P : Nat} (hB : Blk w X.a (arArr X P) 79) : Calls Tryd.prog 34 #[.pointer (some ⟨X.a, 0, none⟩)] w fun e w' => e = .returned (.int .i64 ((32 * P + 1 : Nat) : Int)) ∧ w = w' := by
  have h0 : w.cell? ⟨X.a, 2, none⟩ = some (.slice (some ⟨X.w, 0, none⟩) (32 * P + 1) (32 * P + 1)) := hB.cell 2
  obtain ⟨n, hn⟩ : ∃ n, n = 32 * P + 1 := ⟨_, rfl⟩
  rw [← hn] at h0 ⊢
  clear hn
  go_enter Tryd.func34, Tryd.ntmps34
  go_wp2
  go_ret
  exact ⟨rfl, rfl⟩
theorem page_head {P : Nat} (hB : Blk w X.a (arArr X P) 79) (hp : P ≤ 64) (r : Nat) (h1 : 1 ≤ r) (h2 : r ≤ 32 * P) : Calls Tryd.prog 43 #[.pointer (some ⟨X.a, 0, none⟩), .int .i64 r] w fun e w' => e = .returned (.int .i64 ((pg r : Nat) : Int)) ∧ w = w' := by
  have cS := size_head hB
  obtain ⟨n, hn⟩ : ∃ n, n = 32 * P + 1 := ⟨_, rfl⟩
  rw [← hn] at cS
  have h3 : (r : Int) < n := by omega
  have h4 : (1 : Int) ≤ r := by omega
  have h5 : (r : Int) ≤ 2048 := by omega
  clear hn hB h1 h2 hp
  go_enter Tryd.func43, Tryd.ntmps43
  go_wp2_with fail
  refine cS.mono ?_
  rintro e w' ⟨rfl, rfl⟩
  go_wp2_with fail
  go_ret
  exact ⟨ret_num (by unfold pg; omega), rfl⟩
end
end Go.Proofs.YtoemfehlnnbjdaaDoor
