/- ArenaLimits, walked, at this seat's numbers. -/
import Derived.Test.YtkjpeacnponcfaaGreatDoorUc
namespace Go.Proofs.YtkjpeacnponcfaaGreatDoor
open Go Go.RowKit Go.Shelf Go.MuLone Go.RwLone
set_option linter.unusedSimpArgs false
set_option linter.unusedVariables false

/-- The first k cells of class c are taken. -/
structure Filled (c : Int) (W C k : Nat) (s : ArS) : Prop where
  cls : ∀ p, p < s.P → s.cls p = if p * C < k then c else -1
  set : ∀ r, s.S r = true ↔ 1 ≤ r ∧ r ≤ 32 * s.P ∧ (r - 1) % 32 % W = 0 ∧ (r - 1) / 32 * C + (r - 1) % 32 / W < k

structure WC (c : Int) (W C : Nat) : Prop where
  ok : okC c = true
  w : wN c = W
  is : W = 2 ∧ C = 16 ∨ W = 4 ∧ C = 8 ∨ W = 8 ∧ C = 4
theorem wc_of {c : Int} (h : okC c = true) : ∃ W C, WC c W C ∧ cellsOfC c = C := by
  rcases okC_cases h with rfl | rfl | rfl
  · exact ⟨2, 16, ⟨h, rfl, by omega⟩, rfl⟩
  · exact ⟨4, 8, ⟨h, rfl, by omega⟩, rfl⟩
  · exact ⟨8, 4, ⟨h, rfl, by omega⟩, rfl⟩

theorem filled_new (c : Int) (W C P : Nat) : Filled c W C 0 (.new P) :=
  ⟨fun p _ => by simp [ArS.new], fun r => by simp [ArS.new]⟩

theorem filled_seek {c : Int} {W C k : Nat} {s : ArS} (hw : WC c W C) (h : Filled c W C k s) (hk : k < s.P * C) : seekF s c = 32 * (k / C) + k % C * W + 1 := by
  obtain ⟨hok, hW, his⟩ := hw
  have hcne : c ≠ -1 := by rcases okC_cases hok with e | e | e <;> omega
  have hfree : ∀ r, free1 s c r = true → k ≤ (r - 1) / 32 * C + (r - 1) % 32 / W ∧ (r - 1) / 32 * C < k ∧ 1 ≤ r := fun r hr => by
    obtain ⟨a1, a2, a3, a4, a5⟩ := free1_open hr
    rw [hW] at a4
    have a6 := h.cls (pg r) (by unfold pg; omega)
    rw [a3] at a6
    have a7 : pg r * C < k := by
      by_cases x : pg r * C < k
      · exact x
      · rw [if_neg x] at a6; exact absurd a6 hcne
    refine ⟨?_, a7, a1⟩
    by_cases x : (r - 1) / 32 * C + (r - 1) % 32 / W < k
    · have := (h.set r).2 ⟨a1, a2, a4, x⟩
      rw [a5] at this; cases this
    · omega
  by_cases h0 : k % C = 0
  · have hq : k / C < s.P := by rcases his with ⟨rfl, rfl⟩ | ⟨rfl, rfl⟩ | ⟨rfl, rfl⟩ <;> omega
    have e := seekF_page (s := s) hok (fun r hr => by
      cases x : free1 s c r with
      | false => rfl
      | true =>
        obtain ⟨b1, b2, b3⟩ := hfree r x
        rcases his with ⟨rfl, rfl⟩ | ⟨rfl, rfl⟩ | ⟨rfl, rfl⟩ <;> omega)
    rw [e, h0]
    have hc1 : s.cls (k / C) = -1 := by
      rw [h.cls _ hq, if_neg (by rcases his with ⟨rfl, rfl⟩ | ⟨rfl, rfl⟩ | ⟨rfl, rfl⟩ <;> omega)]
    rw [spare_first hq hc1 fun q' hq' => by
      rw [h.cls _ (by omega), if_pos (by rcases his with ⟨rfl, rfl⟩ | ⟨rfl, rfl⟩ | ⟨rfl, rfl⟩ <;> omega)]
      exact hcne]
    omega
  · refine seekF_cell hok (free1_mk (by omega) ?_ ?_ ?_ ?_) fun r' hr' => ?_
    · rcases his with ⟨rfl, rfl⟩ | ⟨rfl, rfl⟩ | ⟨rfl, rfl⟩ <;> omega
    · have e : pg (32 * (k / C) + k % C * W + 1) = k / C := by unfold pg; rcases his with ⟨rfl, rfl⟩ | ⟨rfl, rfl⟩ | ⟨rfl, rfl⟩ <;> omega
      rw [e, h.cls _ (by rcases his with ⟨rfl, rfl⟩ | ⟨rfl, rfl⟩ | ⟨rfl, rfl⟩ <;> omega), if_pos (by rcases his with ⟨rfl, rfl⟩ | ⟨rfl, rfl⟩ | ⟨rfl, rfl⟩ <;> omega)]
    · rw [hW]; rcases his with ⟨rfl, rfl⟩ | ⟨rfl, rfl⟩ | ⟨rfl, rfl⟩ <;> omega
    · cases x : s.S (32 * (k / C) + k % C * W + 1) with
      | false => rfl
      | true =>
        have := ((h.set _).1 x).2.2.2
        rcases his with ⟨rfl, rfl⟩ | ⟨rfl, rfl⟩ | ⟨rfl, rfl⟩ <;> omega
    · cases x : free1 s c r' with
      | false => rfl
      | true =>
        obtain ⟨b1, b2, b3⟩ := hfree r' x
        have b4 := (free1_open x).2.2.2.1
        rw [hW] at b4
        rcases his with ⟨rfl, rfl⟩ | ⟨rfl, rfl⟩ | ⟨rfl, rfl⟩ <;> omega

theorem filled_end {c : Int} {W C : Nat} {s : ArS} (hw : WC c W C) (h : Filled c W C (s.P * C) s) : seekF s c = 0 ∧ ∀ p, p < s.P → s.cls p = c := by
  obtain ⟨hok, hW, his⟩ := hw
  have hcne : c ≠ -1 := by rcases okC_cases hok with e | e | e <;> omega
  have hall : ∀ p, p < s.P → s.cls p = c := fun p hp => by
    rw [h.cls p hp, if_pos (by rcases his with ⟨rfl, rfl⟩ | ⟨rfl, rfl⟩ | ⟨rfl, rfl⟩ <;> omega)]
  refine ⟨?_, hall⟩
  rw [seekF_page hok fun r hr => by
    cases x : free1 s c r with
    | false => rfl
    | true =>
      obtain ⟨a1, a2, a3, a4, a5⟩ := free1_open x
      rw [hW] at a4
      have := (h.set r).2 ⟨a1, a2, a4, by rcases his with ⟨rfl, rfl⟩ | ⟨rfl, rfl⟩ | ⟨rfl, rfl⟩ <;> omega⟩
      rw [a5] at this; cases this]
  exact spare_none fun q hq => by rw [hall q hq]; exact hcne

theorem filled_take {c : Int} {W C k : Nat} {s : ArS} (hw : WC c W C) (h : Filled c W C k s) (hk : k < s.P * C) : Filled c W C (k + 1) (s.take c) := by
  have e := filled_seek hw h hk
  have hne : seekF s c ≠ 0 := by omega
  rw [take_some hne, e]
  obtain ⟨hok, hW, his⟩ := hw
  have ep : pg (32 * (k / C) + k % C * W + 1) = k / C := by unfold pg; rcases his with ⟨rfl, rfl⟩ | ⟨rfl, rfl⟩ | ⟨rfl, rfl⟩ <;> omega
  refine ⟨fun p hp => ?_, fun r => ?_⟩
  · show upd s.cls (pg _) c p = _
    rw [ep]
    unfold upd
    by_cases x : p = k / C
    · rw [if_pos x, if_pos (by subst x; rcases his with ⟨rfl, rfl⟩ | ⟨rfl, rfl⟩ | ⟨rfl, rfl⟩ <;> omega)]
    · rw [if_neg x, h.cls p hp]
      have : p * C < k ↔ p * C < k + 1 := by rcases his with ⟨rfl, rfl⟩ | ⟨rfl, rfl⟩ | ⟨rfl, rfl⟩ <;> omega
      simp only [this]
  · show putN s.S _ r = true ↔ _
    have hput : putN s.S (32 * (k / C) + k % C * W + 1) r = true ↔ s.S r = true ∨ r = 32 * (k / C) + k % C * W + 1 := by simp [putN]
    rw [hput, h.set r]
    constructor
    · rintro (⟨a1, a2, a3, a4⟩ | rfl)
      · exact ⟨a1, a2, a3, by omega⟩
      · refine ⟨by omega, ?_, ?_, ?_⟩
        · show _ ≤ 32 * s.P
          rcases his with ⟨rfl, rfl⟩ | ⟨rfl, rfl⟩ | ⟨rfl, rfl⟩ <;> omega
        · rcases his with ⟨rfl, rfl⟩ | ⟨rfl, rfl⟩ | ⟨rfl, rfl⟩ <;> omega
        · rcases his with ⟨rfl, rfl⟩ | ⟨rfl, rfl⟩ | ⟨rfl, rfl⟩ <;> omega
    · rintro ⟨a1, a2, a3, a4⟩
      by_cases x : (r - 1) / 32 * C + (r - 1) % 32 / W < k
      · exact .inl ⟨a1, a2, a3, x⟩
      · right
        rcases his with ⟨rfl, rfl⟩ | ⟨rfl, rfl⟩ | ⟨rfl, rfl⟩ <;> omega
theorem freeTo_new (P : Nat) : freeTo (.new P) P = P := by
  unfold freeTo
  rw [List.countP_eq_length.2 (fun q _ => by simp [ArS.new]), List.length_range]
theorem freeTo_none {s : ArS} (h : ∀ p, p < s.P → s.cls p ≠ -1) : freeTo s s.P = 0 := by
  unfold freeTo
  rw [List.countP_eq_zero]
  intro q hq
  simp at hq
  simp [h q hq]
theorem freeTo_all {s : ArS} (h : ∀ p, p < s.P → s.cls p = -1) : freeTo s s.P = s.P := by
  unfold freeTo
  rw [List.countP_eq_length.2 (fun q hq => by simp at hq; simp [h q hq]), List.length_range]
end Go.Proofs.YtkjpeacnponcfaaGreatDoor
