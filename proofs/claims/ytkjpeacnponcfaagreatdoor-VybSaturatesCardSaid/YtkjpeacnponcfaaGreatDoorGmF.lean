/- New; the law's fit; at this seat's numbers. -/
import Derived.Test.YtkjpeacnponcfaaGreatDoorGmT
import Derived.Test.YtkjpeacnponcfaaGreatDoorCeC
namespace Go.Proofs.YtkjpeacnponcfaaGreatDoor
open Go Go.RowKit Go.Shelf Go.MuLone Go.RwLone
set_option linter.unusedSimpArgs false
set_option linter.unusedVariables false
attribute [local go_sem] Oper.semAt_some

section
variable {w wr w' w1 : World} {T T' T1 : MkB} {X : ArB} {s : ArS} {c : Col} {obs : List Ob}
set_option maxHeartbeats 4000000 in
theorem mkNewM (hA : ArMem wr X s) (room : Int) (hr : room ≤ 4096) : Calls Tryz.prog 11 #[.pointer (some ⟨X.a, 0, none⟩), .int .i64 room] wr fun e w' =>
    ∃ T : MkB, e = .returned (.pointer (some ⟨T.m, 0, none⟩)) ∧ T.n = 32 * s.P + 1 ∧ MkAt w' T X.a Col.white ∧ (∀ k, T.has k → wr.heap.size ≤ k) ∧ Below wr.heap.size wr w' := by
  have cS := size_any hA
  have hp := hA.p64
  obtain ⟨n, hn⟩ : ∃ n, n = 32 * s.P + 1 := ⟨_, rfl⟩
  rw [← hn] at cS
  have hn4 : (n : Int) ≤ 4096 := by omega
  have HN := Lib.hid hn
  clear hn hp
  go_enter Tryz.func11, Tryz.ntmps11
  go_wp2_with fail
  refine cS.mono ?_
  rintro e w' ⟨rfl, rfl⟩
  go_wp2_with fail
  refine (new_at (n : Int) hn4 wr n (by simp)).mono ?_
  rintro e w1 ⟨b, hb, rfl, hS1, hT1⟩
  have cS1 := size_any (hA.turn hT1 (fun _ _ h => h))
  rw [← HN.out] at cS1
  clear cS
  go_wp2_with fail
  refine cS1.mono ?_
  rintro e w' ⟨rfl, rfl⟩
  go_wp2_with fail
  refine (new_at (n : Int) hn4 w1 n (by simp)).mono ?_
  rintro e w2 ⟨b2, hb2, rfl, hS2, hT2⟩
  clear cS1
  obtain ⟨r0, hr0⟩ : ∃ r0 : Int, (if room < 1 then 1 else room) = r0 := ⟨_, rfl⟩
  have HR := Lib.hid hr0
  go_wp2_with fail
  refine (grNew r0 w2).mono ?_
  rintro e w3 ⟨G, rfl, hG, hGn, hB3⟩
  clear hr0
  go_wp2_with fail
  go_ret
  have hB4 := (Below.refl w3.heap.size w3).alloc (Nat.le_refl _) (.cells #[.pointer (some ⟨X.a, 0, none⟩), .pointer (some ⟨b, 0, none⟩), .pointer (some ⟨b2, 0, none⟩), .pointer (some ⟨G.s, 0, none⟩)] 67)
  have hT34 : Turn (fun _ => False) w2 (w3.alloc (.cells #[.pointer (some ⟨X.a, 0, none⟩), .pointer (some ⟨b, 0, none⟩), .pointer (some ⟨b2, 0, none⟩), .pointer (some ⟨G.s, 0, none⟩)] 67)) :=
    ((Turn.ofBelow hB3).mono fun i hi e => absurd hi (by omega)).alloc _
  have hS1' := hS1.turn (hT2.trans hT34 fun _ _ h => h) (fun h => h) (fun _ _ h => h)
  have hS2' := hS2.turn hT34 (fun h => h) (fun _ _ h => h)
  have hG' := hG.below hB4
  have hbl := hS1.lt.1
  have hb2l := hS2.lt.1
  have hs1 := hT1.size
  have hs2 := hT2.size
  have hs3 := hB3.size
  refine ⟨⟨w3.heap.size, b, none, b2, none, G, n⟩, rfl, HN.out, ⟨_, _, r0, [], false, ⟨Blk.new w3 _ _, hS1', hS2', hG', ⟨(by show b ≠ b2; omega), (fun l e => by cases e), (fun l e => by cases e), (fun l e => by cases e)⟩⟩, ?_⟩, ?_, ?_⟩
  · have hw : (fun _ => false : Int → Bool) = inS (fun _ => false) := by funext y; simp [inS]
    have h1 : 1 ≤ r0 ∧ r0 ≤ 4096 := by rw [← HR.out]; split <;> omega
    exact ⟨hw, hw, fun y hy => (by cases hy), h1.1, h1.2, by simp; omega, fun y hy => (by cases hy)⟩
  · rintro k (e | (e | e) | (e | e) | e)
    · have e2 : k = w3.heap.size := e
      omega
    · have e2 : k = b := e
      omega
    · cases e
    · have e2 : k = b2 := e
      omega
    · cases e
    · have := hGn k e; omega
  · exact (((hT1.trans hT2 fun _ _ h => h).trans hT34 fun _ _ h => h).below wr.heap.size (Nat.le_refl _) fun _ _ h => h)
end

theorem mkf1 : newR (.new 2) 1 = 1 := by decide +kernel
theorem mkf2 : newE (.new 2) 1 = 0 := by decide +kernel
theorem mkf3 : newR ((ArS.new 2).newS 1) 1 = 5 := by decide +kernel
theorem mkf4 : newE ((ArS.new 2).newS 1) 1 = 0 := by decide +kernel
def fitObs : List Ob := [⟨1, 1, 0, upd (fun _ => 0) 0 5⟩, ⟨5, 1, 0, fun _ => 0⟩]
theorem fit_pts : ptsAt fitObs 1 = [5] := by decide +kernel
theorem fit_refs : refsI fitObs = [1, 5] := by decide +kernel
theorem fit_closed : Closed fitObs := by
  intro x hx j hj
  unfold fitObs at hx
  rcases List.mem_cons.1 hx with e | e
  · subst e
    have hj2 : j < 1 := hj
    obtain rfl : j = 0 := by omega
    exact .inr ⟨⟨5, 1, 0, fun _ => 0⟩, by unfold fitObs; simp, rfl⟩
  · have e2 := List.mem_singleton.1 e
    subst e2
    exact .inl rfl
/-- What one scan leaves of two objects, the first of which was shaded. -/
theorem fit_scan {c' : Col} {l : List Int} {n : Int} (h : Scans (ptsAt fitObs) ((Col.white.shade 1).shade 1) l c') (h1 : (l.length : Int) ≤ max 1 0) (h2 : (l.length : Int) < 1 → c'.dry) :
    l.length = 1 ∧ c'.sc 1 = true ∧ c'.ma 5 = true ∧ c'.sc 5 = false ∧ ¬ c'.dry ∧ ∀ x, c'.ma x = true → x ∈ refsI fitObs := by
  cases h with
  | nil =>
    have := h2 (by simp) 1 rfl
    cases this
  | cons hm hs hr =>
    rename_i x l
    obtain rfl : x = 1 := by
      have hm2 : updI (updI (fun _ => false) 1 true) 1 true x = true := hm
      by_cases e : x = 1
      · exact e
      · rw [updI_ne e, updI_ne e] at hm2; cases hm2
    cases hr with
    | nil =>
      refine ⟨rfl, ?_, ?_, ?_, fun hd => ?_, fun x hx => ?_⟩
      · rfl
      · show (((Col.white.shade 1).shade 1).ma 5 || decide ((5 : Int) ∈ ptsAt fitObs 1)) = true
        rw [fit_pts]; rfl
      · rfl
      · have := hd 5 (by
          show (((Col.white.shade 1).shade 1).ma 5 || decide ((5 : Int) ∈ ptsAt fitObs 1)) = true
          rw [fit_pts]; rfl)
        cases this
      · have hx2 : (((Col.white.shade 1).shade 1).ma x || decide (x ∈ ptsAt fitObs 1)) = true := hx
        rw [fit_pts] at hx2
        rw [fit_refs]
        by_cases e : x = 1
        · rw [e]; simp
        · have hm3 : ((Col.white.shade 1).shade 1).ma x = false := by
            show updI (updI (fun _ => false) 1 true) 1 true x = false
            rw [updI_ne e, updI_ne e]
          rw [hm3] at hx2
          have : x = 5 := by simpa using hx2
          rw [this]; simp
    | cons _ _ _ => simp at h1; omega
end Go.Proofs.YtkjpeacnponcfaaGreatDoor
