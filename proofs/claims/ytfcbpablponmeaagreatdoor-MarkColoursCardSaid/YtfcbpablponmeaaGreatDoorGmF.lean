/- New; the law's fit; at this seat's numbers. -/
import Derived.Test.YtfcbpablponmeaaGreatDoorGmT
import Derived.Test.YtfcbpablponmeaaGreatDoorCeC
namespace Go.Proofs.YtfcbpablponmeaaGreatDoor
open Go Go.RowKit Go.Shelf Go.MuLone Go.RwLone
set_option linter.unusedSimpArgs false
set_option linter.unusedVariables false
attribute [local go_sem] Oper.semAt_some

section
variable {w wr w' w1 : World} {T T' T1 : MkB} {X : ArB} {s : ArS} {c : Col} {obs : List Ob}
set_option maxHeartbeats 4000000 in
theorem mkNewM (hA : ArMem wr X s) (room : Int) (hr : room ≤ 4096) : Calls Tryz.prog 13 #[.pointer (some ⟨X.a, 0, none⟩), .int .i64 room] wr fun e w' =>
    ∃ T : MkB, e = .returned (.pointer (some ⟨T.m, 0, none⟩)) ∧ T.n = 32 * s.P + 1 ∧ MkAt w' T X.a Col.white ∧ (∀ k, T.has k → wr.heap.size ≤ k) ∧ Below wr.heap.size wr w' := by
  have cS := size_any hA
  have hp := hA.p64
  obtain ⟨n, hn⟩ : ∃ n, n = 32 * s.P + 1 := ⟨_, rfl⟩
  rw [← hn] at cS
  have hn4 : (n : Int) ≤ 4096 := by omega
  have HN := Lib.hid hn
  clear hn hp
  go_enter Tryz.func13, Tryz.ntmps13
  go_wp2_with fail
  refine cS.mono ?_
  rintro e w' ⟨rfl, rfl⟩
  go_wp2_with fail
  refine (new_at (n : Int) hn4 wr n (by simp)).mono ?_
  rintro e w1 ⟨b, hb, rfl, hS1, hT1⟩
  have cS1 := size_any (hA.turn hT1 (fun _ _ h => h))
  rw [← HN.out] at cS1
  clear cS
  go_wp2_with fail
  refine cS1.mono ?_
  rintro e w' ⟨rfl, rfl⟩
  go_wp2_with fail
  refine (new_at (n : Int) hn4 w1 n (by simp)).mono ?_
  rintro e w2 ⟨b2, hb2, rfl, hS2, hT2⟩
  clear cS1
  obtain ⟨r0, hr0⟩ : ∃ r0 : Int, (if room < 1 then 1 else room) = r0 := ⟨_, rfl⟩
  have HR := Lib.hid hr0
  go_wp2_with fail
  refine (grNew r0 w2).mono ?_
  rintro e w3 ⟨G, rfl, hG, hGn, hB3⟩
  clear hr0
  go_wp2_with fail
  go_ret
  have hB4 := (Below.refl w3.heap.size w3).alloc (Nat.le_refl _) (.cells #[.pointer (some ⟨X.a, 0, none⟩), .pointer (some ⟨b, 0, none⟩), .pointer (some ⟨b2, 0, none⟩), .pointer (some ⟨G.s, 0, none⟩)] 67)
  have hT34 : Turn (fun _ => False) w2 (w3.alloc (.cells #[.pointer (some ⟨X.a, 0, none⟩), .pointer (some ⟨b, 0, none⟩), .pointer (some ⟨b2, 0, none⟩), .pointer (some ⟨G.s, 0, none⟩)] 67)) :=
    ((Turn.ofBelow hB3).mono fun i hi e => absurd hi (by omega)).alloc _
  have hS1' := hS1.turn (hT2.trans hT34 fun _ _ h => h) (fun h => h) (fun _ _ h => h)
  have hS2' := hS2.turn hT34 (fun h => h) (fun _ _ h => h)
  have hG' := hG.below hB4
  have hbl := hS1.lt.1
  have hb2l := hS2.lt.1
  have hs1 := hT1.size
  have hs2 := hT2.size
  have hs3 := hB3.size
  refine ⟨⟨w3.heap.size, b, none, b2, none, G, n⟩, rfl, HN.out, ⟨_, _, r0, [], false, ⟨Blk.new w3 _ _, hS1', hS2', hG', ⟨(by show b ≠ b2; omega), (fun l e => by cases e), (fun l e => by cases e), (fun l e => by cases e)⟩⟩, ?_⟩, ?_, ?_⟩
  · have hw : (fun _ => false : Int → Bool) = inS (fun _ => false) := by funext y; simp [inS]
    have h1 : 1 ≤ r0 ∧ r0 ≤ 4096 := by rw [← HR.out]; split <;> omega
    exact ⟨hw, hw, fun y hy => (by cases hy), h1.1, h1.2, by simp; omega, fun y hy => (by cases hy)⟩
  · rintro k (e | (e | e) | (e | e) | e)
    · have e2 : k = w3.heap.size := e
      omega
    · have e2 : k = b := e
      omega
    · cases e
    · have e2 : k = b2 := e
      omega
    · cases e
    · have := hGn k e; omega
  · exact (((hT1.trans hT2 fun _ _ h => h).trans hT34 fun _ _ h => h).below wr.heap.size (Nat.le_refl _) fun _ _ h => h)
end

theorem mkf1 : newR (.new 2) 1 = 1 := by decide +kernel
theorem mkf2 : newE (.new 2) 1 = 0 := by decide +kernel
theorem mkf3 : newR ((ArS.new 2).newS 1) 1 = 5 := by decide +kernel
theorem mkf4 : newE ((ArS.new 2).newS 1) 1 = 0 := by decide +kernel
def fitObs : List Ob := [⟨1, 1, 0, upd (fun _ => 0) 0 5⟩, ⟨5, 1, 0, fun _ => 0⟩]
theorem fit_pts : ptsAt fitObs 1 = [5] := by decide +kernel
theorem fit_refs : refsI fitObs = [1, 5] := by decide +kernel
theorem fit_closed : Closed fitObs := by
  intro x hx j hj
  unfold fitObs at hx
  rcases List.mem_cons.1 hx with e | e
  · subst e
    have hj2 : j < 1 := hj
    obtain rfl : j = 0 := by omega
    exact .inr ⟨⟨5, 1, 0, fun _ => 0⟩, by unfold fitObs; simp, rfl⟩
  · have e2 := List.mem_singleton.1 e
    subst e2
    exact .inl rfl
/-- What one scan leaves of two objects, the first of which was shaded. -/
theorem fit_scan {c' : Col} {l : List Int} {n : Int} (h : Scans (ptsAt fitObs) ((Col.white.shade 1).shade 1) l c') (h1 : (l.length : Int) ≤ max 1 0) (h2 : (l.length : Int) < 1 → c'.dry) :
    l.length = 1 ∧ c'.sc 1 = true ∧ c'.ma 5 = true ∧ c'.sc 5 = false ∧ ¬ c'.dry ∧ ∀ x, c'.ma x = true → x ∈ refsI fitObs := by
  cases h with
  | nil =>
    have := h2 (by simp) 1 rfl
    cases this
  | cons hm hs hr =>
    rename_i x l
    obtain rfl : x = 1 := by
      have hm2 : updI (updI (fun _ => false) 1 true) 1 true x = true := hm
      by_cases e : x = 1
      · exact e
      · rw [updI_ne e, updI_ne e] at hm2; cases hm2
    cases hr with
    | nil =>
      refine ⟨rfl, ?_, ?_, ?_, fun hd => ?_, fun x hx => ?_⟩
      · rfl
      · show (((Col.white.shade 1).shade 1).ma 5 || decide ((5 : Int) ∈ ptsAt fitObs 1)) = true
        rw [fit_pts]; rfl
      · rfl
      · have := hd 5 (by
          show (((Col.white.shade 1).shade 1).ma 5 || decide ((5 : Int) ∈ ptsAt fitObs 1)) = true
          rw [fit_pts]; rfl)
        cases this
      · have hx2 : (((Col.white.shade 1).shade 1).ma x || decide (x ∈ ptsAt fitObs 1)) = true := hx
        rw [fit_pts] at hx2
        rw [fit_refs]
        by_cases e : x = 1
        · rw [e]; simp
        · have hm3 : ((Col.white.shade 1).shade 1).ma x = false := by
            show updI (updI (fun _ => false) 1 true) 1 true x = false
            rw [updI_ne e, updI_ne e]
          rw [hm3] at hx2
          have : x = 5 := by simpa using hx2
          rw [this]; simp
    | cons _ _ _ => simp at h1; omega
set_option maxRecDepth 100000 in
set_option maxHeartbeats 4000000 in
theorem mkfit_true (w : World) (hT : TableAt w) (hD : TabAt w) : Calls Tryz.prog 10 #[] w fun e w' => e = .returned (.bool true) ∧ Below w.heap.size w w' := by
  have hg := hT.lt
  go_enter Tryz.func10, Tryz.ntmps10
  go_wp2_with fail
  refine (new_in 2 2 (by decide) w.heap.size w w (Below.refl _ _) (Nat.le_refl _) hT hg).mono ?_
  rintro e w1 ⟨X, rfl, h1, _, _⟩
  go_wp2_with fail
  refine (ceNewOk h1 1 1 mkf1 mkf2).mono ?_
  rintro e w2 ⟨rfl, lo2, h2, _⟩
  go_wp2_with fail
  refine (ceNewOk h2 1 5 mkf3 mkf4).mono ?_
  rintro e w3 ⟨rfl, lo3, h3, _⟩
  have o3 : Objs (((ArS.new 2).newS 1).newS 1) [⟨1, 1, 0, fun _ => 0⟩, ⟨5, 1, 0, fun _ => 0⟩] := by
    have o1 := (Objs.nil (ArS.new 2)).new (fits_new (P := 2) (by decide)) (k := 1) mkf2
    rw [show newR (.new 2) ((1 : Nat) : Int) = 1 from mkf1] at o1
    have o2 := o1.new h2.at_.fits (k := 1) mkf4
    rw [show newR ((ArS.new 2).newS ((1 : Nat) : Int)) ((1 : Nat) : Int) = 5 from mkf3] at o2
    exact o2
  have hP3 : (((ArS.new 2).newS 1).newS 1).P = 2 := by rw [newS_P, newS_P]; rfl
  generalize ((ArS.new 2).newS 1).newS 1 = s3 at *
  go_wp2_with fail
  refine (ceSetFieldOk h3 (o3.at_ 0 _ rfl) 0 (by decide) 5).mono ?_
  rintro e w4 ⟨rfl, lo4, h4, _⟩
  have o4 : Objs (s3.setW ((1 : Nat) : Int) (2 + ((0 : Nat) : Int)) 5) fitObs := o3.setF h3.at_.fits (i := 0) rfl (j := 0) (by decide) 5
  have hP4 : (s3.setW ((1 : Nat) : Int) (2 + ((0 : Nat) : Int)) 5).P = 2 := by rw [setW_P]; exact hP3
  generalize s3.setW ((1 : Nat) : Int) (2 + ((0 : Nat) : Int)) 5 = s4 at *
  obtain ⟨Y, hY⟩ : ∃ Y, Y = ((X.with lo2).with lo3).with lo4 := ⟨_, rfl⟩
  have hYa : Y.a = X.a := by rw [hY]; rfl
  rw [← hY] at h4
  have hs4 := h4.size
  have hD4 : TabAt w4 := fun j hj => (h4.below.cell (p := ⟨1, j, none⟩) hD.lt).trans (hD j hj)
  have cN := mkNewM h4.at_.toArMem 1 (by omega)
  rw [hYa] at cN
  clear h1 h2 h3 o3 hY hP3
  go_wp2_with fail
  refine cN.mono ?_
  rintro e w5 ⟨T, rfl, hTn, hM5, hown, hB5⟩
  rw [← hYa] at hM5
  have h5 := h4.ask hB5
  have hl4 := h4.at_.lt
  have hd5 : MkSide w5 T Y s4 := ⟨h5.at_, hTn, fun j hj => (hB5.cell (p := ⟨1, j, none⟩) hD4.lt).trans (hD4 j hj), h5.tabAt, fun k e e2 => by have := hown k e; have := hl4 k e2; omega, fun e => by have := hown _ e; have := hD4.lt; omega, fun e => by have := hown _ e; have := h4.tabAt.lt; omega⟩
  have hx1 : inS s4.S 1 = true := (o4.at_ 0 _ rfl).S
  have cA := mkShade hM5 hd5.ar.toArMem hd5.P 1 hx1 true rfl
  clear cN
  go_wp2_with fail
  refine cA.mono ?_
  rintro e w6 ⟨rfl, T6, hM6, hS6⟩
  have hd6 := hd5.step hS6
  have cA2 := mkShade hM6 hd6.ar.toArMem hd6.P 1 hx1 false rfl
  rw [hS6.m] at cA2
  clear cA
  go_wp2_with fail
  refine cA2.mono ?_
  rintro e w7 ⟨rfl, T7, hM7, hS7⟩
  have hd7 := hd6.step hS7
  have hm7 : T7.m = T.m := hS7.m.trans hS6.m
  have cT := mkTrace hM7 hd7 o4 fit_closed (fun x hx => by
    rw [fit_refs]
    have hm2 : updI (updI (fun _ => false) 1 true) 1 true x = true := hx
    by_cases e : x = 1
    · rw [e]; simp
    · rw [updI_ne e, updI_ne e] at hm2; cases hm2) 1
  rw [hm7] at cT
  clear cA2
  go_wp2_with fail
  refine cT.mono ?_
  rintro e w8 ⟨T8, c8, l8, rfl, hM8, hS8, hsc8, hl8, hd8⟩
  obtain ⟨hl, k1, k2, k3, k4, k5⟩ := fit_scan (n := 1) hsc8 hl8 hd8
  have hd8' := hd7.step hS8
  have hm8 : T8.m = T.m := hS8.m.trans hm7
  have hB08 : Below w.heap.size w w8 := by
    have hB05 := h5.below
    have hSS := (hS6.trans hS7).trans hS8
    exact hB05.trans (hSS.turn.below w.heap.size hB05.size fun k hk e => by have := hown k e; omega)
  have hin8 : InAr s4 c8 := inAr_of o4 k5
  obtain ⟨S8, S82, hee⟩ := hM8.sees hd8'.ar.toArMem hin8
  have e8 : (l8.length : Int) = 1 := by omega
  have cQ1 := mkScanned hee 1 true k1
  rw [hm8] at cQ1
  have HK := Lib.hid (And.intro k2 (And.intro k3 (And.intro k4 hd8)))
  clear cT hl k5 k1 k2 k3 k4 hd8 hl8 hsc8
  go_wp2_with fail
  refine cQ1.mono ?_
  rintro e w9 ⟨rfl, hB9⟩
  have hee9 := hee.below hB9
  have cQ2 := mkMarked hee9 5 true HK.out.1
  rw [hm8] at cQ2
  clear cQ1
  go_wp2_with fail
  refine cQ2.mono ?_
  rintro e w10 ⟨rfl, hB10⟩
  have hee10 := hee9.below hB10
  have cQ3 := mkScanned hee10 5 false HK.out.2.1
  rw [hm8] at cQ3
  clear cQ2
  go_wp2_with fail
  refine cQ3.mono ?_
  rintro e w11 ⟨rfl, hB11⟩
  have hee11 := hee10.below hB11
  have hD8 : TabAt w8 := hd8'.tab
  have hB811 := below_step (below_step hB9 hB10) hB11
  have hD11 : TabAt w11 := fun j hj => (hB811.cell (p := ⟨1, j, none⟩) hD8.lt).trans (hD8 j hj)
  have cQ4 := mkDrained hee11 hD11 false ⟨fun h => (by cases h), fun h => absurd h HK.out.2.2.1⟩
  rw [hm8] at cQ4
  clear cQ3
  go_wp2_with fail
  refine cQ4.mono ?_
  rintro e w12 ⟨rfl, hB12⟩
  clear cQ4
  go_wp2_with fail
  go_ret
  exact ⟨rfl, hB08.trans ((below_step hB811 hB12).mono hB08.size)⟩
end Go.Proofs.YtfcbpablponmeaaGreatDoor
