/- Names, codes, what each does: of a number below thirteen; OpSpells, walked; at this seat's numbers. -/
import Derived.Test.YtdkakbddhckbnaaDoorOpF
import Derived.Test.YtdkakbddhckbnaaDoorOpC
namespace Go.Proofs.YtdkakbddhckbnaaDoor
open Go Go.RowKit
set_option linter.unusedSimpArgs false
set_option linter.unusedVariables false
attribute [local go_sem] Oper.semAt_some

theorem opOf_nat {k : Nat} (hk : k < 13) : opOf (k : Int) = opN k := by
  rw [opOf_yes (inR_iff.2 ⟨by omega, by omega⟩), Int.toNat_natCast]
theorem name_nat (k : Nat) (hk : k < 13) (w : World) (hT : TabOp w) : Calls Tryd.prog 14 #[.int .i64 (k : Int)] w fun e w' => e = .returned (.string (opN k).nm) ∧ Below w.heap.size w w' := opOf_nat hk ▸ name_any (k : Int) w hT
theorem writes_nat (k : Nat) (hk : k < 13) (w : World) (hT : TabOp w) : Calls Tryd.prog 17 #[.int .i64 (k : Int)] w fun e w' => e = .returned (.bool (opN k).w) ∧ Below w.heap.size w w' := opOf_nat hk ▸ writes_any (k : Int) w hT
theorem tells_nat (k : Nat) (hk : k < 13) (w : World) (hT : TabOp w) : Calls Tryd.prog 18 #[.int .i64 (k : Int)] w fun e w' => e = .returned (.bool (opN k).t) ∧ Below w.heap.size w w' := opOf_nat hk ▸ tells_any (k : Int) w hT
theorem codN_nm : ∀ k, k < 13 → codN (opN k).nm 13 = ((k : Int), true) := by
  intro k hk
  match k, hk with
  | 0, _ | 1, _ | 2, _ | 3, _ | 4, _ | 5, _ | 6, _ | 7, _ | 8, _ | 9, _ | 10, _ | 11, _ | 12, _ =>
    simp only [codN, ByteArray.toList_eq]
    decide
theorem code_nm (k : Nat) (hk : k < 13) (w : World) (hT : TabOp w) : Calls Tryd.prog 13 #[.string (opN k).nm] w fun e w' => e = .returned (.tuple #[.int .i64 (k : Int), .bool true]) ∧ Below w.heap.size w w' := by
  have h := code_any (opN k).nm w hT
  rw [codN_nm k hk] at h
  exact h
/-- Two that have one name are one. -/
theorem nm_apart {k m : Nat} (hk : k < 13) (hm : m < 13) (hne : k ≠ m) : ((opN k).nm.toList == (opN m).nm.toList) = false := by
  cases h : ((opN k).nm.toList == (opN m).nm.toList)
  · rfl
  · have e := eq_of_beq h
    have h1 := codN_nm k hk
    have h2 := codN_nm m hm
    have e2 : (opN k).nm = (opN m).nm := by
      simp only [ByteArray.toList_eq] at e
      have := Array.ext' e
      exact ByteArray.ext this
    rw [e2, h2] at h1
    have := congrArg Prod.fst h1
    simp at this
    omega
theorem opN_wt : ∀ k, k < 13 → (opN k).w = false ∨ (opN k).w = true ∧ (opN k).t = false := by
  intro k hk
  match k, hk with
  | 0, _ | 1, _ | 2, _ | 3, _ | 4, _ | 5, _ | 6, _ | 7, _ | 8, _ | 9, _ | 10, _ | 11, _ | 12, _ => decide
theorem noOp_nm : noOp.nm.toList = [] := by
  simp only [noOp, ByteArray.toList_eq]
theorem opN_nm : ∀ k, k < 13 → ((opN k).nm.toList == ([] : List UInt8)) = false := by
  intro k hk
  match k, hk with
  | 0, _ | 1, _ | 2, _ | 3, _ | 4, _ | 5, _ | 6, _ | 7, _ | 8, _ | 9, _ | 10, _ | 11, _ | 12, _ =>
    simp only [ByteArray.toList_eq]
    decide

set_option maxRecDepth 100000 in
set_option maxHeartbeats 8000000 in
theorem spells_true (a b : Int) (w : World) (hT : TabOp w) : Calls Tryd.prog 7 #[.int .i64 a, .int .i64 b] w fun e w' => e = .returned (.bool true) ∧ Below w.heap.size w w' := by
  have c0 := ofit_true w hT
  obtain ⟨ra, hra, ea⟩ := i64_and_mask a 65535 (by decide)
  obtain ⟨rb, hrb, eb⟩ := i64_and_mask b 65535 (by decide)
  replace ea : bits .and .i64 a 65535 = (ra : Int) := ea
  replace eb : bits .and .i64 b 65535 = (rb : Int) := eb
  have HT := Lib.hid hT
  clear hT
  go_enter Tryd.func7, Tryd.ntmps7
  go_wp2_with fail
  refine c0.mono ?_
  rintro e1 w1 ⟨rfl, hB1⟩
  have hT1 := HT.out.below hB1
  have HH := Lib.hid (And.intro hB1 HT.out)
  clear c0 HT hB1 hT1
  go_wp2_with fail
  obtain ⟨k, ek⟩ : ∃ k : Nat, (ra : Int) % 13 = (k : Int) := ⟨ra % 13, by omega⟩
  obtain ⟨m, em⟩ : ∃ m : Nat, (rb : Int) % 13 = (m : Int) := ⟨rb % 13, by omega⟩
  have hk : k < 13 := by omega
  have hm : m < 13 := by omega
  have hkk : inR (k : Int) 13 = true := inR_iff.2 ⟨by omega, by omega⟩
  rw [ek, em]
  clear ea eb ek em hra hrb
  have cc := name_nat k hk w1 (HH.out.2.below HH.out.1)
  refine cc.mono ?_
  rintro e1 v1 ⟨rfl, hB1⟩
  have H1 := Lib.hid (And.intro (Below.on HH.out.1 (Nat.le_refl _) hB1) HH.out.2)
  clear cc HH hB1
  go_wp2_with fail
  have cc := code_nm k hk v1 (H1.out.2.below H1.out.1)
  refine cc.mono ?_
  rintro e1 v2 ⟨rfl, hB1⟩
  have H2 := Lib.hid (And.intro (Below.on H1.out.1 (Nat.le_refl _) hB1) H1.out.2)
  clear cc H1 hB1
  go_wp2_with fail
  by_cases hkm : k = m
  · subst hkm
    have hss : ((opN k).nm.toList == (opN k).nm.toList) = true := by simp
    have cc := name_nat k hk v2 (H2.out.2.below H2.out.1)
    refine cc.mono ?_
    rintro e1 v3 ⟨rfl, hB1⟩
    have H3 := Lib.hid (And.intro (Below.on H2.out.1 (Nat.le_refl _) hB1) H2.out.2)
    clear cc H2 hB1
    go_wp2_with fail
    have cc := name_nat k hk v3 (H3.out.2.below H3.out.1)
    refine cc.mono ?_
    rintro e1 v4 ⟨rfl, hB1⟩
    have H4 := Lib.hid (And.intro (Below.on H3.out.1 (Nat.le_refl _) hB1) H3.out.2)
    clear cc H3 hB1
    go_wp2_with fail
    have cc := hkk ▸ known_any (k : Int) v4
    refine cc.mono ?_
    rintro e1 v5 ⟨rfl, rfl⟩
    clear cc
    go_wp2_with fail
    rcases opN_wt k hk with hw | ⟨hw, ht⟩
    · skip
      have cc := hw ▸ writes_nat k hk v4 (H4.out.2.below H4.out.1)
      refine cc.mono ?_
      rintro e1 v6 ⟨rfl, hB1⟩
      have H6 := Lib.hid (And.intro (Below.on H4.out.1 (Nat.le_refl _) hB1) H4.out.2)
      clear cc H4 hB1
      go_wp2_with fail
      cases hq : inR a 13
      · have hno := opOf_no hq
        have hnil := noOp_nm
        have cc := hq ▸ known_any a v6
        refine cc.mono ?_
        rintro e1 v7 ⟨rfl, rfl⟩
        clear cc
        go_wp2_with fail
        have cc := hno ▸ name_any a v6 (H6.out.2.below H6.out.1)
        refine cc.mono ?_
        rintro e1 v8 ⟨rfl, hB1⟩
        have H8 := Lib.hid (And.intro (Below.on H6.out.1 (Nat.le_refl _) hB1) H6.out.2)
        clear cc H6 hB1
        go_wp2_with fail
        have cc := hq ▸ known_any a v8
        refine cc.mono ?_
        rintro e1 v9 ⟨rfl, rfl⟩
        clear cc
        go_wp2_with fail
        have cc := hno ▸ writes_any a v8 (H8.out.2.below H8.out.1)
        refine cc.mono ?_
        rintro e1 v10 ⟨rfl, hB1⟩
        have H10 := Lib.hid (And.intro (Below.on H8.out.1 (Nat.le_refl _) hB1) H8.out.2)
        clear cc H8 hB1
        go_wp2_with fail
        have cc := hno ▸ tells_any a v10 (H10.out.2.below H10.out.1)
        refine cc.mono ?_
        rintro e1 v11 ⟨rfl, hB1⟩
        have H11 := Lib.hid (And.intro (Below.on H10.out.1 (Nat.le_refl _) hB1) H10.out.2)
        clear cc H10 hB1
        go_wp2_with fail
        go_ret
        exact ⟨rfl, H11.out.1⟩
      · obtain ⟨n, rfl⟩ := Int.eq_ofNat_of_zero_le (inR_iff.1 hq).1
        have hn : n < 13 := by have := (inR_iff.1 hq).2; omega
        have hne := opN_nm n hn
        have cc := hq ▸ known_any (n : Int) v6
        refine cc.mono ?_
        rintro e1 v12 ⟨rfl, rfl⟩
        clear cc
        go_wp2_with fail
        have cc := name_nat n hn v6 (H6.out.2.below H6.out.1)
        refine cc.mono ?_
        rintro e1 v13 ⟨rfl, hB1⟩
        have H13 := Lib.hid (And.intro (Below.on H6.out.1 (Nat.le_refl _) hB1) H6.out.2)
        clear cc H6 hB1
        go_wp2_with fail
        have cc := hq ▸ known_any (n : Int) v13
        refine cc.mono ?_
        rintro e1 v14 ⟨rfl, rfl⟩
        clear cc
        go_wp2_with fail
        go_ret
        exact ⟨rfl, H13.out.1⟩
    · skip
      have cc := hw ▸ writes_nat k hk v4 (H4.out.2.below H4.out.1)
      refine cc.mono ?_
      rintro e1 v15 ⟨rfl, hB1⟩
      have H15 := Lib.hid (And.intro (Below.on H4.out.1 (Nat.le_refl _) hB1) H4.out.2)
      clear cc H4 hB1
      go_wp2_with fail
      have cc := ht ▸ tells_nat k hk v15 (H15.out.2.below H15.out.1)
      refine cc.mono ?_
      rintro e1 v16 ⟨rfl, hB1⟩
      have H16 := Lib.hid (And.intro (Below.on H15.out.1 (Nat.le_refl _) hB1) H15.out.2)
      clear cc H15 hB1
      go_wp2_with fail
      cases hq : inR a 13
      · have hno := opOf_no hq
        have hnil := noOp_nm
        have cc := hq ▸ known_any a v16
        refine cc.mono ?_
        rintro e1 v17 ⟨rfl, rfl⟩
        clear cc
        go_wp2_with fail
        have cc := hno ▸ name_any a v16 (H16.out.2.below H16.out.1)
        refine cc.mono ?_
        rintro e1 v18 ⟨rfl, hB1⟩
        have H18 := Lib.hid (And.intro (Below.on H16.out.1 (Nat.le_refl _) hB1) H16.out.2)
        clear cc H16 hB1
        go_wp2_with fail
        have cc := hq ▸ known_any a v18
        refine cc.mono ?_
        rintro e1 v19 ⟨rfl, rfl⟩
        clear cc
        go_wp2_with fail
        have cc := hno ▸ writes_any a v18 (H18.out.2.below H18.out.1)
        refine cc.mono ?_
        rintro e1 v20 ⟨rfl, hB1⟩
        have H20 := Lib.hid (And.intro (Below.on H18.out.1 (Nat.le_refl _) hB1) H18.out.2)
        clear cc H18 hB1
        go_wp2_with fail
        have cc := hno ▸ tells_any a v20 (H20.out.2.below H20.out.1)
        refine cc.mono ?_
        rintro e1 v21 ⟨rfl, hB1⟩
        have H21 := Lib.hid (And.intro (Below.on H20.out.1 (Nat.le_refl _) hB1) H20.out.2)
        clear cc H20 hB1
        go_wp2_with fail
        go_ret
        exact ⟨rfl, H21.out.1⟩
      · obtain ⟨n, rfl⟩ := Int.eq_ofNat_of_zero_le (inR_iff.1 hq).1
        have hn : n < 13 := by have := (inR_iff.1 hq).2; omega
        have hne := opN_nm n hn
        have cc := hq ▸ known_any (n : Int) v16
        refine cc.mono ?_
        rintro e1 v22 ⟨rfl, rfl⟩
        clear cc
        go_wp2_with fail
        have cc := name_nat n hn v16 (H16.out.2.below H16.out.1)
        refine cc.mono ?_
        rintro e1 v23 ⟨rfl, hB1⟩
        have H23 := Lib.hid (And.intro (Below.on H16.out.1 (Nat.le_refl _) hB1) H16.out.2)
        clear cc H16 hB1
        go_wp2_with fail
        have cc := hq ▸ known_any (n : Int) v23
        refine cc.mono ?_
        rintro e1 v24 ⟨rfl, rfl⟩
        clear cc
        go_wp2_with fail
        go_ret
        exact ⟨rfl, H23.out.1⟩
  · have hss := nm_apart hk hm hkm
    have hki : ((k : Int) == (m : Int)) = false := beq_false_of_ne (by omega)
    have cc := name_nat k hk v2 (H2.out.2.below H2.out.1)
    refine cc.mono ?_
    rintro e1 v25 ⟨rfl, hB1⟩
    have H25 := Lib.hid (And.intro (Below.on H2.out.1 (Nat.le_refl _) hB1) H2.out.2)
    clear cc H2 hB1
    go_wp2_with fail
    have cc := name_nat m hm v25 (H25.out.2.below H25.out.1)
    refine cc.mono ?_
    rintro e1 v26 ⟨rfl, hB1⟩
    have H26 := Lib.hid (And.intro (Below.on H25.out.1 (Nat.le_refl _) hB1) H25.out.2)
    clear cc H25 hB1
    go_wp2_with fail
    have cc := hkk ▸ known_any (k : Int) v26
    refine cc.mono ?_
    rintro e1 v27 ⟨rfl, rfl⟩
    clear cc
    go_wp2_with fail
    rcases opN_wt k hk with hw | ⟨hw, ht⟩
    · skip
      have cc := hw ▸ writes_nat k hk v26 (H26.out.2.below H26.out.1)
      refine cc.mono ?_
      rintro e1 v28 ⟨rfl, hB1⟩
      have H28 := Lib.hid (And.intro (Below.on H26.out.1 (Nat.le_refl _) hB1) H26.out.2)
      clear cc H26 hB1
      go_wp2_with fail
      cases hq : inR a 13
      · have hno := opOf_no hq
        have hnil := noOp_nm
        have cc := hq ▸ known_any a v28
        refine cc.mono ?_
        rintro e1 v29 ⟨rfl, rfl⟩
        clear cc
        go_wp2_with fail
        have cc := hno ▸ name_any a v28 (H28.out.2.below H28.out.1)
        refine cc.mono ?_
        rintro e1 v30 ⟨rfl, hB1⟩
        have H30 := Lib.hid (And.intro (Below.on H28.out.1 (Nat.le_refl _) hB1) H28.out.2)
        clear cc H28 hB1
        go_wp2_with fail
        have cc := hq ▸ known_any a v30
        refine cc.mono ?_
        rintro e1 v31 ⟨rfl, rfl⟩
        clear cc
        go_wp2_with fail
        have cc := hno ▸ writes_any a v30 (H30.out.2.below H30.out.1)
        refine cc.mono ?_
        rintro e1 v32 ⟨rfl, hB1⟩
        have H32 := Lib.hid (And.intro (Below.on H30.out.1 (Nat.le_refl _) hB1) H30.out.2)
        clear cc H30 hB1
        go_wp2_with fail
        have cc := hno ▸ tells_any a v32 (H32.out.2.below H32.out.1)
        refine cc.mono ?_
        rintro e1 v33 ⟨rfl, hB1⟩
        have H33 := Lib.hid (And.intro (Below.on H32.out.1 (Nat.le_refl _) hB1) H32.out.2)
        clear cc H32 hB1
        go_wp2_with fail
        go_ret
        exact ⟨rfl, H33.out.1⟩
      · obtain ⟨n, rfl⟩ := Int.eq_ofNat_of_zero_le (inR_iff.1 hq).1
        have hn : n < 13 := by have := (inR_iff.1 hq).2; omega
        have hne := opN_nm n hn
        have cc := hq ▸ known_any (n : Int) v28
        refine cc.mono ?_
        rintro e1 v34 ⟨rfl, rfl⟩
        clear cc
        go_wp2_with fail
        have cc := name_nat n hn v28 (H28.out.2.below H28.out.1)
        refine cc.mono ?_
        rintro e1 v35 ⟨rfl, hB1⟩
        have H35 := Lib.hid (And.intro (Below.on H28.out.1 (Nat.le_refl _) hB1) H28.out.2)
        clear cc H28 hB1
        go_wp2_with fail
        have cc := hq ▸ known_any (n : Int) v35
        refine cc.mono ?_
        rintro e1 v36 ⟨rfl, rfl⟩
        clear cc
        go_wp2_with fail
        go_ret
        exact ⟨rfl, H35.out.1⟩
    · skip
      have cc := hw ▸ writes_nat k hk v26 (H26.out.2.below H26.out.1)
      refine cc.mono ?_
      rintro e1 v37 ⟨rfl, hB1⟩
      have H37 := Lib.hid (And.intro (Below.on H26.out.1 (Nat.le_refl _) hB1) H26.out.2)
      clear cc H26 hB1
      go_wp2_with fail
      have cc := ht ▸ tells_nat k hk v37 (H37.out.2.below H37.out.1)
      refine cc.mono ?_
      rintro e1 v38 ⟨rfl, hB1⟩
      have H38 := Lib.hid (And.intro (Below.on H37.out.1 (Nat.le_refl _) hB1) H37.out.2)
      clear cc H37 hB1
      go_wp2_with fail
      cases hq : inR a 13
      · have hno := opOf_no hq
        have hnil := noOp_nm
        have cc := hq ▸ known_any a v38
        refine cc.mono ?_
        rintro e1 v39 ⟨rfl, rfl⟩
        clear cc
        go_wp2_with fail
        have cc := hno ▸ name_any a v38 (H38.out.2.below H38.out.1)
        refine cc.mono ?_
        rintro e1 v40 ⟨rfl, hB1⟩
        have H40 := Lib.hid (And.intro (Below.on H38.out.1 (Nat.le_refl _) hB1) H38.out.2)
        clear cc H38 hB1
        go_wp2_with fail
        have cc := hq ▸ known_any a v40
        refine cc.mono ?_
        rintro e1 v41 ⟨rfl, rfl⟩
        clear cc
        go_wp2_with fail
        have cc := hno ▸ writes_any a v40 (H40.out.2.below H40.out.1)
        refine cc.mono ?_
        rintro e1 v42 ⟨rfl, hB1⟩
        have H42 := Lib.hid (And.intro (Below.on H40.out.1 (Nat.le_refl _) hB1) H40.out.2)
        clear cc H40 hB1
        go_wp2_with fail
        have cc := hno ▸ tells_any a v42 (H42.out.2.below H42.out.1)
        refine cc.mono ?_
        rintro e1 v43 ⟨rfl, hB1⟩
        have H43 := Lib.hid (And.intro (Below.on H42.out.1 (Nat.le_refl _) hB1) H42.out.2)
        clear cc H42 hB1
        go_wp2_with fail
        go_ret
        exact ⟨rfl, H43.out.1⟩
      · obtain ⟨n, rfl⟩ := Int.eq_ofNat_of_zero_le (inR_iff.1 hq).1
        have hn : n < 13 := by have := (inR_iff.1 hq).2; omega
        have hne := opN_nm n hn
        have cc := hq ▸ known_any (n : Int) v38
        refine cc.mono ?_
        rintro e1 v44 ⟨rfl, rfl⟩
        clear cc
        go_wp2_with fail
        have cc := name_nat n hn v38 (H38.out.2.below H38.out.1)
        refine cc.mono ?_
        rintro e1 v45 ⟨rfl, hB1⟩
        have H45 := Lib.hid (And.intro (Below.on H38.out.1 (Nat.le_refl _) hB1) H38.out.2)
        clear cc H38 hB1
        go_wp2_with fail
        have cc := hq ▸ known_any (n : Int) v45
        refine cc.mono ?_
        rintro e1 v46 ⟨rfl, rfl⟩
        clear cc
        go_wp2_with fail
        go_ret
        exact ⟨rfl, H45.out.1⟩
end Go.Proofs.YtdkakbddhckbnaaDoor
