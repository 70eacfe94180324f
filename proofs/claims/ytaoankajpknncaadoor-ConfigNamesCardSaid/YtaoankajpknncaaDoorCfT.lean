/- ConfigNames, walked; at this seat's numbers. -/
import Derived.Test.YtaoankajpknncaaDoorCfS
namespace Go.Proofs.YtaoankajpknncaaDoor
open Go Go.RowKit
set_option linter.unusedSimpArgs false
set_option linter.unusedVariables false
attribute [local go_sem] Oper.semAt_some

/-- What the law's own first loop finds: the last of the first p names that is s. -/
def engM (s : ByteArray) : Nat → Int × Bool
  | 0 => (0, false)
  | p + 1 => if (nmN p).toList == s.toList then ((p : Int), true) else engM s p
def wantN (n : Int) : Nat → ByteArray
  | 0 => ⟨#[]⟩
  | p + 1 => if (p : Int) = n then nmN p else wantN n p
theorem nm_ne : nm0.toList ≠ nm1.toList ∧ nm0.toList ≠ nm2.toList ∧ nm0.toList ≠ nm3.toList ∧ nm1.toList ≠ nm2.toList ∧ nm1.toList ≠ nm3.toList ∧ nm2.toList ≠ nm3.toList := by
  simp only [ByteArray.toList_eq]; decide
theorem engM_engN (s : ByteArray) : engM s 4 = engN s 4 := by
  obtain ⟨h01, h02, h03, h12, h13, h23⟩ := nm_ne
  simp only [engM, engN, nmN, Nat.sub_zero, Nat.sub_self]
  generalize s.toList = l
  generalize nm0.toList = l0 at *
  generalize nm1.toList = l1 at *
  generalize nm2.toList = l2 at *
  generalize nm3.toList = l3 at *
  by_cases e0 : l0 = l
  · subst e0
    simp [h01.symm, h02.symm, h03.symm]
  · by_cases e1 : l1 = l
    · subst e1
      simp [h01, h12.symm, h13.symm]
    · by_cases e2 : l2 = l
      · subst e2
        simp [h02, h12, h23.symm]
      · simp [e0, e1, e2]
theorem wantN_name (n : Int) : wantN n 4 = nameOf n := by
  unfold nameOf
  by_cases h : 0 ≤ n ∧ n < 4
  · rw [if_pos h]
    obtain ⟨k, rfl⟩ := Int.eq_ofNat_of_zero_le h.1
    have hk : k < 4 := by omega
    match k, hk with
    | 0, _ | 1, _ | 2, _ | 3, _ => rfl
  · rw [if_neg h]
    simp only [wantN]
    rw [if_neg (by omega), if_neg (by omega), if_neg (by omega), if_neg (by omega)]

structure NamI (c : Cfg) (w : World) (a0 : Option Addr) (bc : Nat) (wr : World) : Prop where
  box : Blk wr bc c.arr 23
  row : RowAt wr a0 (allC c 8)
  below : Below w.heap.size w wr
theorem NamI.on {c : Cfg} {w : World} {a0 : Option Addr} {bc : Nat} {wr w' : World} (h : NamI c w a0 bc wr) (hB : Below wr.heap.size wr w') : NamI c w a0 bc w' :=
  ⟨h.box.on hB, h.row.on hB, Below.on h.below (Nat.le_refl _) hB⟩
theorem below_new (w : World) (o : Obj) : Below w.heap.size w (w.alloc o) := (Below.refl _ _).alloc (Nat.le_refl _) o

set_option maxRecDepth 100000 in
set_option maxHeartbeats 8000000 in
theorem names_true (n : Int) (s : ByteArray) (c : Cfg) (w : World) (hT : NamesAt w) :
    Calls Tryd.prog 5 #[.int .i64 n, .string s, c.val] w fun e w' => e = .returned (.bool true) ∧ Below w.heap.size w w' := by
  have hB := below_new w (.cells c.arr 23)
  have hb := Blk.new w c.arr 23
  have c0 := cfit_true (w.alloc (.cells c.arr 23)) (hT.below hB)
  have HH := Lib.hid (And.intro hB (And.intro hb hT))
  clear hB hb hT
  go_enter Tryd.func5, Tryd.ntmps5
  go_wp2_with fail
  refine c0.mono ?_
  rintro e1 w1 ⟨rfl, hB1⟩
  obtain ⟨hB, hb, hT⟩ := HH.out
  have hB1' := Below.on hB (Nat.le_refl _) hB1
  have hb1 := hb.on hB1
  have hT1 := hT.below hB1'
  clear HH c0 hB hb hB1 hT
  by_cases hbig : 40 < (s.size : Int)
  · have HB := Lib.hid hB1'
    clear hB1' hb1 hT1
    go_wp2_with fail
    go_ret
    exact ⟨rfl, HB.out⟩
  have hrow := Blk.new w1 #[.string nm0, .string nm1, .string nm2, .string nm3] 9
  have hB2 := below_new w1 (.cells #[.string nm0, .string nm1, .string nm2, .string nm3] 9)
  have HH := Lib.hid (And.intro hrow (And.intro (Below.on hB1' (Nat.le_refl _) hB2) (And.intro (hb1.on hB2) (hT1.below hB2))))
  clear hrow hB2 hB1' hb1 hT1
  go_wp2_with fail
  obtain ⟨hrow, hB2, hb2, hT2⟩ := HH.out
  clear HH
  generalize w1.alloc (.cells #[.string nm0, .string nm1, .string nm2, .string nm3] 9) = V at *
  generalize w1.heap.size = bs at *
  have hnm : ∀ p, p < 4 → V.cell? ⟨bs, p, none⟩ = some (.string (nmN p)) := fun p hp => by
    rw [hrow.cell p]
    match p, hp with
    | 0, _ | 1, _ | 2, _ | 3, _ => rfl
  clear hrow
  go_loopw [8, 9, 10, 29] (fun v8 v9 v10 v29 wr => ∃ p : Nat, p ≤ 4 ∧ v8 = .string (wantN n p) ∧ v9 = .int .i64 (engM s p).1 ∧ v10 = .bool (engM s p).2 ∧ v29 = .int .i64 (p : Int) ∧ V = wr) (fun _ _ _ v29 _ => 4 - (intOf v29).toNat)
  case atStart => exact ⟨0, by decide, rfl, rfl, rfl, rfl, rfl⟩
  case round =>
    obtain ⟨p, hp, rfl, rfl, rfl, rfl, rfl⟩ := hrel
    by_cases hlt : p < 4
    · have hltI : (p : Int) < 4 := by omega
      have hcp := hnm p hlt
      have hM : engM s (p + 1) = if (nmN p).toList == s.toList then ((p : Int), true) else engM s p := rfl
      have hW : wantN n (p + 1) = if (p : Int) = n then nmN p else wantN n p := rfl
      have HMW := Lib.hid (And.intro hM hW)
      clear hM hW
      by_cases hpn : (p : Int) = n
      · have hpe : ((p : Int) == n) = true := by simpa using hpn
        cases hq : ((nmN p).toList == s.toList)
        · have HMW2 := Lib.hid (And.intro (show engM s (p + 1) = engM s p by rw [HMW.out.1, hq]; rfl) (show wantN n (p + 1) = nmN p by rw [HMW.out.2, if_pos hpn]))
          clear HMW hpn
          go_wp2_with fail
          go_roundw
          case rel => exact ⟨p + 1, by omega, by rw [HMW2.out.2], by rw [HMW2.out.1], by rw [HMW2.out.1], by go_num, trivial⟩
          case measure => simp [intOf]; omega
        · have HMW2 := Lib.hid (And.intro (show engM s (p + 1) = ((p : Int), true) by rw [HMW.out.1, hq]; rfl) (show wantN n (p + 1) = nmN p by rw [HMW.out.2, if_pos hpn]))
          clear HMW hpn
          go_wp2_with fail
          go_roundw
          case rel => exact ⟨p + 1, by omega, by rw [HMW2.out.2], by rw [HMW2.out.1], by rw [HMW2.out.1], by go_num, trivial⟩
          case measure => simp [intOf]; omega
      · have hpe : ((p : Int) == n) = false := by simpa using hpn
        cases hq : ((nmN p).toList == s.toList)
        · have HMW2 := Lib.hid (And.intro (show engM s (p + 1) = engM s p by rw [HMW.out.1, hq]; rfl) (show wantN n (p + 1) = wantN n p by rw [HMW.out.2, if_neg hpn]))
          clear HMW hpn
          go_wp2_with fail
          go_roundw
          case rel => exact ⟨p + 1, by omega, by rw [HMW2.out.2], by rw [HMW2.out.1], by rw [HMW2.out.1], by go_num, trivial⟩
          case measure => simp [intOf]; omega
        · have HMW2 := Lib.hid (And.intro (show engM s (p + 1) = ((p : Int), true) by rw [HMW.out.1, hq]; rfl) (show wantN n (p + 1) = wantN n p by rw [HMW.out.2, if_neg hpn]))
          clear HMW hpn
          go_wp2_with fail
          go_roundw
          case rel => exact ⟨p + 1, by omega, by rw [HMW2.out.2], by rw [HMW2.out.1], by rw [HMW2.out.1], by go_num, trivial⟩
          case measure => simp [intOf]; omega
    · obtain rfl : p = 4 := by omega
      have hN : ¬ ((4 : Nat) : Int) < 4 := by omega
      rw [wantN_name, engM_engN]
      have cE := engine_any s V hT2
      have cN := name_any n V hT2
      have HH := Lib.hid (And.intro hB2 hb2)
      clear hnm hp hlt hB2 hb2 hT2
      generalize (engN s 4).1 = k1 at *
      generalize (engN s 4).2 = k2 at *
      generalize nameOf n = wn at *
      go_wp2_with fail
      refine cE.mono ?_
      rintro e1 w3 ⟨rfl, rfl⟩
      clear cE
      go_wp2_with fail
      refine cN.mono ?_
      rintro e1 w3 ⟨rfl, rfl⟩
      clear cN
      obtain ⟨hB2, hb2⟩ := HH.out
      clear HH
      have f0 := hb2.cell 0
      have f1 := hb2.cell 1
      have f2 := hb2.cell 2
      have f3 := hb2.cell 3
      have f4 := hb2.cell 4
      have f5 := hb2.cell 5
      have f6 := hb2.cell 6
      have f7 := hb2.cell 7
      have f8 := hb2.cell 8
      have f9 := hb2.cell 9
      have f10 := hb2.cell 10
      simp only [List.getElem?_toArray, List.getElem?_cons_succ, List.getElem?_cons_zero] at f0 f1 f2 f3 f4 f5 f6 f7 f8 f9 f10
      have cA := all_any c V
      have HH := Lib.hid (And.intro hB2 hb2)
      clear hB2 hb2
      have hw1 : (wn.toList != wn.toList) = false := by simp
      have hw2 : (k2 != k2) = false := by simp
      have hw3 : (k1 != k1) = false := by simp
      go_wp2_with fail
      refine cA.mono ?_
      rintro e1 w3 ⟨v, rfl, hr, hown, hB3⟩
      obtain ⟨a0, cap, rfl, hrw⟩ := hr.form
      obtain ⟨hB2, hb2⟩ := HH.out
      have hI0 : NamI c w a0 w.heap.size w3 := ⟨hb2.on hB3, hrw, Below.on hB2 (Nat.le_refl _) hB3⟩
      have hL8 := allC_le c 8
      clear HH cA hr hown hB2 hb2 hB3 hrw f0 f1 f2 f3 f4 f5 f6 f7 f8 f9 f10 hw1 hw2 hw3
      obtain ⟨len, hlen⟩ : ∃ len : Nat, len = (allC c 8).length := ⟨_, rfl⟩
      rw [← hlen] at hL8 ⊢
      have HL := Lib.hid hlen
      clear hlen
      go_wp2_with fail
      generalize w.heap.size = bc at *
      go_loopw [15, 65] (fun v15 v65 wr => ∃ i q : Nat, i ≤ 8 ∧ q ≤ len ∧ v15 = .int .i64 (i : Int) ∧ v65 = .int .i64 (q : Int) ∧ (allC c i).length = q ∧ NamI c w a0 bc wr) (fun _ v65 _ => len - (intOf v65).toNat)
      case atStart => exact ⟨0, 0, by decide, Nat.zero_le _, rfl, rfl, rfl, hI0⟩
      case round =>
        clear hI0
        obtain ⟨i, q, hi8, hq, rfl, rfl, hiq, hI⟩ := hrel
        by_cases hlt : q < len
        · have hltI : (q : Int) < (len : Int) := by omega
          obtain ⟨d, hd⟩ : ∃ d, (allC c 8)[q]? = some d := ⟨_, List.getElem?_eq_getElem (by have := HL.out; omega)⟩
          obtain ⟨g, rfl, hg, hc⟩ := hI.row q d hd
          have f0 := hc 0 (by decide)
          have f1 := hc 1 (by decide)
          have f2 := hc 2 (by decide)
          have f3 := hc 3 (by decide)
          have f4 := hc 4 (by decide)
          have f5 := hc 5 (by decide)
          have f6 := hc 6 (by decide)
          have f7 := hc 7 (by decide)
          have f8 := hc 8 (by decide)
          have f9 := hc 9 (by decide)
          have f10 := hc 10 (by decide)
          simp only [Cfg.cells, List.getElem?_cons_succ, List.getElem?_cons_zero, Nat.add_zero] at f0 f1 f2 f3 f4 f5 f6 f7 f8 f9 f10
          have hbx := Blk.new wr d.arr 23
          have hI1 := hI.on (below_new wr (.cells d.arr 23))
          have HH := Lib.hid (And.intro hbx (And.intro hI1 (And.intro hd hiq)))
          clear hc hI hbx hI1 hd hiq
          go_wp2_with fail
          obtain ⟨hbx, hI1, hd, hiq⟩ := HH.out
          clear HH f0 f1 f2 f3 f4 f5 f6 f7 f8 f9 f10
          generalize wr.alloc (.cells d.arr 23) = W1 at *
          generalize wr.heap.size = bx at *
          go_loopw [15] (fun v15 wx => ∃ i : Nat, i ≤ 8 ∧ v15 = .int .i64 (i : Int) ∧ (allC c i).length = q ∧ NamI c w (some ⟨g, 0, none⟩) bc wx ∧ Blk wx bx d.arr 23) (fun v15 _ => 8 - (intOf v15).toNat)
          case atStart => exact ⟨i, hi8, rfl, hiq, hI1, hbx⟩
          case round =>
            clear hbx hI1 hiq hi8
            obtain ⟨i, hi8, rfl, hiq, hI, hbx⟩ := hrel
            have hi : i < 8 := by
              rcases Nat.lt_or_ge i 8 with h | h
              · exact h
              · obtain rfl : i = 8 := by omega
                have := HL.out
                omega
            have hiI : (i : Int) < 8 := by omega
            have hi0 : (0 : Int) ≤ (i : Int) := by omega
            obtain ⟨e, he, hdiv⟩ : ∃ e : Nat, e = i / 2 ∧ (i : Int) / 2 = (e : Int) := ⟨i / 2, rfl, by omega⟩
            obtain ⟨bk, hbk, hmod⟩ : ∃ bk : Bool, bk = (i % 2 == 1) ∧ ((i : Int) % 2 == 1) = bk := ⟨_, rfl, by
              rw [Bool.eq_iff_iff]; simp only [beq_iff_eq]; omega⟩
            have cM : Calls Tryd.prog 9 #[.agg #[.int .i64 (e : Int), .bool bk, .int .i64 c.p, .int .i64 c.t, .int .i64 c.r, .int .i64 c.s, .int .i64 c.g, .int .i64 c.f, .int .i64 c.m, .int .i64 c.l, .int .i64 c.b]] (wr.alloc (.cells #[.int .i64 (e : Int), .bool bk, .int .i64 c.p, .int .i64 c.t, .int .i64 c.r, .int .i64 c.s, .int .i64 c.g, .int .i64 c.f, .int .i64 c.m, .int .i64 c.l, .int .i64 c.b] 23)) _ := may_any (c.at (e : Int) bk) _
            have hY := Blk.new wr (c.at (e : Int) bk).arr 23
            have hn := below_new wr (.cells #[.int .i64 (e : Int), .bool bk, .int .i64 c.p, .int .i64 c.t, .int .i64 c.r, .int .i64 c.s, .int .i64 c.g, .int .i64 c.f, .int .i64 c.m, .int .i64 c.l, .int .i64 c.b] 23)
            have hI2 := hI.on hn
            have hX := hbx.on hn
            have f0 := hI.box.cell 0
            have f1 := hI.box.cell 1
            have f2 := hI.box.cell 2
            have f3 := hI.box.cell 3
            have f4 := hI.box.cell 4
            have f5 := hI.box.cell 5
            have f6 := hI.box.cell 6
            have f7 := hI.box.cell 7
            have f8 := hI.box.cell 8
            have f9 := hI.box.cell 9
            have f10 := hI.box.cell 10
            simp only [List.getElem?_toArray, List.getElem?_cons_succ, List.getElem?_cons_zero] at f0 f1 f2 f3 f4 f5 f6 f7 f8 f9 f10
            have HH := Lib.hid (And.intro hY (And.intro hI2 (And.intro hX (And.intro hiq (And.intro he hbk)))))
            clear hY hn hI hI2 hX hbx hiq he hbk
            cases hq2 : (c.at (e : Int) bk).may
            · rw [hq2] at cM
              have HQ := Lib.hid hq2
              clear hq2
              go_wp2_with fail
              refine cM.mono ?_
              rintro e1 w4 ⟨rfl, hB4⟩
              obtain ⟨hY, hI2, hX, hiq, he, hbk⟩ := HH.out
              have hres : (allC c (i + 1)).length = q := by
                rw [allC_no c i (by rw [← he, ← hbk]; exact HQ.out)]; exact hiq
              have HH2 := Lib.hid (And.intro hres (And.intro (hI2.on hB4) (hX.on hB4)))
              clear HH HQ cM hY hI2 hX hiq he hbk hB4 hres hdiv hmod f0 f1 f2 f3 f4 f5 f6 f7 f8 f9 f10
              go_wp2_with fail
              go_roundw
              case rel => exact ⟨i + 1, by omega, by go_num, HH2.out⟩
              case measure => simp [intOf]; omega
            · rw [hq2] at cM
              have HQ := Lib.hid hq2
              clear hq2
              go_wp2_with fail
              refine cM.mono ?_
              rintro e1 w4 ⟨rfl, hB4⟩
              obtain ⟨hY, hI2, hX, hiq, he, hbk⟩ := HH.out
              have hde : d = c.at (e : Int) bk := by
                have h := allC_next c hi hiq (by rw [← he, ← hbk]; exact HQ.out)
                rw [hd, ← he, ← hbk] at h
                exact Option.some.inj h
              have hres : (allC c (i + 1)).length = q + 1 := by
                rw [allC_yes c i (by rw [← he, ← hbk]; exact HQ.out), List.length_append, hiq]; rfl
              have hI4 := hI2.on hB4
              have hX4 : Blk w4 bx #[.int .i64 (e : Int), .bool bk, .int .i64 c.p, .int .i64 c.t, .int .i64 c.r, .int .i64 c.s, .int .i64 c.g, .int .i64 c.f, .int .i64 c.m, .int .i64 c.l, .int .i64 c.b] 23 := by
                have := hX.on hB4
                rw [hde] at this
                exact this
              have hY4 : Blk w4 wr.heap.size #[.int .i64 (e : Int), .bool bk, .int .i64 c.p, .int .i64 c.t, .int .i64 c.r, .int .i64 c.s, .int .i64 c.g, .int .i64 c.f, .int .i64 c.m, .int .i64 c.l, .int .i64 c.b] 23 := hY.on hB4
              have hne : ∀ W, (binOp .neq 23 (.agg #[.int .i64 (e : Int), .bool bk, .int .i64 c.p, .int .i64 c.t, .int .i64 c.r, .int .i64 c.s, .int .i64 c.g, .int .i64 c.f, .int .i64 c.m, .int .i64 c.l, .int .i64 c.b]) (.agg #[.int .i64 (e : Int), .bool bk, .int .i64 c.p, .int .i64 c.t, .int .i64 c.r, .int .i64 c.s, .int .i64 c.g, .int .i64 c.f, .int .i64 c.m, .int .i64 c.l, .int .i64 c.b])).run Tryd.prog W = .ok (.bool false) W := fun W => by
                have := neq_cfg (c.at (e : Int) bk) (c.at (e : Int) bk) W
                rw [decide_eq_true rfl] at this
                exact this
              have cA : Calls Tryd.prog 15 #[.agg #[.int .i64 (e : Int), .bool bk, .int .i64 c.p, .int .i64 c.t, .int .i64 c.r, .int .i64 c.s, .int .i64 c.g, .int .i64 c.f, .int .i64 c.m, .int .i64 c.l, .int .i64 c.b], c.val] w4 _ := alike_any (c.at (e : Int) bk) c w4
              rw [alikeB_at] at cA
              clear HH HQ cM hY hI2 hX hiq he hbk hB4 hdiv hmod f0 f1 f2 f3 f4 f5 f6 f7 f8 f9 f10
              have x0 := hX4.cell 0
              have x1 := hX4.cell 1
              have x2 := hX4.cell 2
              have x3 := hX4.cell 3
              have x4 := hX4.cell 4
              have x5 := hX4.cell 5
              have x6 := hX4.cell 6
              have x7 := hX4.cell 7
              have x8 := hX4.cell 8
              have x9 := hX4.cell 9
              have x10 := hX4.cell 10
              have y0 := hY4.cell 0
              have y1 := hY4.cell 1
              have y2 := hY4.cell 2
              have y3 := hY4.cell 3
              have y4 := hY4.cell 4
              have y5 := hY4.cell 5
              have y6 := hY4.cell 6
              have y7 := hY4.cell 7
              have y8 := hY4.cell 8
              have y9 := hY4.cell 9
              have y10 := hY4.cell 10
              have z0 := hI4.box.cell 0
              have z1 := hI4.box.cell 1
              have z2 := hI4.box.cell 2
              have z3 := hI4.box.cell 3
              have z4 := hI4.box.cell 4
              have z5 := hI4.box.cell 5
              have z6 := hI4.box.cell 6
              have z7 := hI4.box.cell 7
              have z8 := hI4.box.cell 8
              have z9 := hI4.box.cell 9
              have z10 := hI4.box.cell 10
              simp only [List.getElem?_toArray, List.getElem?_cons_succ, List.getElem?_cons_zero] at x0 x1 x2 x3 x4 x5 x6 x7 x8 x9 x10 y0 y1 y2 y3 y4 y5 y6 y7 y8 y9 y10 z0 z1 z2 z3 z4 z5 z6 z7 z8 z9 z10
              have HH2 := Lib.hid (And.intro hres hI4)
              clear hres hI4 hX4 hY4 hd hde
              go_wp2_with fail
              refine cA.mono ?_
              rintro e1 w5 ⟨rfl, hB5⟩
              obtain ⟨hres, hI4⟩ := HH2.out
              have HH3 := Lib.hid (And.intro hres (hI4.on hB5))
              clear HH2 cA hne hres hI4 hB5 x0 x1 x2 x3 x4 x5 x6 x7 x8 x9 x10 y0 y1 y2 y3 y4 y5 y6 y7 y8 y9 y10 z0 z1 z2 z3 z4 z5 z6 z7 z8 z9 z10
              go_wp2_with fail
              go_roundw
              case rel => exact ⟨i + 1, q + 1, by omega, by omega, by go_num, by go_num, HH3.out⟩
              case measure => simp [intOf]; omega
        · obtain rfl : q = len := by omega
          have hN : ¬ (q : Int) < (q : Int) := by omega
          clear hlt hq hL8
          go_wp2_with fail
          go_loopw [15, 19] (fun v15 v19 wx => ∃ i : Nat, i ≤ 8 ∧ v15 = .int .i64 (i : Int) ∧ v19 = .int .i64 0 ∧ (allC c i).length = q ∧ NamI c w a0 bc wx) (fun v15 _ _ => 8 - (intOf v15).toNat)
          case atStart => exact ⟨i, hi8, rfl, rfl, hiq, hI⟩
          case round =>
            clear hI hiq hi8
            obtain ⟨i, hi8, rfl, rfl, hiq, hI⟩ := hrel
            by_cases hi : i < 8
            · have hiI : (i : Int) < 8 := by omega
              have hi0 : (0 : Int) ≤ (i : Int) := by omega
              obtain ⟨e, he, hdiv⟩ : ∃ e : Nat, e = i / 2 ∧ (i : Int) / 2 = (e : Int) := ⟨i / 2, rfl, by omega⟩
              obtain ⟨bk, hbk, hmod⟩ : ∃ bk : Bool, bk = (i % 2 == 1) ∧ ((i : Int) % 2 == 1) = bk := ⟨_, rfl, by
                rw [Bool.eq_iff_iff]; simp only [beq_iff_eq]; omega⟩
              have hq2 : (c.at (e : Int) bk).may = false := by
                cases hq2 : (c.at (e : Int) bk).may
                · rfl
                · exfalso
                  have h := allC_yes c i (by rw [← he, ← hbk]; exact hq2)
                  have h2 := (allC_pre8 c (show i + 1 ≤ 8 from hi)).length_le
                  rw [h, List.length_append, hiq] at h2
                  have := HL.out
                  simp at h2
                  omega
              have hres : (allC c (i + 1)).length = q := by
                rw [allC_no c i (by rw [← he, ← hbk]; exact hq2)]; exact hiq
              have cM : Calls Tryd.prog 9 #[.agg #[.int .i64 (e : Int), .bool bk, .int .i64 c.p, .int .i64 c.t, .int .i64 c.r, .int .i64 c.s, .int .i64 c.g, .int .i64 c.f, .int .i64 c.m, .int .i64 c.l, .int .i64 c.b]] (wr.alloc (.cells #[.int .i64 (e : Int), .bool bk, .int .i64 c.p, .int .i64 c.t, .int .i64 c.r, .int .i64 c.s, .int .i64 c.g, .int .i64 c.f, .int .i64 c.m, .int .i64 c.l, .int .i64 c.b] 23)) _ := may_any (c.at (e : Int) bk) _
              rw [hq2] at cM
              have hn := below_new wr (.cells #[.int .i64 (e : Int), .bool bk, .int .i64 c.p, .int .i64 c.t, .int .i64 c.r, .int .i64 c.s, .int .i64 c.g, .int .i64 c.f, .int .i64 c.m, .int .i64 c.l, .int .i64 c.b] 23)
              have hY := Blk.new wr (c.at (e : Int) bk).arr 23
              have hI2 := hI.on hn
              have f0 := hI.box.cell 0
              have f1 := hI.box.cell 1
              have f2 := hI.box.cell 2
              have f3 := hI.box.cell 3
              have f4 := hI.box.cell 4
              have f5 := hI.box.cell 5
              have f6 := hI.box.cell 6
              have f7 := hI.box.cell 7
              have f8 := hI.box.cell 8
              have f9 := hI.box.cell 9
              have f10 := hI.box.cell 10
              simp only [List.getElem?_toArray, List.getElem?_cons_succ, List.getElem?_cons_zero] at f0 f1 f2 f3 f4 f5 f6 f7 f8 f9 f10
              have HH := Lib.hid (And.intro hres hI2)
              clear hn hI hI2 hiq he hbk hres hq2 hY
              go_wp2_with fail
              refine cM.mono ?_
              rintro e1 w4 ⟨rfl, hB4⟩
              obtain ⟨hres, hI2⟩ := HH.out
              have HH2 := Lib.hid (And.intro hres (hI2.on hB4))
              clear HH cM hI2 hB4 hres hdiv hmod f0 f1 f2 f3 f4 f5 f6 f7 f8 f9 f10
              go_wp2_with fail
              go_roundw
              case rel => exact ⟨i + 1, by omega, by go_num, rfl, HH2.out⟩
              case measure => simp [intOf]; omega
            · obtain rfl : i = 8 := by omega
              have hN8 : ¬ ((8 : Nat) : Int) < 8 := by omega
              have HB := Lib.hid hI.below
              clear hI hi hi8 hiq
              go_wp2_with fail
              go_ret
              exact ⟨rfl, HB.out⟩
end Go.Proofs.YtaoankajpknncaaDoor
