/- The fit of law 12, over the barrier's contracts; at this seat's numbers. -/
import Derived.Test.YtgfofilknejmnaaGreatDoorStR
namespace Go.Proofs.YtgfofilknejmnaaGreatDoor
open Go Go.RowKit Go.Shelf Go.MuLone Go.RwLone
set_option linter.unusedSimpArgs false
set_option linter.unusedVariables false
attribute [local go_sem] Oper.semAt_some

theorem row_cell {w : World} {g m cap i : Nat} {l : List Int} {x : Int} (h : RefRow w (.slice (some ⟨g, 0, none⟩) m cap) l) (hi : l[i]? = some x) : w.cell? ⟨g, i, none⟩ = some (.int .i64 x) := by
  obtain ⟨hl, hx⟩ := List.getElem?_eq_some_iff.1 hi
  rcases h.is with ⟨e, _⟩ | ⟨g', cap', cur, e, _, _, _, _, hc⟩
  · cases e
  · cases e
    rw [hc i hl, hx]
theorem card_none0 : card (fun _ => false) = 0 := card_none _ (fun _ => rfl)
set_option maxRecDepth 100000 in
set_option maxHeartbeats 8000000 in
theorem stfit_true (w : World) (hT : Tabs w) : Calls Tryz.prog 6 #[] w fun e w' => e = .returned (.bool true) ∧ Below w.heap.size w w' := by
  have hB0 := (Below.refl w.heap.size w).alloc (Nat.le_refl _) (.cells #[.int .u8 2, .int .u8 2] 5)
  have hb := Blk.new w #[.int .u8 2, .int .u8 2] 5
  have hF : BytesW (w.alloc (.cells #[.int .u8 2, .int .u8 2] 5)) (some ⟨w.heap.size, 0, none⟩) [2, 2] := fun k hk => by
    have hk2 : k = 0 ∨ k = 1 := by simp at hk; omega
    rcases hk2 with rfl | rfl
    · exact ⟨w.heap.size, 0, rfl, by simp, hb.cell 0, by decide⟩
    · exact ⟨w.heap.size, 0, rfl, by simp, hb.cell 1, by decide⟩
  have hT1 := hT.below hB0
  have cM := made_any (some ⟨w.heap.size, 0, none⟩) [2, 2] 2 none 0 0 (fun _ _ => 0) _ (by decide) (by omega) hF (fun k hk => absurd hk (Nat.not_lt_zero _)) hT1.c
  have HT := Lib.hid (And.intro hT1.b hB0)
  clear hF hT1 hT hB0 hb
  go_enter Tryz.func6, Tryz.ntmps6
  go_wp2_with fail
  generalize w.alloc (.cells #[.int .u8 2, .int .u8 2] 5) = w1 at *
  refine cM.mono ?_
  rintro e w2 hMP
  obtain ⟨X, s, obs, vl, mb, n, f, rfl, hMO⟩ := hMP.ok HT.out.1
  have hol : obs.length = 2 := hMO.len
  obtain ⟨x, y, rfl⟩ : ∃ x y, obs = [x, y] := by
    match obs, hol with
    | [x, y], _ => exact ⟨x, y, rfl⟩
  have hlen := hMO.go.row.lenRun 3
  rw [refsI_length] at hlen
  have hl2 : ((([x, y] : List Ob).length : Nat) : Int) = 2 := rfl
  rw [hl2] at hlen
  have cN := gm_new (E := fun _ => False) hMO.go hMO.P 4 (fun _ h => h.elim) (by omega) hMO.tab hMO.tab.lt
  have HO := Lib.hid hMO
  clear hMO hMP cM hol hl2
  go_wp2_with fail
  refine cN.mono ?_
  rintro e w3 ⟨T, rfl, hGm, hB3⟩
  have cS := st_new hGm
  clear cN hB3
  go_wp2_with fail
  refine cS.mono ?_
  rintro e w4 ⟨Z, rfl, hZ, hB4⟩
  obtain ⟨tm, htm⟩ : ∃ tm, T.m = tm := ⟨_, rfl⟩
  obtain ⟨zt, hzt⟩ : ∃ zt, Z.t = zt := ⟨_, rfl⟩
  rw [htm, hzt]
  rcases hZ.gm.go.row.is with ⟨_, e⟩ | ⟨g, cap, cur, hv, hg, hlc, hcm, hcs, hcell⟩
  · simp [refsI] at e
  have hR0 : (refsI [x, y])[0]? = some (x.r : Int) := rfl
  have hR1 : (refsI [x, y])[1]? = some (y.r : Int) := rfl
  have hv2 : vl = .slice (some ⟨g, 0, none⟩) 2 cap := hv
  subst hv2
  have hx0 := row_cell hZ.gm.go.row hR0
  have hxR : (x.r : Int) ∈ refsI [x, y] := by simp [refsI]
  have hyR : (y.r : Int) ∈ refsI [x, y] := by simp [refsI]
  have hxb := HO.out.bd _ hxR
  have hyb := HO.out.bd _ hyR
  have hne : (y.r : Int) ≠ (x.r : Int) := fun e => by
    have := HO.out.nd
    simp [refsI] at this
    omega
  have cB := hZ.gm.blacken (x.r : Int) hxR hxb.1 hxb.2
  rw [htm] at cB
  have HX := Lib.hid (And.intro hxb (And.intro hyb (And.intro hne (And.intro hzt htm))))
  have HZ := Lib.hid hZ
  clear hg hlc hcm hcs hcell hv hxR hyR hxb hyb hne hZ cS hB4 hGm hzt htm
  go_wp2_with fail
  refine cB.mono ?_
  rintro e w5 ⟨rfl, T5, hm5, hG5, hk5⟩
  obtain ⟨h5, _⟩ := HZ.out.went (hm5.trans HX.out.2.2.2.2.symm) hG5 hk5
  have cRs := h5.rescans
  rw [HX.out.2.2.2.1] at cRs
  have hx5 := row_cell h5.gm.go.row hR0
  have cSc := h5.gm.at_.scanned (x.r : Int)
  rw [hm5, show (Col.white.black (x.r : Int)).sc (x.r : Int) = true from updI_at _ _ _] at cSc
  have H5 := Lib.hid (And.intro h5 hm5)
  clear cB hm5 hG5 hk5 h5 hx0
  go_wp2_with fail
  refine cRs.mono ?_
  rintro e w' ⟨rfl, rfl⟩
  clear cRs
  go_wp2_with fail
  refine cSc.mono ?_
  rintro e w6 ⟨rfl, hB6⟩
  have h6 := H5.out.1.ask hB6
  have hD := h6.ask (Below.refl _ w6).drew
  have hxD := row_cell hD.gm.go.row hR0
  have hyD := row_cell hD.gm.go.row hR1
  have cP := hD.post (x.r : Int) 0 (y.r : Int) false false
  rw [HX.out.2.2.2.1] at cP
  have HD := Lib.hid hD
  clear cSc hB6 h6 hD hx5
  go_wp2_with fail
  go_region_held3 (fun W' => W'.cell? ⟨g, 0, none⟩ = some (.int .i64 (x.r : Int)) ∧ W'.cell? ⟨g, 1, none⟩ = some (.int .i64 (y.r : Int))) (first | exact hS7 | exact ⟨hxD, hyD⟩)
    (first
      | (go_at_call 16; refine cP.mono ?_; rintro e w7 ⟨rfl, Z7, hz7, h7, _⟩; have hS7 : w7.cell? ⟨g, 0, none⟩ = some (.int .i64 (x.r : Int)) ∧ w7.cell? ⟨g, 1, none⟩ = some (.int .i64 (y.r : Int)) := ⟨row_cell h7.gm.go.row hR0, row_cell h7.gm.go.row hR1⟩))
  all_goals
    have cR := h7.remark
    rw [hz7] at cR
    clear cP hxD hyD hS7
    go_wp2_with fail
    refine cR.mono ?_
    rintro e w8 ⟨rfl, T8, Z8, hm8, hz8, h8, _⟩
    have htm8 : T8.m = tm := hm8.trans H5.out.2
    have hx8 := row_cell h8.gm.go.row hR0
    have hs8 : ((Col.white.black (x.r : Int)).rem (dirtyS s.P (fun _ => false) (x.r : Int))).sc (x.r : Int) = false := by
      show (updI (fun _ => false) (x.r : Int) true (x.r : Int) && !remD _ (x.r : Int)) = false
      have hP := HO.out.P
      have hxb := HX.out.1
      unfold remD dirtyS
      rw [updI_at, if_pos (by omega), decide_eq_true hxb.1, Bool.true_and, Bool.true_and, Int.toNat_natCast]
      unfold pg
      simp
    have hma8 : ((Col.white.black (x.r : Int)).rem (dirtyS s.P (fun _ => false) (x.r : Int))).ma (x.r : Int) = true := updI_at _ _ _
    have hmy8 : ((Col.white.black (x.r : Int)).rem (dirtyS s.P (fun _ => false) (x.r : Int))).ma (y.r : Int) = false := by
      show updI (fun _ => false) (x.r : Int) true (y.r : Int) = false
      rw [updI_ne HX.out.2.2.1]
    have cQ1 := h8.gm.at_.scanned (x.r : Int)
    rw [htm8, hs8] at cQ1
    have H8 := Lib.hid (And.intro h8 (And.intro htm8 (And.intro hz8 (And.intro hma8 hmy8))))
    clear cR hm8 hz8 h8 htm8 hs8 hma8 hmy8 h7 hz7
    go_wp2_with fail
    refine cQ1.mono ?_
    rintro e w9 ⟨rfl, hB9⟩
    have h9 := H8.out.1.ask hB9
    have cQ2 := h9.gm.at_.marked (x.r : Int)
    rw [H8.out.2.1, H8.out.2.2.2.1] at cQ2
    have hx9 := row_cell h9.gm.go.row hR0
    have H9 := Lib.hid h9
    clear cQ1 hB9 h9 hx8
    go_wp2_with fail
    refine cQ2.mono ?_
    rintro e w10 ⟨rfl, hB10⟩
    have h10 := H9.out.ask hB10
    have cQ3 := h10.gm.at_.marked (y.r : Int)
    rw [H8.out.2.1, H8.out.2.2.2.2] at cQ3
    have hy10 := row_cell h10.gm.go.row hR1
    have H10 := Lib.hid h10
    clear cQ2 hB10 h10 hx9
    go_wp2_with fail
    refine cQ3.mono ?_
    rintro e w11 ⟨rfl, hB11⟩
    have h11 := H10.out.ask hB11
    have cQ4 := h11.dirty 0 card_none0
    rw [H8.out.2.2.1] at cQ4
    have H11 := Lib.hid h11
    clear cQ3 hB11 h11 hy10
    go_wp2_with fail
    refine cQ4.mono ?_
    rintro e w12 ⟨rfl, hB12⟩
    have h12 := H11.out.ask hB12
    have HF := Lib.hid (HT.out.2.trans (h12.gm.below.mono HT.out.2.size))
    clear cQ4 hB12 h12
    go_wp2_with fail
    go_ret
    exact ⟨rfl, HF.out⟩
end Go.Proofs.YtgfofilknejmnaaGreatDoor
