/- MarkBudgets, walked, over the marker's contracts; at this seat's numbers. -/
import Derived.Test.YtfcbpablponmeaaGreatDoorMrC
namespace Go.Proofs.YtfcbpablponmeaaGreatDoor
open Go Go.RowKit Go.Shelf Go.MuLone Go.RwLone
set_option linter.unusedSimpArgs false
set_option linter.unusedVariables false
attribute [local go_sem] Oper.semAt_some

structure BgA (B mb n tm tm2 : Nat) (X : ArB) (s : ArS) (obs : List Ob) (vl : Value) (f : Int → Value) (vr : Value) (roots : List Int) (wb : World) (i : Nat) (T : MkB) (c : Col) (T2 : MkB) (c2 : Col) (wr : World) : Prop where
  gm : Gm2 B mb n X s obs vl f (ptsAt obs) (fun k => vr.ownBlock = some k) T c T2 c2 wb wr
  tm : T.m = tm
  tm2 : T2.m = tm2
  row : RefRow wr vr roots
  tri : Tri (ptsAt obs) (roots.take i) c []
  tri2 : Tri (ptsAt obs) (roots.take i) c2 []
theorem filter_next {p : Int → Bool} {l : List Int} {i : Nat} {x : Int} (h : l[i]? = some x) : ((l.take (i + 1)).filter p).length = ((l.take i).filter p).length + (if p x = true then 1 else 0) := by
  rw [take_nextR h, List.filter_append, List.length_append]
  by_cases e : p x = true
  · rw [if_pos e]; simp [e]
  · rw [if_neg e]; simp [e]

set_option maxRecDepth 100000 in
set_option maxHeartbeats 16000000 in
theorem mbudgets_true (a0 : Option Addr) (zs : List Int) (cf : Nat) (e0 : Option Addr) (ne ce : Nat) (Q : Nat → Nat → Int) (a1 : Option Addr) (us : List Int) (cu : Nat) (nv : Nat) (hnv : nv < 256) (w : World) (_ : us.length ≤ 9223372036854775807)
    (hF : BytesW w a0 zs) (hE : EdgesW w e0 ne Q) (hU : BytesW w a1 us) (hT : Tabs w) :
    Calls Tryz.prog 5 #[.agg #[.slice a0 zs.length cf, .slice e0 ne ce], .slice a1 us.length cu, .int .u8 (nv : Int)] w fun e w' => e = .returned (.bool true) ∧ Below w.heap.size w w' := by
  have HA := Lib.hid (And.intro hF (And.intro hE hU))
  clear hF hE hU
  go_enter Tryz.func5, Tryz.ntmps5
  go_wp2_with fail
  have hG := Blk.new w #[.slice a0 zs.length cf, .slice e0 ne ce] 25
  have hB0 := (Below.refl w.heap.size w).alloc (Nat.le_refl _) (.cells #[.slice a0 zs.length cf, .slice e0 ne ce] 25)
  have hT0 := hT.below hB0
  generalize w.alloc (.cells #[.slice a0 zs.length cf, .slice e0 ne ce] 25) = W0 at *
  refine (mkfit_true W0 hT0.c hT0.b).mono ?_
  rintro e w1 ⟨rfl, hB1⟩
  have hG1 := hG.turn (Turn.ofBelow hB1) (fun e => Nat.lt_irrefl _ (Nat.lt_of_lt_of_le hG.lt e))
  have hB01 := hB0.trans (hB1.mono hB0.size)
  have g0 := hG1.cell 0
  have g1 := hG1.cell 1
  simp only [List.getElem?_toArray, List.getElem?_cons_zero, List.getElem?_cons_succ] at g0 g1
  obtain ⟨q, hq⟩ : ∃ q, (decide (zs.length ≤ 40) && decide (ne ≤ 120)) = q := ⟨_, rfl⟩
  have cS := small_any a0 zs.length cf e0 ne ce w1 q hq
  have HW1 := Lib.hid (And.intro hG1 (And.intro hB01 (hT.below hB01)))
  clear hB0 hB1 hG hT0 hG1 hT hB01
  go_wp2_with fail
  refine cS.mono ?_
  rintro e w2 ⟨rfl, hB2⟩
  have hB02 := HW1.out.2.1.trans (hB2.mono HW1.out.2.1.size)
  clear cS g0 g1
  by_cases hsm : zs.length ≤ 40 ∧ ne ≤ 120 ∧ us.length ≤ 20
  case neg =>
    cases q with
    | false =>
      clear hsm hq
      go_wp2_with fail
      go_ret
      exact ⟨rfl, hB02⟩
    | true =>
      have h20 : 20 < (us.length : Int) := by
        have h1 : zs.length ≤ 40 := by simpa using (Bool.and_eq_true_iff.1 hq).1
        have h2 : ne ≤ 120 := by simpa using (Bool.and_eq_true_iff.1 hq).2
        have : ¬ (us.length ≤ 20) := fun h3 => hsm ⟨h1, h2, h3⟩
        omega
      clear hsm hq
      go_wp2_with fail
      go_ret
      exact ⟨rfl, hB02⟩
  case pos =>
  obtain ⟨h40, h120, h20⟩ := hsm
  have hqt : q = true := by rw [← hq, decide_eq_true h40, decide_eq_true h120]; rfl
  subst hqt
  have h20I : ¬ (20 < (us.length : Int)) := by omega
  have hG2 := HW1.out.1.turn (Turn.ofBelow hB2) (fun e => Nat.lt_irrefl _ (Nat.lt_of_lt_of_le HW1.out.1.lt e))
  have hT2 := HW1.out.2.2.below hB2
  have cM := made_any a0 zs cf e0 ne ce Q w2 h40 h120 (HA.out.1.under hB02 (Nat.le_refl _)) (HA.out.2.1.under hB02 (Nat.le_refl _)) hT2.c
  have HTB := Lib.hid hT2.b
  have g0 := hG2.cell 0
  have g1 := hG2.cell 1
  simp only [List.getElem?_toArray, List.getElem?_cons_zero, List.getElem?_cons_succ] at g0 g1
  have HW2 := Lib.hid hB02
  have H40 := Lib.hid (And.intro h40 h20)
  clear hG2 hT2 hB02 hB2 HW1 hq h40 h120 h20
  go_wp2_with fail
  refine cM.mono ?_
  rintro e w3 hMP
  obtain ⟨X, s, obs, vl, mb, n, f, rfl, hMO⟩ := hMP.ok HTB.out
  have holI : (obs.length : Int) ≤ 40 := by have := hMO.len; have := H40.out.1; omega
  have cN := gm2_new (E := fun _ => False) hMO.go hMO.P 3 64 (fun _ h => h.elim) (by omega) (by omega) hMO.tab hMO.tab.lt
  have HO := Lib.hid hMO
  clear hMO hMP cM g0 g1
  go_wp2_with fail
  refine cN.mono ?_
  rintro e w4 ⟨T, rfl, cN2⟩
  obtain ⟨tm, htm⟩ : ∃ tm, T.m = tm := ⟨_, rfl⟩
  rw [htm]
  clear cN
  go_wp2_with fail
  refine cN2.mono ?_
  rintro e w4 ⟨T2, rfl, hGm⟩
  obtain ⟨tm2, htm2⟩ : ∃ tm2, T2.m = tm2 := ⟨_, rfl⟩
  rw [htm2]
  have hB04 := HW2.out.trans (hGm.a.below.mono HW2.out.size)
  have cSo := some_any vl (refsI obs) a1 us cu w4 hGm.a.go.row (by rw [refsI_length]; omega) (by have := H40.out.2; omega) (HA.out.2.2.under hB04 (Nat.le_refl _))
  have H4 := Lib.hid (And.intro hGm (And.intro htm htm2))
  clear hGm htm htm2 hB04 cN2
  go_wp2_with fail
  refine cSo.mono ?_
  rintro e w5 ⟨vr, rfl, hvr, hB5, hnew⟩
  obtain ⟨roots, hroots⟩ : ∃ roots, roots = someL (refsI obs) us := ⟨_, rfl⟩
  rw [← hroots] at hvr
  have hrin : ∀ x ∈ roots, x ∈ refsI obs := fun x hx => someL_mem (hroots ▸ hx)
  have hr20 : (roots.length : Int) ≤ 20 := by rw [hroots]; have := someL_length (refsI obs) us; have := H40.out.2; omega
  have hG5 : Gm2 w2.heap.size mb n X s obs vl f (ptsAt obs) (fun k => vr.ownBlock = some k) T Col.white T2 Col.white w2 w5 := H4.out.1.watch hB5 fun k e => .inr ⟨hnew k e, hvr.lt e⟩
  have hlr := hvr.lenRun 3
  have h5 : BgA w2.heap.size mb n tm tm2 X s obs vl f vr roots w2 0 T Col.white T2 Col.white w5 := ⟨hG5, H4.out.2.1, H4.out.2.2, hvr, good_white, good_white⟩
  have HRI := Lib.hid hrin
  clear cSo hvr hB5 hnew hroots hrin hG5 H4
  go_wp2_with fail
  clear hlr
  go_loopw [47] (fun v47 wr => ∃ (i : Nat) (T : MkB) (c : Col) (T2 : MkB) (c2 : Col), i ≤ roots.length ∧ v47 = .int .i64 (i : Int) ∧ BgA w2.heap.size mb n tm tm2 X s obs vl f vr roots w2 i T c T2 c2 wr) (fun v47 _ => roots.length - (intOf v47).toNat)
  case atStart => exact ⟨0, T, Col.white, T2, Col.white, Nat.zero_le _, rfl, h5⟩
  case round =>
  clear h5
  obtain ⟨i, T, c, T2, c2, hi, rfl, h1⟩ := hrel
  have hi0 : (0 : Int) ≤ (i : Int) := by omega
  by_cases hlt : i < roots.length
  · have hi1 : (i : Int) < (roots.length : Int) := by omega
    obtain ⟨x, hx⟩ : ∃ x, roots[i]? = some x := ⟨_, List.getElem?_eq_getElem hlt⟩
    rcases h1.row.is with ⟨_, e⟩ | ⟨g, cap, cur, hv, hg, hlc, hcm, hcs, hcell⟩
    · rw [e] at hlt; simp at hlt
    have hca := hcell i hlt
    rw [(List.getElem?_eq_some_iff.1 hx).2] at hca
    have hxin := HRI.out x (List.mem_of_getElem? hx)
    have hxb := HO.out.bd x hxin
    have cA := h1.gm.a.shade x hxin hxb.1 hxb.2
    rw [h1.tm] at cA
    have H := Lib.hid h1
    have HX := Lib.hid (And.intro hx (And.intro hxin hxb))
    subst hv
    clear h1 hx hg hlc hcm hcs hcell hxin hxb
    go_wp2_with fail
    refine cA.mono ?_
    rintro e w6 ⟨rfl, T', hm', hG6, hk6⟩
    obtain ⟨h6, hE6⟩ := H.out.gm.stepA hG6 hk6
    have cB := h6.b.shade x HX.out.2.1 HX.out.2.2.1 HX.out.2.2.2
    rw [H.out.tm2] at cB
    have H6 := Lib.hid (And.intro h6 (And.intro (H.out.row.keepG hE6) hm'))
    clear cA hm' hG6 hk6 h6 hE6
    go_wp2_with fail
    refine cB.mono ?_
    rintro e w7 ⟨rfl, T2', hm2', hG7, hk7⟩
    obtain ⟨h7, hE7⟩ := H6.out.1.symm.stepA hG7 hk7
    have hTa := H.out.tri.shade (x := x) (by have := HX.out.2.2.1; omega)
    have hTb := H.out.tri2.shade (x := x) (by have := HX.out.2.2.1; omega)
    rw [← take_nextR HX.out.1] at hTa hTb
    have h8 : BgA w2.heap.size mb n tm tm2 X s obs vl f (.slice (some ⟨g, 0, none⟩) roots.length cap) roots w2 (i + 1) T' (c.shade x) T2' (c2.shade x) w7 := ⟨h7.symm, H6.out.2.2, hm2', H6.out.2.1.keepG hE7, hTa, hTb⟩
    have H8 := Lib.hid h8
    clear cB hm2' hG7 hk7 h7 hE7 hTa hTb h8 hca
    go_wp2_with fail
    go_roundw
    case rel => exact ⟨i + 1, T', _, T2', _, hlt, by go_num, H8.out⟩
    case measure => simp [intOf]; omega
  · have hi1 : ¬ (i : Int) < (roots.length : Int) := by omega
    obtain rfl : i = roots.length := by omega
    obtain ⟨K, hK⟩ : ∃ K, K = nv % 9 := ⟨_, rfl⟩
    have hKt : (nv : Int).tmod 9 = (K : Int) := by rw [Int.tmod_eq_emod_of_nonneg (by omega)]; omega
    have hK9 : K < 9 := by omega
    have hKu : IntKind.u8.wrap (K : Int) = (K : Int) := by simp [IntKind.wrap, IntKind.bits, IntKind.signed]; omega
    have cT := h1.gm.a.trace HO.out.cl (K : Int)
    rw [h1.tm] at cT
    have hta := h1.tri
    have htb := h1.tri2
    rw [List.take_length] at hta htb
    have H := Lib.hid (And.intro h1 (And.intro hta htb))
    clear h1 hta htb hlt hi hK
    have hllA : ∀ W, (Builtin.len_ #[29] 3 #[vl]).run Tryz.prog W = .ok (.int .i64 (obs.length : Int)) W := fun W => by
      have := H.out.1.gm.a.go.row.lenRun 3 W
      rw [refsI_length] at this; exact this
    have HLL := Lib.hid hllA
    clear hllA
    go_wp2_with fail
    refine cT.mono ?_
    rintro e w6 ⟨k, T', c', l, rfl, hlk, hm', hG6, hk6, hsc, hkm, hkd⟩
    obtain ⟨h6, hE6⟩ := H.out.1.gm.stepA hG6 hk6
    have hTri := H.out.2.1.scans ptsAt_zero hsc
    rw [List.nil_append] at hTri
    have hle := hTri.le hG6.inn
    rw [hlk] at hle
    have hkK : k ≤ K := by omega
    have h6w : Gm2 w2.heap.size mb n X s obs vl f (ptsAt obs) (fun _ => False) T' c' T2 c2 w2 w6 := h6.watch (Below.refl _ _) fun k e => e.elim
    have hfo := filter_ord hTri HO.out.nd hG6.inn
    rw [hlk] at hfo
    have H6 := Lib.hid (And.intro hTri (And.intro hkd (And.intro hm' (And.intro H.out.1.tm2 (And.intro hfo H.out.2.2)))))
    have hll := HLL.out
    have hle40 : (k : Int) ≤ 40 := by omega
    have h7 : ∃ i : Nat, i ≤ obs.length ∧ (.int .i64 ((0 : Nat) : Int) : Value) = .int .i64 ((((refsI obs).take i).filter c'.sc).length : Int) ∧ (.int .i64 ((0 : Nat) : Int) : Value) = .int .i64 (i : Int) ∧ Gm2 w2.heap.size mb n X s obs vl f (ptsAt obs) (fun _ => False) T' c' T2 c2 w2 w6 := ⟨0, Nat.zero_le _, by simp, rfl, h6w⟩
    clear cT hlk hm' hG6 hk6 hsc hkm hkd h6 hE6 hTri hle h6w hfo H
    go_wp2_with fail
    clear hll
    go_loopw [16, 66] (fun v16 v66 wr => ∃ i : Nat, i ≤ obs.length ∧ v16 = .int .i64 ((((refsI obs).take i).filter c'.sc).length : Int) ∧ v66 = .int .i64 (i : Int) ∧ Gm2 w2.heap.size mb n X s obs vl f (ptsAt obs) (fun _ => False) T' c' T2 c2 w2 wr) (fun _ v66 _ => obs.length - (intOf v66).toNat)
    case atStart => exact h7
    case round =>
    clear h7
    obtain ⟨i2, hi2, rfl, rfl, hGm⟩ := hrel
    have hi20 : (0 : Int) ≤ (i2 : Int) := by omega
    by_cases hlt : i2 < obs.length
    · have hlt1 : (i2 : Int) < (obs.length : Int) := by omega
      obtain ⟨y, hy⟩ : ∃ y, obs[i2]? = some y := ⟨_, List.getElem?_eq_getElem hlt⟩
      rcases hGm.a.go.row.is with ⟨_, e⟩ | ⟨g, cap, cur, hv, hg, hlc, hcm, hcs, hcell⟩
      · have := congrArg List.length e; rw [refsI_length, List.length_nil] at this; omega
      rw [refsI_length] at hv
      have hca := hcell i2 (by rw [refsI_length]; exact hlt)
      rw [(List.getElem?_eq_some_iff.1 (refsI_at hy)).2] at hca
      have hyin : (y.r : Int) ∈ refsI obs := List.mem_map.2 ⟨y, List.mem_of_getElem? hy, rfl⟩
      have hyb := HO.out.bd _ hyin
      have hwf := wf_ref hyb.1 hyb.2
      have hfn := filter_next (p := c'.sc) (refsI_at hy)
      have hfl : (((refsI obs).take i2).filter c'.sc).length ≤ 40 := by
        have h1 := List.length_filter_le c'.sc ((refsI obs).take i2)
        rw [List.length_take] at h1
        omega
      obtain ⟨sn, hsn⟩ : ∃ sn, (((refsI obs).take i2).filter c'.sc).length = sn := ⟨_, rfl⟩
      rw [hsn] at hfn hfl ⊢
      have hsn40 : (sn : Int) ≤ 40 := by omega
      have hsn0 : (0 : Int) ≤ (sn : Int) := by omega
      have cSc := hGm.a.at_.scanned (y.r : Int)
      rw [H6.out.2.2.1] at cSc
      have H := Lib.hid (And.intro hGm (And.intro hfn hyin))
      have HWF := Lib.hid hwf
      subst hv
      clear hg hlc hcm hcs hcell hyin hyb hy hGm hfn hfl hsn hwf
      cases hb : c'.sc (y.r : Int)
      · rw [hb] at cSc
        have HB := Lib.hid hb
        clear hb
        go_wp2_with fail
        refine cSc.mono ?_
        rintro e w8 ⟨rfl, hB8⟩
        have H8 := Lib.hid (H.out.1.ask hB8)
        clear cSc hB8 hca
        go_wp2_with fail
        go_roundw
        case rel => exact ⟨i2 + 1, hlt, by rw [H.out.2.1, HB.out]; simp, by go_num, H8.out⟩
        case measure => simp [intOf]; omega
      · rw [hb] at cSc
        have HB := Lib.hid hb
        clear hb
        go_wp2_with fail
        refine cSc.mono ?_
        rintro e w8 ⟨rfl, hB8⟩
        have h8 := H.out.1.ask hB8
        have hlk8 := h8.a.go.grp.map.look (y.r : Int) HWF.out
        have hrow8 := h8.a.go.grp.row (y.r : Int)
        obtain ⟨vf, hvf⟩ : ∃ vf, f (y.r : Int) = vf := ⟨_, rfl⟩
        rw [hvf] at hlk8 hrow8
        have hlf := hrow8.lenRun 3
        obtain ⟨ps, hps⟩ : ∃ ps, ptsAt obs (y.r : Int) = ps := ⟨_, rfl⟩
        rw [hps] at hlf hrow8
        have hpm : ∀ z ∈ ps, c'.ma z = true := fun z hz => H6.out.1.clo (y.r : Int) HB.out z (hps ▸ hz)
        have hpl : (ps.length : Int) ≤ 6 := by have := HO.out.few (y.r : Int) H.out.2.2; rw [hps] at this; omega
        have h9 : ∃ j : Nat, j ≤ ps.length ∧ (.int .i64 ((0 : Nat) : Int) : Value) = .int .i64 (j : Int) ∧ Gm2 w2.heap.size mb n X s obs (.slice (some ⟨g, 0, none⟩) obs.length cap) f (ptsAt obs) (fun _ => False) T' c' T2 c2 w2 w8 := ⟨0, Nat.zero_le _, rfl, h8⟩
        have HP := Lib.hid (And.intro hpm (And.intro hvf hps))
        clear cSc hB8 hca h8 hrow8 hpm hvf hps
        go_wp2_with fail
        clear hlf hlk8
        go_loopw [80] (fun v80 wr => ∃ j : Nat, j ≤ ps.length ∧ v80 = .int .i64 (j : Int) ∧ Gm2 w2.heap.size mb n X s obs (.slice (some ⟨g, 0, none⟩) obs.length cap) f (ptsAt obs) (fun _ => False) T' c' T2 c2 w2 wr) (fun v80 _ => ps.length - (intOf v80).toNat)
        case atStart => exact h9
        case round =>
        clear h9
        obtain ⟨j, hj, rfl, hGm⟩ := hrel
        have hj0 : (0 : Int) ≤ (j : Int) := by omega
        by_cases hjl : j < ps.length
        · have hj1 : (j : Int) < (ps.length : Int) := by omega
          have hrow := hGm.a.go.grp.row (y.r : Int)
          rw [HP.out.2.1, HP.out.2.2] at hrow
          rcases hrow.is with ⟨_, e⟩ | ⟨g2, cap2, cur2, hv2, hg2, hlc2, hcm2, hcs2, hcell2⟩
          · rw [e] at hjl; simp at hjl
          have hcb := hcell2 j hjl
          have hz := HP.out.1 ps[j] (List.getElem_mem hjl)
          generalize ps[j] = z at *
          have cMa := hGm.a.at_.marked z
          rw [H6.out.2.2.1, hz] at cMa
          have HG := Lib.hid hGm
          have HPK := HP
          clear HP
          subst hv2
          clear hrow hg2 hlc2 hcm2 hcs2 hcell2 hz hGm
          go_wp2_with fail
          refine cMa.mono ?_
          rintro e w9 ⟨rfl, hB9⟩
          have H9 := Lib.hid (HG.out.ask hB9)
          clear cMa hB9 hcb
          go_wp2_with fail
          go_roundw
          case rel => exact ⟨j + 1, hjl, by go_num, H9.out⟩
          case measure => simp [intOf]; omega
        · have hj1 : ¬ (j : Int) < (ps.length : Int) := by omega
          have HG := Lib.hid hGm
          clear hGm hjl hj hj0
          go_wp2_with fail
          go_roundw
          case rel => exact ⟨i2 + 1, hlt, by rw [H.out.2.1, HB.out]; simp, by go_num, HG.out⟩
          case measure => simp [intOf]; omega
    · have hi1 : ¬ (i2 : Int) < (obs.length : Int) := by omega
      obtain rfl : i2 = obs.length := by omega
      have hsn : (((refsI obs).take obs.length).filter c'.sc).length = k := by rw [← refsI_length, List.take_length]; exact H6.out.2.2.2.2.1
      rw [hsn]
      have hkk : ((k : Int) != (k : Int)) = false := by simp
      have hkK2 : ¬ (K : Int) < (k : Int) := by omega
      clear hsn hlt hi2 hi20
      by_cases hkl : (k : Int) < (K : Int)
      · have hd := H6.out.2.1 hkl
        have cD := hGm.a.at_.drained true ⟨fun _ => hd, fun _ => rfl⟩
        rw [H6.out.2.2.1] at cD
        clear hd
        have H := Lib.hid hGm
        clear hGm
        go_wp2_with fail
        refine cD.mono ?_
        rintro e wz ⟨rfl, hBz⟩
        have hz := H.out.ask hBz
        have cT0 := hz.a.trace HO.out.cl 0
        rw [H6.out.2.2.1] at cT0
        have HZ := Lib.hid hz
        clear hz hBz cD
        go_wp2_with fail
        refine cT0.mono ?_
        rintro e wa ⟨ka, Ta, ca, la, rfl, hla, hma, hGa, hka, hsa, hkma, _⟩
        obtain rfl : ka = 0 := by omega
        have hla0 := List.length_eq_zero_iff.1 hla
        subst hla0
        obtain rfl : ca = c' := by cases hsa; rfl
        obtain ⟨ha2, _⟩ := HZ.out.stepA hGa hka
        have hma2 : Ta.m = tm := hma
        have cT5 := ha2.a.trace HO.out.cl (-5)
        rw [hma2] at cT5
        have HA2 := Lib.hid ha2
        clear cT0 hla hma hGa hka hsa hkma ha2 hma2
        go_wp2_with fail
        refine cT5.mono ?_
        rintro e wb ⟨kb, Tb, cb, lb, rfl, hlb, hmb, hGb, hkb, hsb, hkmb, _⟩
        obtain rfl : kb = 0 := by omega
        have hlb0 := List.length_eq_zero_iff.1 hlb
        subst hlb0
        obtain rfl : cb = ca := by cases hsb; rfl
        obtain ⟨hb2, _⟩ := HA2.out.stepA hGb hkb
        have hmb2 : Tb.m = tm := hmb
        have cT1 := hb2.a.trace HO.out.cl 100
        rw [hmb2] at cT1
        have HB2 := Lib.hid hb2
        clear cT5 hlb hmb hGb hkb hsb hkmb hb2 hmb2
        go_wp2_with fail
        refine cT1.mono ?_
        rintro e wc ⟨kc, Tc, cc, lc, rfl, hlc, hmc, hGc, hkc, hsc, _, hkdc⟩
        obtain ⟨hc2, _⟩ := HB2.out.stepA hGc hkc
        have hTc := H6.out.1.scans ptsAt_zero hsc
        have hlec := hTc.le hGc.inn
        rw [List.length_append, hlc] at hlec
        have hdc : cc.dry := hkdc (by omega)
        have cT2 := hc2.b.trace HO.out.cl 100
        rw [H6.out.2.2.2.1] at cT2
        have HC2 := Lib.hid (And.intro hc2 (And.intro hTc (And.intro hdc hmc)))
        clear cT1 hlc hmc hGc hkc hsc hkdc hc2 hTc hlec hdc
        go_wp2_with fail
        refine cT2.mono ?_
        rintro e wd ⟨kd, Td, cd, ld, rfl, hld, hmd, hGd, hkd, hsd, _, hkdd⟩
        obtain ⟨hd2, _⟩ := HC2.out.1.symm.stepA hGd hkd
        have hTd := H6.out.2.2.2.2.2.scans ptsAt_zero hsd
        rw [List.nil_append] at hTd
        have hled := hTd.le hGd.inn
        rw [hld] at hled
        have hdd : cd.dry := hkdd (by omega)
        have hsame : ∀ z, cc.ma z = cd.ma z := fun z => by
          have h1 := HC2.out.2.1.dry HC2.out.2.2.1 z
          have h2 := hTd.dry hdd z
          cases e1 : cc.ma z <;> cases e2 : cd.ma z
          · rfl
          · rw [h1.2 (h2.1 e2)] at e1; cases e1
          · rw [h2.2 (h1.1 e1)] at e2; cases e2
          · rfl
        have hll := HLL.out
        have h9 : ∃ i : Nat, i ≤ obs.length ∧ (.int .i64 ((0 : Nat) : Int) : Value) = .int .i64 (i : Int) ∧ Gm2 w2.heap.size mb n X s obs vl f (ptsAt obs) (fun _ => False) Tc cc Td cd w2 wd := ⟨0, Nat.zero_le _, rfl, hd2.symm⟩
        have HD2 := Lib.hid (And.intro hsame hmd)
        clear cT2 hld hmd hGd hkd hsd hkdd hd2 hTd hled hdd hsame
        go_wp2_with fail
        clear hll
        go_loopw [124] (fun v124 wr => ∃ i : Nat, i ≤ obs.length ∧ v124 = .int .i64 (i : Int) ∧ Gm2 w2.heap.size mb n X s obs vl f (ptsAt obs) (fun _ => False) Tc cc Td cd w2 wr) (fun v124 _ => obs.length - (intOf v124).toNat)
        case atStart => exact h9
        case round =>
        clear h9
        obtain ⟨i3, hi3, rfl, hGm⟩ := hrel
        have hi30 : (0 : Int) ≤ (i3 : Int) := by omega
        by_cases hlt : i3 < obs.length
        · have hlt1 : (i3 : Int) < (obs.length : Int) := by omega
          obtain ⟨y, hy⟩ : ∃ y, obs[i3]? = some y := ⟨_, List.getElem?_eq_getElem hlt⟩
          rcases hGm.a.go.row.is with ⟨_, e⟩ | ⟨g, cap, cur, hv, hg, hlc, hcm, hcs, hcell⟩
          · have := congrArg List.length e; rw [refsI_length, List.length_nil] at this; omega
          rw [refsI_length] at hv
          have hca := hcell i3 (by rw [refsI_length]; exact hlt)
          rw [(List.getElem?_eq_some_iff.1 (refsI_at hy)).2] at hca
          have cM1 := hGm.a.at_.marked (y.r : Int)
          rw [HC2.out.2.2.2] at cM1
          have HG := Lib.hid hGm
          subst hv
          clear hg hlc hcm hcs hcell hy hGm
          obtain ⟨bq, hbq⟩ : ∃ bq, cc.ma (y.r : Int) = bq := ⟨_, rfl⟩
          have hbd : cd.ma (y.r : Int) = bq := by rw [← HD2.out.1]; exact hbq
          have hqq : (bq != bq) = false := by cases bq <;> rfl
          rw [hbq] at cM1
          have HBD := Lib.hid hbd
          clear hbq hbd
          go_wp2_with fail
          refine cM1.mono ?_
          rintro e we ⟨rfl, hBe⟩
          have hGe := HG.out.ask hBe
          have cM2 := hGe.b.at_.marked (y.r : Int)
          rw [HD2.out.2, HBD.out] at cM2
          have HE := Lib.hid hGe
          clear cM1 hBe hGe hca
          go_wp2_with fail
          refine cM2.mono ?_
          rintro e wf ⟨rfl, hBf⟩
          have HF := Lib.hid (HE.out.ask hBf)
          clear cM2 hBf
          go_wp2_with fail
          go_roundw
          case rel => exact ⟨i3 + 1, hlt, by go_num, HF.out⟩
          case measure => simp [intOf]; omega
        · have hi1 : ¬ (i3 : Int) < (obs.length : Int) := by omega
          have cR := hGm.a.reset
          rw [HC2.out.2.2.2] at cR
          have HG := Lib.hid hGm
          clear hGm hlt hi3 hi30
          go_wp2_with fail
          refine cR.mono ?_
          rintro e we ⟨rfl, Te, hme, hGe, hke⟩
          have cC : Calls Tryz.prog 21 #[.pointer (some ⟨Te.m, 0, none⟩)] we fun e w' => e = .returned (.int .i64 0) ∧ Below we.heap.size we w' := hGe.at_.count [] List.nodup_nil fun z => ⟨fun h => (by cases h), fun h => (by cases h)⟩
          have hme2 : Te.m = tm := hme
          rw [hme2] at cC
          have HE := Lib.hid (And.intro hGe hme2)
          clear cR hme hGe hke hme2
          go_wp2_with fail
          refine cC.mono ?_
          rintro e wf ⟨rfl, hBf⟩
          have hGf := HE.out.1.ask hBf
          have cD := hGf.at_.drained true ⟨fun _ => Col.white_dry, fun _ => rfl⟩
          rw [HE.out.2] at cD
          have HF := Lib.hid hGf
          clear cC hBf hGf
          go_wp2_with fail
          refine cD.mono ?_
          rintro e wg ⟨rfl, hBg⟩
          have hGg := HF.out.ask hBg
          have cT9 := hGg.trace HO.out.cl 9
          rw [HE.out.2] at cT9
          clear cD hBg hGg
          go_wp2_with fail
          refine cT9.mono ?_
          rintro e wh ⟨kh, Th, ch, lh, rfl, hlh, _, hGh, _, hsh, _, _⟩
          have hl0 := (hsh.dryNil Col.white_dry).1
          subst hl0
          obtain rfl : kh = 0 := hlh.symm
          have hfin := HW2.out.trans (hGh.below.mono HW2.out.size)
          clear cT9 hGh hsh hlh
          go_wp2_with fail
          go_ret
          exact ⟨rfl, hfin⟩
      · 
        have H := Lib.hid hGm
        have cT0 := hGm.a.trace HO.out.cl 0
        rw [H6.out.2.2.1] at cT0
        clear hGm
        go_wp2_with fail
        refine cT0.mono ?_
        rintro e wa ⟨ka, Ta, ca, la, rfl, hla, hma, hGa, hka, hsa, hkma, _⟩
        obtain rfl : ka = 0 := by omega
        have hla0 := List.length_eq_zero_iff.1 hla
        subst hla0
        obtain rfl : ca = c' := by cases hsa; rfl
        obtain ⟨ha2, _⟩ := H.out.stepA hGa hka
        have hma2 : Ta.m = tm := hma
        have cT5 := ha2.a.trace HO.out.cl (-5)
        rw [hma2] at cT5
        have HA2 := Lib.hid ha2
        clear cT0 hla hma hGa hka hsa hkma ha2 hma2
        go_wp2_with fail
        refine cT5.mono ?_
        rintro e wb ⟨kb, Tb, cb, lb, rfl, hlb, hmb, hGb, hkb, hsb, hkmb, _⟩
        obtain rfl : kb = 0 := by omega
        have hlb0 := List.length_eq_zero_iff.1 hlb
        subst hlb0
        obtain rfl : cb = ca := by cases hsb; rfl
        obtain ⟨hb2, _⟩ := HA2.out.stepA hGb hkb
        have hmb2 : Tb.m = tm := hmb
        have cT1 := hb2.a.trace HO.out.cl 100
        rw [hmb2] at cT1
        have HB2 := Lib.hid hb2
        clear cT5 hlb hmb hGb hkb hsb hkmb hb2 hmb2
        go_wp2_with fail
        refine cT1.mono ?_
        rintro e wc ⟨kc, Tc, cc, lc, rfl, hlc, hmc, hGc, hkc, hsc, _, hkdc⟩
        obtain ⟨hc2, _⟩ := HB2.out.stepA hGc hkc
        have hTc := H6.out.1.scans ptsAt_zero hsc
        have hlec := hTc.le hGc.inn
        rw [List.length_append, hlc] at hlec
        have hdc : cc.dry := hkdc (by omega)
        have cT2 := hc2.b.trace HO.out.cl 100
        rw [H6.out.2.2.2.1] at cT2
        have HC2 := Lib.hid (And.intro hc2 (And.intro hTc (And.intro hdc hmc)))
        clear cT1 hlc hmc hGc hkc hsc hkdc hc2 hTc hlec hdc
        go_wp2_with fail
        refine cT2.mono ?_
        rintro e wd ⟨kd, Td, cd, ld, rfl, hld, hmd, hGd, hkd, hsd, _, hkdd⟩
        obtain ⟨hd2, _⟩ := HC2.out.1.symm.stepA hGd hkd
        have hTd := H6.out.2.2.2.2.2.scans ptsAt_zero hsd
        rw [List.nil_append] at hTd
        have hled := hTd.le hGd.inn
        rw [hld] at hled
        have hdd : cd.dry := hkdd (by omega)
        have hsame : ∀ z, cc.ma z = cd.ma z := fun z => by
          have h1 := HC2.out.2.1.dry HC2.out.2.2.1 z
          have h2 := hTd.dry hdd z
          cases e1 : cc.ma z <;> cases e2 : cd.ma z
          · rfl
          · rw [h1.2 (h2.1 e2)] at e1; cases e1
          · rw [h2.2 (h1.1 e1)] at e2; cases e2
          · rfl
        have hll := HLL.out
        have h9 : ∃ i : Nat, i ≤ obs.length ∧ (.int .i64 ((0 : Nat) : Int) : Value) = .int .i64 (i : Int) ∧ Gm2 w2.heap.size mb n X s obs vl f (ptsAt obs) (fun _ => False) Tc cc Td cd w2 wd := ⟨0, Nat.zero_le _, rfl, hd2.symm⟩
        have HD2 := Lib.hid (And.intro hsame hmd)
        clear cT2 hld hmd hGd hkd hsd hkdd hd2 hTd hled hdd hsame
        go_wp2_with fail
        clear hll
        go_loopw [124] (fun v124 wr => ∃ i : Nat, i ≤ obs.length ∧ v124 = .int .i64 (i : Int) ∧ Gm2 w2.heap.size mb n X s obs vl f (ptsAt obs) (fun _ => False) Tc cc Td cd w2 wr) (fun v124 _ => obs.length - (intOf v124).toNat)
        case atStart => exact h9
        case round =>
        clear h9
        obtain ⟨i3, hi3, rfl, hGm⟩ := hrel
        have hi30 : (0 : Int) ≤ (i3 : Int) := by omega
        by_cases hlt : i3 < obs.length
        · have hlt1 : (i3 : Int) < (obs.length : Int) := by omega
          obtain ⟨y, hy⟩ : ∃ y, obs[i3]? = some y := ⟨_, List.getElem?_eq_getElem hlt⟩
          rcases hGm.a.go.row.is with ⟨_, e⟩ | ⟨g, cap, cur, hv, hg, hlc, hcm, hcs, hcell⟩
          · have := congrArg List.length e; rw [refsI_length, List.length_nil] at this; omega
          rw [refsI_length] at hv
          have hca := hcell i3 (by rw [refsI_length]; exact hlt)
          rw [(List.getElem?_eq_some_iff.1 (refsI_at hy)).2] at hca
          have cM1 := hGm.a.at_.marked (y.r : Int)
          rw [HC2.out.2.2.2] at cM1
          have HG := Lib.hid hGm
          subst hv
          clear hg hlc hcm hcs hcell hy hGm
          obtain ⟨bq, hbq⟩ : ∃ bq, cc.ma (y.r : Int) = bq := ⟨_, rfl⟩
          have hbd : cd.ma (y.r : Int) = bq := by rw [← HD2.out.1]; exact hbq
          have hqq : (bq != bq) = false := by cases bq <;> rfl
          rw [hbq] at cM1
          have HBD := Lib.hid hbd
          clear hbq hbd
          go_wp2_with fail
          refine cM1.mono ?_
          rintro e we ⟨rfl, hBe⟩
          have hGe := HG.out.ask hBe
          have cM2 := hGe.b.at_.marked (y.r : Int)
          rw [HD2.out.2, HBD.out] at cM2
          have HE := Lib.hid hGe
          clear cM1 hBe hGe hca
          go_wp2_with fail
          refine cM2.mono ?_
          rintro e wf ⟨rfl, hBf⟩
          have HF := Lib.hid (HE.out.ask hBf)
          clear cM2 hBf
          go_wp2_with fail
          go_roundw
          case rel => exact ⟨i3 + 1, hlt, by go_num, HF.out⟩
          case measure => simp [intOf]; omega
        · have hi1 : ¬ (i3 : Int) < (obs.length : Int) := by omega
          have cR := hGm.a.reset
          rw [HC2.out.2.2.2] at cR
          have HG := Lib.hid hGm
          clear hGm hlt hi3 hi30
          go_wp2_with fail
          refine cR.mono ?_
          rintro e we ⟨rfl, Te, hme, hGe, hke⟩
          have cC : Calls Tryz.prog 21 #[.pointer (some ⟨Te.m, 0, none⟩)] we fun e w' => e = .returned (.int .i64 0) ∧ Below we.heap.size we w' := hGe.at_.count [] List.nodup_nil fun z => ⟨fun h => (by cases h), fun h => (by cases h)⟩
          have hme2 : Te.m = tm := hme
          rw [hme2] at cC
          have HE := Lib.hid (And.intro hGe hme2)
          clear cR hme hGe hke hme2
          go_wp2_with fail
          refine cC.mono ?_
          rintro e wf ⟨rfl, hBf⟩
          have hGf := HE.out.1.ask hBf
          have cD := hGf.at_.drained true ⟨fun _ => Col.white_dry, fun _ => rfl⟩
          rw [HE.out.2] at cD
          have HF := Lib.hid hGf
          clear cC hBf hGf
          go_wp2_with fail
          refine cD.mono ?_
          rintro e wg ⟨rfl, hBg⟩
          have hGg := HF.out.ask hBg
          have cT9 := hGg.trace HO.out.cl 9
          rw [HE.out.2] at cT9
          clear cD hBg hGg
          go_wp2_with fail
          refine cT9.mono ?_
          rintro e wh ⟨kh, Th, ch, lh, rfl, hlh, _, hGh, _, hsh, _, _⟩
          have hl0 := (hsh.dryNil Col.white_dry).1
          subst hl0
          obtain rfl : kh = 0 := hlh.symm
          have hfin := HW2.out.trans (hGh.below.mono HW2.out.size)
          clear cT9 hGh hsh hlh
          go_wp2_with fail
          go_ret
          exact ⟨rfl, hfin⟩
theorem mbudgets_frame (a0 : Option Addr) (zs : List Int) (cf : Nat) (e0 : Option Addr) (ne ce : Nat) (Q : Nat → Nat → Int) (a1 : Option Addr) (us : List Int) (cu : Nat) (nv : Int) (hn : (Lit.int .u8 nv).wf = true) (w : World) (hl : us.length ≤ 9223372036854775807)
    (hF : BytesW w a0 zs) (hE : EdgesW w e0 ne Q) (hU : BytesW w a1 us) (hTb : TabAt w) (hT : TableAt w) :
    Calls Tryz.prog 5 #[.agg #[.slice a0 zs.length cf, .slice e0 ne ce], .slice a1 us.length cu, .int .u8 nv] w fun e w' => e = .returned (.bool true) ∧ Below w.heap.size w w' := by
  obtain ⟨m, rfl, hm⟩ := u8_natW hn
  exact mbudgets_true a0 zs cf e0 ne ce Q a1 us cu m hm w hl hF hE hU ⟨hT, hTb⟩
end Go.Proofs.YtfcbpablponmeaaGreatDoor
