/- YuasaSnapshot, walked, over the barrier's contracts; at this seat's numbers. -/
import Derived.Test.YtihjijfeogapdaaGreatDoorYuF
import Derived.Test.YtihjijfeogapdaaGreatDoorYuM
import Derived.Test.YtihjijfeogapdaaGreatDoorMrC
import Derived.Test.YtihjijfeogapdaaGreatDoorGoT
import Derived.Test.YtihjijfeogapdaaGreatDoorArgsF
import Derived.Deep.RegionHeld3
namespace Go.Proofs.YtihjijfeogapdaaGreatDoor
open Go Go.RowKit Go.Shelf Go.MuLone Go.RwLone
set_option linter.unusedSimpArgs false
set_option linter.unusedVariables false
attribute [local go_sem] Oper.semAt_some

set_option maxRecDepth 100000 in
set_option maxHeartbeats 16000000 in
theorem ysnap_true (a0 : Option Addr) (zs : List Int) (cf : Nat) (e0 : Option Addr) (ne ce : Nat) (Q : Nat → Nat → Int) (a2 : Option Addr) (us : List Int) (cu : Nat) (a1 : Option Addr) (n1 c1 : Nat) (Q1 : Nat → Nat → Int) (w : World)
    (hF : BytesW w a0 zs) (hE : EdgesW w e0 ne Q) (hU : BytesW w a2 us) (hP : FoursW w a1 n1 Q1) (hT : Tabs w) :
    Calls Tryz.prog 4 #[.agg #[.slice a0 zs.length cf, .slice e0 ne ce], .slice a2 us.length cu, .slice a1 n1 c1] w fun e w' => e = .returned (.bool true) ∧ Below w.heap.size w w' := by
  have HA := Lib.hid (And.intro hF (And.intro hE (And.intro hU hP)))
  clear hF hE hU hP
  go_enter Tryz.func4, Tryz.ntmps4
  go_wp2_with fail
  have hG := Blk.new w #[.slice a0 zs.length cf, .slice e0 ne ce] 25
  have hB0 := (Below.refl w.heap.size w).alloc (Nat.le_refl _) (.cells #[.slice a0 zs.length cf, .slice e0 ne ce] 25)
  have hT0 := hT.below hB0
  generalize w.alloc (.cells #[.slice a0 zs.length cf, .slice e0 ne ce] 25) = W0 at *
  refine (yufit_true W0 hT0).mono ?_
  rintro e w1 ⟨rfl, hB1⟩
  have hG1 := hG.turn (Turn.ofBelow hB1) (fun e => Nat.lt_irrefl _ (Nat.lt_of_lt_of_le hG.lt e))
  have hB01 := hB0.trans (hB1.mono hB0.size)
  have g0 := hG1.cell 0
  have g1 := hG1.cell 1
  simp only [List.getElem?_toArray, List.getElem?_cons_zero, List.getElem?_cons_succ] at g0 g1
  obtain ⟨q, hq⟩ : ∃ q, (decide (zs.length ≤ 40) && decide (ne ≤ 120)) = q := ⟨_, rfl⟩
  have cS := small_any a0 zs.length cf e0 ne ce w1 q hq
  have HW1 := Lib.hid (And.intro hG1 (And.intro hB01 (hT.below hB01)))
  clear hB0 hB1 hG hT0 hG1 hT hB01
  go_wp2_with fail
  refine cS.mono ?_
  rintro e w2 ⟨rfl, hB2⟩
  have hB02 := HW1.out.2.1.trans (hB2.mono HW1.out.2.1.size)
  clear cS g0 g1
  by_cases hsm : zs.length ≤ 40 ∧ ne ≤ 120 ∧ n1 ≤ 60 ∧ us.length ≤ 10
  case neg =>
    cases q with
    | false =>
      clear hsm hq
      go_wp2_with fail
      go_ret
      exact ⟨rfl, hB02⟩
    | true =>
      have h1 : zs.length ≤ 40 := by simpa using (Bool.and_eq_true_iff.1 hq).1
      have h2 : ne ≤ 120 := by simpa using (Bool.and_eq_true_iff.1 hq).2
      by_cases h60 : n1 ≤ 60
      · have h60I : ¬ 60 < (n1 : Int) := by omega
        have h10 : 10 < (us.length : Int) := by
          have : ¬ us.length ≤ 10 := fun h3 => hsm ⟨h1, h2, h60, h3⟩
          omega
        clear hsm hq h1 h2 h60
        go_wp2_with fail
        go_ret
        exact ⟨rfl, hB02⟩
      · have h60I : 60 < (n1 : Int) := by omega
        clear hsm hq h1 h2 h60
        go_wp2_with fail
        go_ret
        exact ⟨rfl, hB02⟩
  case pos =>
  obtain ⟨h40, h120, hn40, h10⟩ := hsm
  have hqt : q = true := by rw [← hq, decide_eq_true h40, decide_eq_true h120]; rfl
  subst hqt
  have hn40I : ¬ 60 < (n1 : Int) := by omega
  have h10I : ¬ 10 < (us.length : Int) := by omega
  have hG2 := HW1.out.1.turn (Turn.ofBelow hB2) (fun e => Nat.lt_irrefl _ (Nat.lt_of_lt_of_le HW1.out.1.lt e))
  have hT2 := HW1.out.2.2.below hB2
  have cM := made_any a0 zs cf e0 ne ce Q w2 h40 h120 (HA.out.1.under hB02 (Nat.le_refl _)) (HA.out.2.1.under hB02 (Nat.le_refl _)) hT2.c
  have HTB := Lib.hid hT2.b
  have g0 := hG2.cell 0
  have g1 := hG2.cell 1
  simp only [List.getElem?_toArray, List.getElem?_cons_zero, List.getElem?_cons_succ] at g0 g1
  have HW2 := Lib.hid hB02
  have H40 := Lib.hid (And.intro h40 (And.intro hn40 h10))
  clear hG2 hT2 hB02 hB2 HW1 hq h40 h120 hn40 h10
  go_wp2_with fail
  refine cM.mono ?_
  rintro e w3 hMP
  obtain ⟨X, s, obs, vl, mb, n, f, rfl, hMO⟩ := hMP.ok HTB.out
  obtain ⟨L, hL⟩ : ∃ L, L = obs.length := ⟨_, rfl⟩
  have hLI : (L : Int) ≤ 40 := by have := hMO.len; have := H40.out.1; omega
  have cN := gm_new (E := fun _ => False) hMO.go hMO.P 3 (fun _ h => h.elim) (by omega) hMO.tab hMO.tab.lt
  have HO := Lib.hid hMO
  have HL := Lib.hid hL
  have hl6 := hMO.go.row.lenRun 3
  rw [refsI_length, ← hL] at hl6
  by_cases hn0 : L = 0
  · have hLz : ((L : Int) == 0) = true := by simp; omega
    have HF := Lib.hid (HW2.out.trans (hMO.go.ar.below.mono HW2.out.size))
    clear hMO hMP cM cN g0 g1 hL hn0
    go_wp2_with fail
    go_ret
    exact ⟨rfl, HF.out⟩
  have hLz : ((L : Int) == 0) = false := by simp; omega
  have hL0 : 0 < L := by omega
  obtain ⟨xa, hxa⟩ : ∃ xa, X.a = xa := ⟨_, rfl⟩
  rw [hxa] at cN ⊢
  have HXA := Lib.hid hxa
  clear hMO hMP cM g0 g1 hL hn0 hxa
  go_wp2_with fail
  refine cN.mono ?_
  rintro e w4 ⟨T, rfl, hGm, hB4⟩
  obtain ⟨tm, htm⟩ : ∃ tm, T.m = tm := ⟨_, rfl⟩
  rw [htm]
  have h5 := BrIn.made (t := yuK) hGm htm
  have cD := yu_new tm w4
  have hnew : ¬ X.has w4.heap.size := fun e => by have := hGm.go.lt _ (.inl e); omega
  have H5 := Lib.hid (And.intro h5 hnew)
  clear cN hB4 h5 hGm htm hnew
  go_wp2_with fail
  refine cD.mono ?_
  rintro e w' ⟨rfl, rfl⟩
  obtain ⟨h5, hnew⟩ := H5.out
  clear cD H5
  generalize w4.alloc (.cells (BrCells yuK tm) yuK.t) = w5 at *
  generalize w4.heap.size = bt at *
  obtain ⟨R, hR⟩ : ∃ R, refsI obs = R := ⟨_, rfl⟩
  have hRL : R.length = L := by rw [← hR, refsI_length, ← HL.out]
  rcases h5.gm.go.row.is with ⟨_, e⟩ | ⟨g, cap, cur, hv, hg, hlc, hcm, hcs, hcell⟩
  · have := congrArg List.length e; rw [refsI_length, ← HL.out] at this; simp at this; omega
  rw [refsI_length, ← HL.out] at hv
  subst hv
  have hRow : RefRow w5 (.slice (some ⟨g, 0, none⟩) L cap) R := by rw [← hR]; exact h5.gm.go.row
  have h0r : RefRow w5 (.slice none 0 0) (someL R (us.take 0)) := by
    have e : someL R (us.take 0) = [] := by unfold someL; split <;> simp
    rw [e]; exact World.ownsRow_nil _ _ _ _
  have hxa := HXA.out
  have HR := Lib.hid (And.intro hR (And.intro hRL (And.intro (hR ▸ HO.out.bd) (And.intro (hR ▸ HO.out.nd) (And.intro hxa hRow)))))
  have H5 := Lib.hid (And.intro h5 hnew)
  have hw5 := h5.gm.size
  clear hg hlc hcm hcs hcell h5 hnew hR hRL hxa hRow
  go_wp2_with fail
  go_loopw [12, 58] (fun v12 v58 wr => ∃ vr, vr = v12 ∧ SomeA w5.heap.size R us w5 vr v58 wr) (fun _ v58 _ => us.length - (intOf v58).toNat)
  case atStart => exact ⟨_, rfl, 0, Nat.zero_le _, rfl, h0r, Below.refl _ _, fun k e => by cases e⟩
  case round =>
  clear h0r
  obtain ⟨vr, rfl, i, hi, rfl, hRr, hB, hN⟩ := hrel
  have hi0 : (0 : Int) ≤ (i : Int) := by omega
  by_cases hlt : i < us.length
  · have hi1 : (i : Int) < (us.length : Int) := by omega
    have hB05 := HW2.out.trans (H5.out.1.gm.below.mono HW2.out.size)
    obtain ⟨bk, off, rfl, hbk, hq0, hwf⟩ := HA.out.2.2.1 i hlt
    have hc0 := ((hB05.trans (hB.mono hB05.size)).cell (p := ⟨bk, off + i, none⟩) hbk).trans hq0
    obtain ⟨z, hz9, hz256⟩ := u8_natW hwf
    rw [hz9] at hc0
    have hnz : ¬ (L : Int) = 0 := by omega
    obtain ⟨m, hm⟩ : ∃ m, m = z % L := ⟨_, rfl⟩
    have hmt : (z : Int).tmod (L : Int) = (m : Int) := by rw [Int.tmod_eq_emod_of_nonneg (by omega), hm]; omega
    have hml : m < L := by rw [hm]; exact Nat.mod_lt _ hL0
    have hmI : (m : Int) < (L : Int) := by omega
    have hm0 : (0 : Int) ≤ (m : Int) := by omega
    have hwz : IntKind.i64.wrap (z : Int) = (z : Int) := by simp [IntKind.wrap, IntKind.bits, IntKind.signed]; omega
    have e1 := someL_next (L := R) hlt (by rw [HR.out.2.1]; omega)
    rw [hz9, Int.toNat_natCast, HR.out.2.1, ← hm] at e1
    obtain ⟨r, hr⟩ : ∃ r, R[m]? = some r := ⟨_, List.getElem?_eq_getElem (by rw [HR.out.2.1]; exact hml)⟩
    have e2 : R.getD m 0 = r := by rw [List.getD_eq_getElem?_getD, hr]; rfl
    rw [e2] at e1
    have hRow := HR.out.2.2.2.2.2
    have hcm9 := row_cellB (hRow.turn (Turn.ofBelow hB) (fun k e e2 => Nat.lt_irrefl _ (Nat.lt_of_lt_of_le (hRow.lt e) e2))) hr
    have hb1 := (Below.refl wr.heap.size wr).alloc (Nat.le_refl _) (.cells #[.int .i64 r] 39)
    have hRa := hRr.turn (Turn.ofBelow hb1) (fun k e e2 => Nat.lt_irrefl _ (Nat.lt_of_lt_of_le (hRr.lt e) e2))
    have hls : (someL R (us.take i)).length ≤ 100000 := by have := someL_length R (us.take i); rw [List.length_take] at this; have := H40.out.2.2; omega
    have H := Lib.hid (And.intro e1 (And.intro hB hN))
    clear hm e1 e2 hq0 hwf hz9 hN hRr hB hb1 hRow hr hB05 hbk
    go_wp2_with (at_builtin; refine wpList_pushT rfl _ _ rfl hRa hls wr.heap.size 1 r ((Blk.new wr _ _).cell 0) rfl rfl ?_; intro g6 n6 c6 w6 hR6 hT6 hN6; have H6 := Lib.hid (And.intro hR6 (And.intro hT6 hN6)); clear hR6 hT6 hN6 hRa)
    go_roundw
    case rel =>
      obtain ⟨e1, hB, hN⟩ := H.out
      obtain ⟨hR6, hT6, hN6⟩ := H6.out
      refine ⟨_, rfl, i + 1, hlt, by go_num, by rw [e1]; exact hR6, ?_, fun k e => ?_⟩
      · exact (hB.alloc hB.size _).trans ((hT6.below _ (by simp; have := hB.size; omega) (fun k hk e => by have := hN k e; omega)))
      · have e2 := own_slice e
        subst e2
        rcases hN6 with e3 | e3
        · exact hN _ e3
        · simp at e3; have := hB.size; omega
    case measure => simp [intOf]; omega
  · have hi1 : ¬ (i : Int) < (us.length : Int) := by omega
    obtain rfl : i = us.length := by omega
    rw [List.take_length] at hRr
    obtain ⟨roots, hroots⟩ : ∃ roots, someL R us = roots := ⟨_, rfl⟩
    rw [hroots] at hRr
    have hrin : ∀ x ∈ roots, x ∈ R := fun x hx => someL_mem (hroots ▸ hx)
    have hrl : roots.length ≤ 10 := by rw [← hroots]; have := someL_length R us; have := H40.out.2.2; omega
    have h6 := H5.out.1.ask hB
    have h6f : BrIn yuK w2.heap.size mb n X s obs (.slice (some ⟨g, 0, none⟩) L cap) f (ptsAt obs) (fun k => (fun _ => False) k ∨ vr.ownBlock = some k) T Col.white bt tm w2 wr := H5.out.1.watch hB fun k e => by
      rcases e with e | e
      · exact e.elim
      · exact .inr ⟨hN k e, hRr.lt e⟩
    have hrest : restI (ptsAt obs) [] R ≤ 6 * R.length := restI_nil_le _ 6 _ (HR.out.1 ▸ HO.out.few)
    have cRe := reach_any vr roots R mb n f (ptsAt obs) wr hRr h6.gm.go.grp HR.out.2.2.2.1 HR.out.2.2.1 (by rw [HR.out.2.1]; omega) (fun x hx => .inr (hrin x hx)) (HR.out.1 ▸ HO.out.pin) (by rw [HR.out.2.1] at hrest; omega) (fun x hx => by have := HO.out.few x (HR.out.1 ▸ hx); omega)
    have hlr := hRr.lenRun 3
    have H6 := Lib.hid (And.intro h6f (And.intro hRr (And.intro hrin (And.intro hrl hN))))
    clear hrest h6 h6f hRr hrin hroots hB hi hlt hi0 hN
    go_wp2_with fail
    refine cRe.mono ?_
    rintro e w6 ⟨rb, vis, rfl, hMap, hrb, hB6, hvn, hvin, hvis⟩
    have h7 : BrIn yuK w2.heap.size mb n X s obs (.slice (some ⟨g, 0, none⟩) L cap) f (ptsAt obs) (fun k => k = rb ∨ vr.ownBlock = some k) T Col.white bt tm w2 w6 := H6.out.1.watch hB6 fun k e => by
      rcases e with e | e
      · exact .inr ⟨by omega, by have := hMap.lt; omega⟩
      · exact .inl (.inr e)
    have hrow7 := H6.out.2.1.turn (Turn.ofBelow hB6) (fun k e e2 => Nat.lt_irrefl _ (Nat.lt_of_lt_of_le (H6.out.2.1.lt e) e2))
    have hrbX : ¬ X.has rb := fun e => by have := H6.out.1.gm.go.lt _ (.inl e); omega
    have HV := Lib.hid (And.intro hvis hrbX)
    have h7a := And.intro h7 (And.intro hMap hrow7)
    clear cRe h7 hMap hrow7 hvn hvin hvis hB6 hrb hrbX
    go_wp2_with fail
    clear hlr
    go_loopw [79] (fun v79 wr => ∃ (i : Nat) (T : MkB) (c : Col), i ≤ roots.length ∧ v79 = .int .i64 (i : Int) ∧ BrIn yuK w2.heap.size mb n X s obs (.slice (some ⟨g, 0, none⟩) L cap) f (ptsAt obs) (fun k => k = rb ∨ vr.ownBlock = some k) T c bt tm w2 wr ∧ MapIn wr rb vis.length (visF vis) (visK vis) vis.length ∧ RefRow wr vr roots ∧ (∀ x ∈ roots.take i, c.ma x = true) ∧ ∀ x, c.sc x = false) (fun v79 _ => roots.length - (intOf v79).toNat)
    case atStart => exact ⟨0, T, Col.white, Nat.zero_le _, rfl, h7a.1, h7a.2.1, h7a.2.2, fun x hx => by simp at hx, fun _ => rfl⟩
    case round =>
    clear h7a
    obtain ⟨i, T1, c, hi, rfl, h1, hMp, hrw, hma, hsc⟩ := hrel
    have hi0 : (0 : Int) ≤ (i : Int) := by omega
    by_cases hlt : i < roots.length
    · have hi1 : (i : Int) < (roots.length : Int) := by omega
      obtain ⟨x, hx⟩ : ∃ x, roots[i]? = some x := ⟨_, List.getElem?_eq_getElem hlt⟩
      have hxR : x ∈ refsI obs := by rw [HR.out.1]; exact H6.out.2.2.1 x (List.mem_of_getElem? hx)
      have hxb := HO.out.bd x hxR
      rcases hrw.is with ⟨_, e⟩ | ⟨g2, cap2, cur2, hv2, hg2, hlc2, hcm2, hcs2, hcell2⟩
      · rw [e] at hlt; simp at hlt
      have hca := hcell2 i hlt
      rw [(List.getElem?_eq_some_iff.1 hx).2] at hca
      have cS := h1.gm.shade x hxR hxb.1 hxb.2
      rw [h1.tm] at cS
      have H1 := Lib.hid (And.intro h1 (And.intro hMp (And.intro hrw (And.intro hma (And.intro hsc hx)))))
      clear h1 hMp hrw hma hsc hx hg2 hlc2 hcm2 hcs2 hcell2 hxR hxb
      subst hv2
      go_wp2_with fail
      refine cS.mono ?_
      rintro e w7 ⟨rfl, T', hm', hG', hk'⟩
      have H7 := Lib.hid (And.intro (H1.out.1.went (hm'.trans H1.out.1.tm.symm) hG' hk').1 (And.intro (H1.out.2.1.keep (hk' rb (.inl (.inl rfl)))) (H1.out.2.2.1.keepG fun k e => hk' k (.inl (.inr e)))))
      clear cS hm' hG' hk' hca
      go_wp2_with fail
      go_roundw
      case rel =>
        refine ⟨i + 1, T', _, hlt, by go_num, H7.out.1, H7.out.2.1, H7.out.2.2, fun y hy => ?_, H1.out.2.2.2.2.1⟩
        rw [take_nextR H1.out.2.2.2.2.2] at hy
        rcases List.mem_append.1 hy with e | e
        · exact shade_ma (H1.out.2.2.2.1 y e)
        · have e2 : y = x := by simpa using e
          rw [e2]; exact updI_at _ _ _
      case measure => simp [intOf]; omega
    · have hi1 : ¬ (i : Int) < (roots.length : Int) := by omega
      obtain rfl : i = roots.length := by omega
      rw [List.take_length] at hma
      obtain ⟨adj0, hadj⟩ : ∃ adj0, ptsAt obs = adj0 := ⟨_, rfl⟩
      have hsafe : ∀ z ∈ vis, Safe (ptsAt obs) c z := fun z hz => Safe.ofRch ((HV.out.1 z).1 hz) (fun x hx _ => hma x hx) hsc
      have h1l := h1.less (E' := fun k => k = rb) (fun k e => .inl e)
      rw [hadj] at h1l
      have hys : YsA yuK w2.heap.size mb n tm bt xa R (.slice (some ⟨g, 0, none⟩) L cap) f adj0 (fun k => k = rb) w2 X s obs T1 c wr := ⟨h1l, fun k e => by
        rcases e with e | e
        · rw [e]; exact HV.out.2
        · rw [e]; exact H5.out.2, HR.out.2.2.2.2.1, HR.out.1, HO.out.cl⟩
      have hst := And.intro hys (And.intro hMp hsafe)
      clear h1 hMp hrw hma hsc hi hlt hi0 hadj hsafe h1l hys
      go_wp2_with fail
      go_loopw [89] (fun v89 wr => ∃ (i : Nat) (X : ArB) (s : ArS) (obs : List Ob) (T : MkB) (c : Col), i ≤ n1 ∧ v89 = .int .i64 (i : Int) ∧ YsA yuK w2.heap.size mb n tm bt xa R (.slice (some ⟨g, 0, none⟩) L cap) f adj0 (fun k => k = rb) w2 X s obs T c wr ∧ MapIn wr rb vis.length (visF vis) (visK vis) vis.length ∧ ∀ z ∈ vis, Safe (ptsAt obs) c z) (fun v89 _ => n1 - (intOf v89).toNat)
      case atStart => exact ⟨0, X, s, obs, T1, c, Nat.zero_le _, rfl, hst⟩
      case round =>
      clear hst H6 H5
      have HRb := Lib.hid HR.out.2.2.1
      have HRl := Lib.hid HR.out.2.1
      have HRn := Lib.hid HR.out.2.2.2.1
      clear HR HL HV HO
      obtain ⟨i, X, s, obs, T, c, hi, rfl, hys, hMp, hsf⟩ := hrel
      have hi0 : (0 : Int) ≤ (i : Int) := by omega
      have hol : obs.length = L := by rw [← refsI_length, hys.re]; exact HRl.out
      by_cases hlt : i < n1
      case pos =>
        have hi1 : (i : Int) < (n1 : Int) := by omega
        have hB06 := HW2.out.trans (hys.br.gm.below.mono HW2.out.size)
        obtain ⟨bk, off, rfl, hbk, hcs⟩ := HA.out.2.2.2 i hlt
        have hd0 := (hB06.cell (p := ⟨bk, off + i * 4, none⟩) hbk).trans (hcs 0 (by decide)).1
        have hd1 := (hB06.cell (p := ⟨bk, off + i * 4 + 1, none⟩) hbk).trans (hcs 1 (by decide)).1
        have hd2 := (hB06.cell (p := ⟨bk, off + i * 4 + 2, none⟩) hbk).trans (hcs 2 (by decide)).1
        have hd3 := (hB06.cell (p := ⟨bk, off + i * 4 + 3, none⟩) hbk).trans (hcs 3 (by decide)).1
        obtain ⟨qa, hqa, hqa6⟩ := u8_natW (hcs 0 (by decide)).2
        obtain ⟨qb, hqb, hqb6⟩ := u8_natW (hcs 1 (by decide)).2
        obtain ⟨qc, hqc, hqc6⟩ := u8_natW (hcs 2 (by decide)).2
        obtain ⟨qd, hqd, hqd6⟩ := u8_natW (hcs 3 (by decide)).2
        rw [hqa] at hd0
        rw [hqb] at hd1
        rw [hqc] at hd2
        rw [hqd] at hd3
        have b1 := (Below.refl wr.heap.size wr).alloc (Nat.le_refl _) (.cells #[.int .u8 (qa : Int), .int .u8 (qb : Int), .int .u8 (qc : Int), .int .u8 (qd : Int)] 38)
        have h1a := hys.ask b1
        have hE0 := Blk.new wr #[.int .u8 (qa : Int), .int .u8 (qb : Int), .int .u8 (qc : Int), .int .u8 (qd : Int)] 38
        have hx0 := hE0.cell 0
        have hx1 := hE0.cell 1
        simp only [List.getElem?_toArray, List.getElem?_cons_zero, List.getElem?_cons_succ] at hx0 hx1
        have HS := Lib.hid (And.intro h1a (And.intro hE0 (And.intro hsf (hMp.ask b1))))
        have HOL := Lib.hid hol
        clear hqa hqb hqc hqd hcs hbk hB06 b1 hys hMp hsf
        have hn0 : 0 < L := hL0
        obtain ⟨ia, hia⟩ : ∃ ia, ia = qa % L := ⟨_, rfl⟩
        obtain ⟨ib, hib⟩ : ∃ ib, ib = qb % L := ⟨_, rfl⟩
        have hip : 0 < L := by omega
        have hta : (qa : Int).tmod (L : Int) = (ia : Int) := by rw [Int.tmod_eq_emod_of_nonneg (by omega), hia]; omega
        have htb : (qb : Int).tmod (L : Int) = (ib : Int) := by rw [Int.tmod_eq_emod_of_nonneg (by omega), hib]; omega
        have hla : ia < L := by rw [hia]; exact Nat.mod_lt _ hip
        have hlb : ib < L := by rw [hib]; exact Nat.mod_lt _ hip
        have hin : ¬ (L : Int) = 0 := by omega
        have hinb : ((L : Int) == 0) = false := by simp; omega
        have hlaI : (ia : Int) < (L : Int) := by omega
        have hlbI : (ib : Int) < (L : Int) := by omega
        have hla0 : (0 : Int) ≤ (ia : Int) := by omega
        have hlb0 : (0 : Int) ≤ (ib : Int) := by omega
        have hwa : IntKind.i64.wrap (qa : Int) = (qa : Int) := by simp [IntKind.wrap, IntKind.bits, IntKind.signed]; omega
        have hwb : IntKind.i64.wrap (qb : Int) = (qb : Int) := by simp [IntKind.wrap, IntKind.bits, IntKind.signed]; omega
        obtain ⟨x, hx⟩ : ∃ x, obs[ia]? = some x := ⟨_, List.getElem?_eq_getElem (by have := HOL.out; omega)⟩
        obtain ⟨y, hy⟩ : ∃ y, obs[ib]? = some y := ⟨_, List.getElem?_eq_getElem (by have := HOL.out; omega)⟩
        have hca := row_cellB h1a.br.gm.go.row (refsI_at hx)
        have hcb := row_cellB h1a.br.gm.go.row (refsI_at hy)
        have hxR : (x.r : Int) ∈ refsI obs := List.mem_map.2 ⟨x, List.mem_of_getElem? hx, rfl⟩
        have hyR : (y.r : Int) ∈ refsI obs := List.mem_map.2 ⟨y, List.mem_of_getElem? hy, rfl⟩
        have HY := Lib.hid (And.intro hx (And.intro hy (And.intro hxR hyR)))
        clear hn0 hia hib hx hy hxR hyR
        clear h1a hE0 hol
        go_wp2_with fail
        go_quiet (fail)
        have b2 := below_drewG (wr.alloc (.cells #[.int .u8 (qa : Int), .int .u8 (qb : Int), .int .u8 (qc : Int), .int .u8 (qd : Int)] 38)) nq
        have h2 := HS.out.1.ask b2
        have hE2 := HS.out.2.1.drewN nq
        have hMp2 := HS.out.2.2.2.ask b2
        generalize ((wr.alloc (.cells #[.int .u8 (qa : Int), .int .u8 (qb : Int), .int .u8 (qc : Int), .int .u8 (qd : Int)] 38)).drewN nq) = V1 at *
        have cF := ceFieldsOk h2.br.gm.go.ar (h2.br.gm.go.ob.at_ ia x HY.out.1)
        rw [h2.xa] at cF
        have H2 := Lib.hid (And.intro h2 (And.intro hE2 hMp2))
        clear h2 hE2 hMp2 hx0 hx1 hd0 hd1 hd2 hd3 hca hcb hta htb hwa hwb hla0 hlb0 hlaI hlbI hin hinb b2
        go_wp2_with fail
        refine cF.mono ?_
        rintro e V2 ⟨rfl, hB2⟩
        have h3 := H2.out.1.ask hB2
        have hE3 := H2.out.2.1.turn (Turn.ofBelow hB2) (by have := H2.out.2.1.lt; omega)
        have hx3 := hE3.cell 3
        have hx2 := hE3.cell 2
        simp only [List.getElem?_toArray, List.getElem?_cons_zero, List.getElem?_cons_succ] at hx2 hx3
        have H3 := Lib.hid (And.intro h3 (H2.out.2.2.ask hB2))
        clear cF hB2 h3 hE3
        obtain ⟨m3, hm3⟩ : ∃ m3, bits .and .u8 (qd : Int) 3 = m3 := ⟨_, rfl⟩
        obtain ⟨K, hK⟩ : ∃ K : Nat, K = qc % 4 := ⟨_, rfl⟩
        have hKt : (qc : Int).tmod 4 = (K : Int) := by rw [Int.tmod_eq_emod_of_nonneg (by omega), hK]; omega
        have hKw : IntKind.i64.wrap (K : Int) = (K : Int) := by simp [IntKind.wrap, IntKind.bits, IntKind.signed]; omega
        clear hK
        obtain ⟨bq, hbq⟩ : ∃ bq, (m3 == 0) = bq := ⟨_, rfl⟩
        cases bq with
        | true =>
          have cT := H3.out.1.br.gm.trace H3.out.1.cl (K : Int)
          rw [H3.out.1.br.tm] at cT
          go_wp2_with fail
          refine cT.mono ?_
          rintro e V6 ⟨kk, T7, c7, l7, rfl, _, hm7, hG7, hk7, hsc7, _, _⟩
          have H7 := Lib.hid (And.intro (H3.out.1.went hm7 hG7 hk7) (And.intro (H3.out.2.keep (hk7 rb (.inl rfl))) (fun z hz => (HS.out.2.2.1 z hz).scans hsc7 : ∀ z ∈ vis, Safe (ptsAt obs) c7 z)))
          clear cT hm7 hG7 hk7 hsc7 hx2 hx3 hKt hKw
          go_wp2_with fail
          go_roundw
          case rel => exact ⟨i + 1, X, s, obs, T7, c7, hlt, by go_num, H7.out⟩
          case measure => simp [intOf]; omega
        | false =>
          by_cases hk0 : x.k = 0
          · have hkb : ((x.k : Int) == 0) = true := by rw [hk0]; rfl
            clear hk0
            have cT := H3.out.1.br.gm.trace H3.out.1.cl (K : Int)
            rw [H3.out.1.br.tm] at cT
            go_wp2_with fail
            refine cT.mono ?_
            rintro e V6 ⟨kk, T7, c7, l7, rfl, _, hm7, hG7, hk7, hsc7, _, _⟩
            have H7 := Lib.hid (And.intro (H3.out.1.went hm7 hG7 hk7) (And.intro (H3.out.2.keep (hk7 rb (.inl rfl))) (fun z hz => (HS.out.2.2.1 z hz).scans hsc7 : ∀ z ∈ vis, Safe (ptsAt obs) c7 z)))
            clear cT hm7 hG7 hk7 hsc7 hx2 hx3 hKt hKw
            go_wp2_with fail
            go_roundw
            case rel => exact ⟨i + 1, X, s, obs, T7, c7, hlt, by go_num, H7.out⟩
            case measure => simp [intOf]; omega
          · have hkb : ((x.k : Int) == 0) = false := by simp; omega
            have hkp : 0 < x.k := by omega
            obtain ⟨jf, hjf⟩ : ∃ jf, jf = qc % x.k := ⟨_, rfl⟩
            have htc : (qc : Int).tmod (x.k : Int) = (jf : Int) := by rw [Int.tmod_eq_emod_of_nonneg (by omega), hjf]; omega
            have hljf : jf < x.k := by rw [hjf]; exact Nat.mod_lt _ hkp
            have hkn : ¬ (x.k : Int) = 0 := by omega
            have hwc : IntKind.i64.wrap (qc : Int) = (qc : Int) := by simp [IntKind.wrap, IntKind.bits, IntKind.signed]; omega
            obtain ⟨old, hold⟩ : ∃ old, x.F jf = old := ⟨_, rfl⟩
            have hoR : old ∈ refsI obs ∨ old = 0 := by
              rcases H3.out.1.cl x (List.mem_of_getElem? HY.out.1) jf hljf with e | ⟨u, hu, e⟩
              · right; rw [← hold]; exact e
              · left; rw [← hold, e]; exact List.mem_map.2 ⟨u, hu, rfl⟩
            have cFd := ceFieldOk H3.out.1.br.gm.go.ar (H3.out.1.br.gm.go.ob.at_ ia x HY.out.1) jf hljf old hold
            rw [H3.out.1.xa] at cFd
            have hbdR : ∀ y ∈ refsI obs, 1 ≤ y ∧ y ≤ 2048 := by rw [H3.out.1.re]; exact HRb.out
            have HJ := Lib.hid (And.intro hljf (And.intro hold (And.intro hoR hbdR)))
            clear hk0 hjf hkp hljf hold hKt hKw hoR hbdR
            go_wp2_with fail
            refine cFd.mono ?_
            rintro e V3 ⟨rfl, hB3⟩
            have h4 := H3.out.1.ask hB3
            have cP := yu_pre h4.br (x.r : Int) old HJ.out.2.2.1 HJ.out.2.2.2
            have H4 := Lib.hid (And.intro h4 (H3.out.2.ask hB3))
            clear cFd hB3 h4 hx2 hx3 htc hkn hwc hkb
            go_wp2_with fail
            refine cP.mono ?_
            rintro e V4 ⟨rfl, T4, hb4, hk4⟩
            have h5 := H4.out.1.told hb4
            have hM5 := H4.out.2.keep (hk4 rb rfl)
            have cS := h5.set HY.out.1 (List.mem_of_getElem? HY.out.2.1) HJ.out.1
            have H5 := Lib.hid hM5
            clear cP hb4 hk4 h5 hM5
            go_wp2_with fail
            refine cS.mono ?_
            rintro e V5 ⟨rfl, X5, s5, h6, hk6, hp6, hq6⟩
            have cSc := h6.br.gm.at_.scanned (x.r : Int)
            rw [h6.br.tm] at cSc
            have hM6 := H5.out.keep (hk6 rb rfl)
            rw [HJ.out.2.1] at hq6
            have H6 := Lib.hid (And.intro h6 (And.intro hM6 (And.intro hp6 hq6)))
            generalize hobs : obs.set ia { x with F := Go.Proofs.YtihjijfeogapdaaGreatDoor.upd x.F jf (y.r : Int) } = obs5 at *
            clear cS h6 hk6 hM6 hp6 hq6 hobs
            go_wp2_with fail
            refine cSc.mono ?_
            rintro e V6 ⟨rfl, hB6⟩
            have h7 := H6.out.1.ask hB6
            have hre : refsI obs5 = refsI obs := by rw [h7.re, H3.out.1.re]
            have cQ := yu_post h7.br (x.r : Int) old (y.r : Int) ((c.shadeZ old).sc (x.r : Int)) false (by rw [hre]; exact HJ.out.2.2.1) (.inl (by rw [hre]; exact HY.out.2.2.2)) (by rw [hre]; exact HJ.out.2.2.2)
            have H7 := Lib.hid (And.intro h7 (H6.out.2.1.ask hB6))
            clear cSc hB6 h7 hre
            go_wp2_with fail
            refine cQ.mono ?_
            rintro e V7 ⟨rfl, T7, hb7, hk7⟩
            rw [if_neg (by decide), Col.shadeZ_no] at hb7
            have h8 := H7.out.1.told hb7
            have H8 := Lib.hid (And.intro h8 (And.intro (H7.out.2.keep (hk7 rb rfl)) (fun z hz => ((HS.out.2.2.1 z hz).write H6.out.2.2.1 H6.out.2.2.2 (fun u hu => ptsAt_zero _ u hu)).shadeZ old : ∀ z ∈ vis, Safe (ptsAt obs5) ((c.shadeZ old).shadeZ old) z)))
            clear cQ hb7 hk7 h8
            go_wp2_with fail
            go_roundw
            case rel => exact ⟨i + 1, X5, s5, obs5, T7, _, hlt, by go_num, H8.out⟩
            case measure => simp [intOf]; omega
      case neg =>
        have hi1 : ¬ (i : Int) < (n1 : Int) := by omega
        have HOL := Lib.hid hol
        have h0 := And.intro hys (And.intro hMp hsf)
        clear hys hMp hsf hi hlt hi0 hol
        go_wp2_with fail
        go_loopw [] (fun wr => ∃ (T : MkB) (c : Col), YsA yuK w2.heap.size mb n tm bt xa R (.slice (some ⟨g, 0, none⟩) L cap) f adj0 (fun k => k = rb) w2 X s obs T c wr ∧ MapIn wr rb vis.length (visF vis) (visK vis) vis.length ∧ ∀ z ∈ vis, Safe (ptsAt obs) c z) (fun wr => leastN fun k => ∃ (T : MkB) (c : Col), (YsA yuK w2.heap.size mb n tm bt xa R (.slice (some ⟨g, 0, none⟩) L cap) f adj0 (fun k => k = rb) w2 X s obs T c wr ∧ MapIn wr rb vis.length (visF vis) (visK vis) vis.length ∧ ∀ z ∈ vis, Safe (ptsAt obs) c z) ∧ leftU R c = k)
        case atStart => exact ⟨T, c, h0⟩
        case round =>
        clear h0
        obtain ⟨T0, c0, h00⟩ := hrel
        obtain ⟨T, c, ⟨hys, hMp, hsf⟩, hle⟩ := leastN_is (P := fun k => ∃ (T : MkB) (c : Col), (YsA yuK w2.heap.size mb n tm bt xa R (.slice (some ⟨g, 0, none⟩) L cap) f adj0 (fun k => k = rb) w2 X s obs T c wr ∧ MapIn wr rb vis.length (visF vis) (visK vis) vis.length ∧ ∀ z ∈ vis, Safe (ptsAt obs) c z) ∧ leftU R c = k) ⟨_, T0, c0, h00, rfl⟩
        obtain ⟨qd, hqd⟩ : ∃ qd : Bool, qd = true ↔ c.dry := by
          by_cases h : c.dry
          · exact ⟨true, fun _ => h, fun _ => rfl⟩
          · exact ⟨false, fun e => (by cases e), fun e => absurd e h⟩
        have cDr := hys.br.gm.at_.drained qd hqd
        rw [hys.br.tm] at cDr
        have H1 := Lib.hid (And.intro hys (And.intro hMp (And.intro hsf (And.intro hqd hle))))
        clear hys hMp hsf hqd hle h00 T0 c0
        cases qd with
        | false =>
          go_wp2_with fail
          refine cDr.mono ?_
          rintro e V1 ⟨rfl, hB1⟩
          have h2 := H1.out.1.ask hB1
          have cT := h2.br.gm.trace h2.cl 16
          rw [h2.br.tm] at cT
          have H2 := Lib.hid (And.intro h2 (H1.out.2.1.ask hB1))
          clear cDr hB1 h2
          go_wp2_with fail
          refine cT.mono ?_
          rintro e V2 ⟨kk, T7, c7, l7, rfl, hlk, hm7, hG7, hk7, hsc7, _, hkd⟩
          have h3 := H2.out.1.went hm7 hG7 hk7
          have hM3 := H2.out.2.keep (hk7 rb (.inl rfl))
          have hs3 : ∀ z ∈ vis, Safe (ptsAt obs) c7 z := fun z hz => (H1.out.2.2.1 z hz).scans hsc7
          have hlt7 : leftU R c7 < leftU R c := by
            cases l7 with
            | nil =>
              have h9 := hkd (by rw [← hlk]; decide)
              cases hsc7
              exact absurd (H1.out.2.2.2.1.2 h9) (by decide)
            | cons y l =>
              refine leftU_less hsc7 ?_
              have h9 := (hsc7.once.2.1 y (by simp)).2
              rw [← h3.re]; exact h3.br.gm.inn y h9
          have H3 := Lib.hid (And.intro h3 (And.intro hM3 (And.intro hs3 hlt7)))
          clear cT hlk hm7 hG7 hk7 hsc7 hkd h3 hM3 hs3 hlt7
          go_wp2_with fail
          go_roundw
          case rel => exact ⟨T7, c7, H3.out.1, H3.out.2.1, H3.out.2.2.1⟩
          case measure =>
            have e1 := H1.out.2.2.2.2
            have e2 := H3.out.2.2.2
            refine Nat.lt_of_le_of_lt (leastN_le (k := leftU R c7) ⟨T7, c7, ⟨H3.out.1, H3.out.2.1, H3.out.2.2.1⟩, rfl⟩) ?_
            rw [← e1]; exact e2
        | true =>
          have hdry := H1.out.2.2.2.1.1 rfl
          go_wp2_with fail
          refine cDr.mono ?_
          rintro e V1 ⟨rfl, hB1⟩
          have h2 := And.intro (H1.out.1.ask hB1) (H1.out.2.1.ask hB1)
          have hall : ∀ z ∈ vis, c.ma z = true := fun z hz => (H1.out.2.2.1 z hz).dry hdry
          have hl6 := h2.1.br.gm.go.row.lenRun 3
          rw [refsI_length, HOL.out] at hl6
          have H2 := Lib.hid (And.intro h2.1 (And.intro h2.2 hall))
          clear cDr hB1 h2 hall hdry
          go_wp2_with fail
          clear hl6
          go_loopw [166] (fun v166 W => ∃ k : Nat, k ≤ L ∧ v166 = .int .i64 (k : Int) ∧ Below V1.heap.size V1 W) (fun v166 _ => L - (intOf v166).toNat)
          case atStart => exact ⟨0, Nat.zero_le _, rfl, Below.refl _ _⟩
          case round =>
          obtain ⟨k, hk, rfl, hBW⟩ := hrel
          have hk0 : (0 : Int) ≤ (k : Int) := by omega
          have hV := H2.out.1.ask hBW
          have hMp := H2.out.2.1.ask hBW
          by_cases hlt2 : k < L
          · have hk1 : (k : Int) < (L : Int) := by omega
            obtain ⟨y, hy⟩ : ∃ y, obs[k]? = some y := ⟨_, List.getElem?_eq_getElem (by have := HOL.out; omega)⟩
            have hca := row_cellB hV.br.gm.go.row (refsI_at hy)
            have hyR : (y.r : Int) ∈ refsI obs := List.mem_map.2 ⟨y, List.mem_of_getElem? hy, rfl⟩
            have hyb : 1 ≤ (y.r : Int) ∧ (y.r : Int) ≤ 2048 := HRb.out _ (by rw [← hV.re]; exact hyR)
            have hwf := wf_ref hyb.1 hyb.2
            obtain ⟨v, hv⟩ : ∃ v, visF vis (y.r : Int) = v := ⟨_, rfl⟩
            have hlk := hMp.look (y.r : Int) hwf
            rw [hv] at hlk
            have HB := Lib.hid hBW
            by_cases hin : (y.r : Int) ∈ vis
            · have hv1 : v = 1 := by rw [← hv]; unfold visF; rw [if_pos hin]
              subst hv1
              have cM := hV.br.gm.at_.marked (y.r : Int)
              rw [hV.br.tm, H2.out.2.2 _ hin] at cM
              clear hV hMp hBW hyR hyb hwf hv hin hy
              go_wp2_with fail
              refine cM.mono ?_
              rintro e V2 ⟨rfl, hB2⟩
              have HB2 := Lib.hid (HB.out.trans (hB2.mono HB.out.size))
              clear cM hB2 hca
              go_wp2_with fail
              go_roundw
              case rel => exact ⟨k + 1, by omega, by go_num, HB2.out⟩
              case measure => simp [intOf]; omega
            · have hv0 : v = 0 := by rw [← hv]; unfold visF; rw [if_neg hin]
              subst hv0
              clear hV hMp hBW hyR hyb hwf hv hin hy
              go_wp2_with fail
              go_roundw
              case rel => exact ⟨k + 1, by omega, by go_num, HB.out⟩
              case measure => simp [intOf]; omega
          · have hk1 : ¬ (k : Int) < (L : Int) := by omega
            have HF := Lib.hid (HW2.out.trans (hV.br.gm.below.mono HW2.out.size))
            clear hlt2 hV hBW hMp
            go_wp2_with fail
            go_ret
            exact ⟨rfl, HF.out⟩
/-- As the frame asks it. -/
theorem ysnap_frame (a0 : Option Addr) (zs : List Int) (cf : Nat) (e0 : Option Addr) (ne ce : Nat) (Q : Nat → Nat → Int) (a2 : Option Addr) (us : List Int) (cu : Nat) (a1 : Option Addr) (n1 c1 : Nat) (Q1 : Nat → Nat → Int) (w : World) (hl2 : us.length ≤ 9223372036854775807) (hl : n1 ≤ 9223372036854775807)
    (hF : BytesW w a0 zs) (hE : EdgesW w e0 ne Q) (hU : BytesW w a2 us) (hP : FoursW w a1 n1 Q1) (hTb : TabAt w) (hT : TableAt w) :
    Calls Tryz.prog 4 #[.agg #[.slice a0 zs.length cf, .slice e0 ne ce], .slice a2 us.length cu, .slice a1 n1 c1] w fun e w' => e = .returned (.bool true) ∧ Below w.heap.size w w' := ysnap_true a0 zs cf e0 ne ce Q a2 us cu a1 n1 c1 Q1 w hF hE hU hP ⟨hT, hTb⟩
end Go.Proofs.YtihjijfeogapdaaGreatDoor
