/- SweepBegins, walked; at this seat's numbers. -/
import Derived.Test.YtidpmplkbgllfaaGreatDoorSwG
import Derived.Deep.DeepCutAuto
import Derived.Deep.CutBlock
namespace Go.Proofs.YtidpmplkbgllfaaGreatDoor
open Go Go.RowKit Go.Shelf Go.MuLone Go.RwLone
set_option linter.unusedSimpArgs false
set_option linter.unusedVariables false
attribute [local go_sem] Oper.semAt_some

/-- Pages below nx are empty; so many were given back. -/
structure Bgn (B xa tm sw n : Nat) (vl : Value) (L : List Int) (nx gone : Nat) (wb wr : World) : Prop where
  ex : ∃ X s T, X.a = xa ∧ T.m = tm ∧ SwIn B (fun k => vl.ownBlock = some k) X s T Col.white sw (decide (nx < 64)) nx wb wr ∧ s.P = 64 ∧ (∀ r, s.S r = true → nx ≤ pg r) ∧ gone + (elems s.S 2049).length = n
  le : nx ≤ 64
  row : RefRow wr vl L
section
variable {B xa tm sw n nx gone : Nat} {vl : Value} {L : List Int} {wb wr w' : World}
theorem Bgn.ask (h : Bgn B xa tm sw n vl L nx gone wb wr) (hB : Below wr.heap.size wr w') : Bgn B xa tm sw n vl L nx gone wb w' := by
  obtain ⟨X, s, T, h1, h2, h3, h4⟩ := h.ex
  exact ⟨⟨X, s, T, h1, h2, h3.ask hB, h4⟩, h.le, h.row.askSw hB⟩
theorem Bgn.below (h : Bgn B xa tm sw n vl L nx gone wb wr) : Below B wb wr := by
  obtain ⟨X, s, T, h1, h2, h3, h4⟩ := h.ex
  exact h3.ma.ar.below
theorem Bgn.few (h : Bgn B xa tm sw n vl L nx gone wb wr) : gone ≤ n := by
  obtain ⟨X, s, T, h1, h2, h3, h4, h5, h6⟩ := h.ex
  omega
/-- The page that comes next, as it stands in memory. -/
theorem Bgn.next (h : Bgn B xa tm sw n vl L nx gone wb wr) : (wr.cell? ⟨sw, 2, none⟩).getD undef = .int .i64 (nx : Int) := by
  obtain ⟨X, s, T, h1, h2, h3, h4⟩ := h.ex
  have h5 := h3.blk.cell 2
  simp only [swArr, List.getElem?_toArray, List.getElem?_cons_zero, List.getElem?_cons_succ] at h5
  rw [h5]; rfl
theorem Bgn.begin (h : Bgn B xa tm sw n vl L nx gone wb wr) : Calls Tryz.prog 11 #[.pointer (some ⟨sw, 0, none⟩)] wr fun e w' =>
    e = .returned (.tuple #[]) ∧ Bgn B xa tm sw n vl L 0 gone wb w' := by
  obtain ⟨X, s, T, h1, h2, h3, h4, h5, h6⟩ := h.ex
  refine h3.begin.mono ?_
  rintro e w1 ⟨rfl, g, hk, _⟩
  exact ⟨rfl, ⟨⟨X, s, T, h1, h2, g, h4, fun r _ => Nat.zero_le _, h6⟩, Nat.zero_le _, h.row.keepSw hk⟩⟩
theorem Bgn.on_ (h : Bgn B xa tm sw n vl L nx gone wb wr) : Calls Tryz.prog 18 #[.pointer (some ⟨sw, 0, none⟩)] wr fun e w' => e = .returned (.bool (decide (nx < 64))) ∧ wr = w' := by
  obtain ⟨X, s, T, h1, h2, h3, h4⟩ := h.ex
  exact h3.on_
theorem Bgn.left (h : Bgn B xa tm sw n vl L nx gone wb wr) : Calls Tryz.prog 25 #[.pointer (some ⟨sw, 0, none⟩)] wr fun e w' => e = .returned (.int .i64 ((64 - nx : Nat) : Int)) ∧ Below wr.heap.size wr w' := by
  obtain ⟨X, s, T, h1, h2, h3, h4, h5⟩ := h.ex
  have h6 := h3.left h.le
  have h7 := h.le
  have e : (if decide (nx < 64) = true then (s.P : Int) - (nx : Int) else 0) = ((64 - nx : Nat) : Int) := by
    rw [h4]
    by_cases e2 : nx < 64
    · rw [if_pos (decide_eq_true e2)]; omega
    · rw [if_neg (by simp; omega)]; omega
  rw [e] at h6
  exact h6
theorem Bgn.pages (h : Bgn B xa tm sw n vl L nx gone wb wr) : Calls Tryz.prog 24 #[.pointer (some ⟨xa, 0, none⟩)] wr fun e w' => e = .returned (.int .i64 64) ∧ wr = w' := by
  obtain ⟨X, s, T, h1, h2, h3, h4, h5⟩ := h.ex
  have h6 := pages_any h3.ma.ar.at_.toArMem
  rw [h1, h4] at h6
  exact h6
theorem Bgn.free (h : Bgn B xa tm sw n vl L 64 gone wb wr) : Calls Tryz.prog 23 #[.pointer (some ⟨xa, 0, none⟩)] wr fun e w' => e = .returned (.int .i64 64) ∧ wr = w' := by
  obtain ⟨X, s, T, h1, h2, h3, h4, h5, h6⟩ := h.ex
  have h7 := h3.ma.ar.free
  have e : ∀ r, s.S r = false := fun r => by
    cases hr : s.S r with
    | false => rfl
    | true =>
      have := h5 r hr
      have := (fits_lt h3.fits h4 hr).2.2
      omega
  rw [h1, free_none h3.fits e, h4] at h7
  exact h7
theorem Bgn.all (h : Bgn B xa tm sw n vl L 64 gone wb wr) : gone = n := by
  obtain ⟨X, s, T, h1, h2, h3, h4, h5, h6⟩ := h.ex
  have e : ∀ r, s.S r = false := fun r => by
    cases hr : s.S r with
    | false => rfl
    | true =>
      have := h5 r hr
      have := (fits_lt h3.fits h4 hr).2.2
      omega
  rw [elems_none _ e] at h6
  exact h6
theorem Bgn.page (h : Bgn B xa tm sw n vl L nx gone wb wr) : Calls Tryz.prog 12 #[.pointer (some ⟨sw, 0, none⟩)] wr fun e w' =>
    ∃ v d, e = .returned v ∧ RefRow w' v d ∧ Bgn B xa tm sw n vl L (min (nx + 1) 64) (gone + d.length) wb w' := by
  obtain ⟨X, s, T, h1, h2, h3, h4, h5, h6⟩ := h.ex
  by_cases hn : nx < 64
  · rw [decide_eq_true hn] at h3
    refine (h3.page (by omega)).mono ?_
    rintro e w1 ⟨v, X', T', rfl, hR, hXa, hTm, g, hk, _⟩
    have hF := h3.fits
    refine ⟨v, _, rfl, hR, ⟨⟨X', swS s Col.white nx, T', hXa.trans h1, hTm.trans h2, ?_, (swS_P _ _ _).trans h4, fun r hr => ?_, ?_⟩, by omega, h.row.keepSw hk⟩⟩
    · rw [swC_white, h4] at g
      have e1 : min (nx + 1) 64 = nx + 1 := by omega
      rw [e1]; exact g
    · rw [swS_S hF, Bool.and_eq_true] at hr
      have h7 := h5 r hr.1
      have h8 : ¬ pg r = nx := fun e => by
        have h9 := hr.2
        rw [e] at h9
        simp [Col.white] at h9
      omega
    · have h7 := swS_card hF Col.white (p := nx) 2049 (fun r hr => (fits_lt hF h4 hr).2.1)
      omega
  · have e64 : nx = 64 := by have := h.le; omega
    subst e64
    rw [show decide (64 < 64) = false from rfl] at h3
    refine h3.pageNo.mono ?_
    rintro e w1 ⟨rfl, rfl⟩
    exact ⟨_, [], rfl, World.ownsRow_nil _ _ _ _, ⟨⟨X, s, T, h1, h2, h3, h4, h5, h6⟩, Nat.le_refl _, h.row⟩⟩
end
set_option maxRecDepth 100000 in
set_option maxHeartbeats 16000000 in
theorem swbegins_true (a0 : Option Addr) (zs : List Int) (cf : Nat) (e0 : Option Addr) (ne ce : Nat) (Q : Nat → Nat → Int) (nv mv : Nat) (hnv : nv < 256) (hmv : mv < 256) (w : World) (hF : BytesW w a0 zs) (hE : EdgesW w e0 ne Q) (hT : TableAt w) :
    Calls Tryz.prog 5 #[.agg #[.slice a0 zs.length cf, .slice e0 ne ce], .int .u8 (nv : Int), .int .u8 (mv : Int)] w fun e w' => e = .returned (.bool true) ∧ Below w.heap.size w w' := by
  have HA := Lib.hid (And.intro hF (And.intro hE trivial))
  clear hF hE
  go_enter Tryz.func5, Tryz.ntmps5
  go_wp2_with fail
  have hG := Blk.new w #[.slice a0 zs.length cf, .slice e0 ne ce] 25
  have hB0 := (Below.refl w.heap.size w).alloc (Nat.le_refl _) (.cells #[.slice a0 zs.length cf, .slice e0 ne ce] 25)
  have hT0 := hT.below hB0
  generalize w.alloc (.cells #[.slice a0 zs.length cf, .slice e0 ne ce] 25) = W0 at *
  refine (swfit_true W0 hT0).mono ?_
  rintro e w1 ⟨rfl, hB1⟩
  have hG1 := hG.turn (Turn.ofBelow hB1) (fun e => Nat.lt_irrefl _ (Nat.lt_of_lt_of_le hG.lt e))
  have hB01 := hB0.trans (hB1.mono hB0.size)
  have g0 := hG1.cell 0
  have g1 := hG1.cell 1
  simp only [List.getElem?_toArray, List.getElem?_cons_zero, List.getElem?_cons_succ] at g0 g1
  obtain ⟨q, hq⟩ : ∃ q, (decide (zs.length ≤ 40) && decide (ne ≤ 120)) = q := ⟨_, rfl⟩
  have cS := swSmall a0 zs.length cf e0 ne ce w1 q hq
  have HW1 := Lib.hid (And.intro hG1 (And.intro hB01 (hT.below hB01)))
  clear hB0 hB1 hG hT0 hG1 hT hB01
  go_wp2_with fail
  refine cS.mono ?_
  rintro e w2 ⟨rfl, hB2⟩
  have hB02 := HW1.out.2.1.trans (hB2.mono HW1.out.2.1.size)
  clear cS g0 g1
  by_cases hsm : zs.length ≤ 40 ∧ ne ≤ 120
  case neg =>
    have hqf : q = false := by
      rw [← hq]
      by_cases h1 : zs.length ≤ 40
      · have h2 : ¬ ne ≤ 120 := fun h3 => hsm ⟨h1, h3⟩
        rw [decide_eq_false h2, Bool.and_false]
      · rw [decide_eq_false h1]; rfl
    subst hqf
    clear hsm hq
    go_wp2_with fail
    go_ret
    exact ⟨rfl, hB02⟩
  case pos =>
  obtain ⟨h40, h120⟩ := hsm
  have hqt : q = true := by rw [← hq, decide_eq_true h40, decide_eq_true h120]; rfl
  subst hqt
  have hG2 := HW1.out.1.turn (Turn.ofBelow hB2) (fun e => Nat.lt_irrefl _ (Nat.lt_of_lt_of_le HW1.out.1.lt e))
  have hT2 := HW1.out.2.2.below hB2
  have cM := made_any a0 zs cf e0 ne ce Q w2 h40 h120 (HA.out.1.underS hB02 (Nat.le_refl _)) (HA.out.2.1.underS hB02 (Nat.le_refl _)) hT2
  have g0 := hG2.cell 0
  have g1 := hG2.cell 1
  simp only [List.getElem?_toArray, List.getElem?_cons_zero, List.getElem?_cons_succ] at g0 g1
  have HW2 := Lib.hid hB02
  have H40 := Lib.hid (And.intro h40 trivial)
  clear hG2 hT2 hB02 hB2 HW1 hq h40 h120
  go_wp2_with fail
  refine cM.mono ?_
  rintro e w3 hMP
  obtain ⟨X, s, obs, vl, mb, rfl, hMO⟩ := hMP.light
  have hlen := hMO.row.lenRun 3
  rw [refsI_length, hMO.len] at hlen
  have cN := ma_new (E := fun k => vl.ownBlock = some k) hMO.ar 64 (by omega) hMO.own
  have HO := Lib.hid hMO
  obtain ⟨n, hn⟩ : ∃ n, zs.length = n := ⟨_, rfl⟩
  rw [hn] at hlen
  have hn40 : (n : Int) ≤ 40 := by have := H40.out.1; omega
  have HN := Lib.hid hn
  clear hMO hMP cM g0 g1 hn
  go_wp2_with fail
  refine cN.mono ?_
  rintro e w4 ⟨T, rfl, hM4, hB4⟩
  have hr4 := HO.out.row.askSw hB4
  have cS := sw_new hM4
  clear cN hM4 hB4
  go_wp2_with fail
  refine cS.mono ?_
  rintro e w5 ⟨sw, rfl, h5, hB5⟩
  have hr5 := hr4.askSw hB5
  have cB := h5.begin
  have hc := HO.out.count
  have hb0 : ∀ w6 : World, SwIn w2.heap.size (fun k => vl.ownBlock = some k) X s T Col.white sw true 0 w2 w6 → (∀ k, vl.ownBlock = some k → w6.heap[k]? = w5.heap[k]?) → Bgn w2.heap.size X.a T.m sw n vl (refsI obs) 0 0 w2 w6 := fun w6 g hk =>
    ⟨⟨X, s, T, rfl, rfl, g, HO.out.P, fun r _ => Nat.zero_le _, by rw [hc, HN.out]; omega⟩, Nat.zero_le _, hr5.keepSw hk⟩
  have HB := Lib.hid hb0
  have hq0 : ∃ q1 : Nat, (nv : Int).tmod 70 = (q1 : Int) ∧ q1 < 70 := ⟨nv % 70, by rw [Int.tmod_eq_emod_of_nonneg (by omega)]; omega, Nat.mod_lt _ (by omega)⟩
  obtain ⟨q1, hq1, hq1l⟩ := hq0
  have hq02 : ∃ q2 : Nat, (mv : Int).tmod 70 = (q2 : Int) ∧ q2 < 70 := ⟨mv % 70, by rw [Int.tmod_eq_emod_of_nonneg (by omega)]; omega, Nat.mod_lt _ (by omega)⟩
  obtain ⟨q2, hq2, hq2l⟩ := hq02
  have hw1 : IntKind.u8.wrap (q1 : Int) = (q1 : Int) := by simp [IntKind.wrap, IntKind.bits, IntKind.signed]; omega
  have hw2 : IntKind.u8.wrap (q2 : Int) = (q2 : Int) := by simp [IntKind.wrap, IntKind.bits, IntKind.signed]; omega
  have hw3 : IntKind.i64.wrap (q2 : Int) = (q2 : Int) := by simp [IntKind.wrap, IntKind.bits, IntKind.signed]; omega
  clear cS hr4 hr5 h5 hB5 hc hb0
  go_wp2_with fail
  refine cB.mono ?_
  rintro e w6 ⟨rfl, g6, hk6, _⟩
  have h6 := HB.out w6 g6 hk6
  clear cB g6 hk6 HB
  generalize X.a = xa at *
  generalize T.m = tm at *
  have H6 := Lib.hid h6
  clear h6
  go_wp2_with fail
  go_loopw [12, 32] (fun v12 v32 wr => ∃ j nx gone : Nat, j ≤ q1 ∧ v32 = .int .u8 (j : Int) ∧ v12 = .int .i64 (gone : Int) ∧ Bgn w2.heap.size xa tm sw n vl (refsI obs) nx gone w2 wr) (fun _ v32 _ => q1 - (intOf v32).toNat)
  case atStart => exact ⟨0, 0, 0, Nat.zero_le _, rfl, rfl, H6.out⟩
  case round =>
  clear H6
  obtain ⟨j, nx, gone, hj, rfl, rfl, h1⟩ := hrel
  have hj0 : (0 : Int) ≤ (j : Int) := by omega
  by_cases hlt : j < q1
  · have hj1 : (j : Int) < (q1 : Int) := by omega
    have cP := h1.page
    have hg40 : gone ≤ n := h1.few
    clear h1
    go_wp2_with fail
    refine cP.mono ?_
    rintro e w7 ⟨v7, d7, rfl, hR7, h7⟩
    have hl7 := hR7.lenRun 3
    obtain ⟨dl, hdl⟩ : ∃ dl, d7.length = dl := ⟨_, rfl⟩
    rw [hdl] at hl7 h7
    have hf7 := h7.few
    have hf7I : (gone : Int) + (dl : Int) ≤ (n : Int) := by omega
    have hg0 : (0 : Int) ≤ (gone : Int) := by omega
    have hd0 : (0 : Int) ≤ (dl : Int) := by omega
    have H7 := Lib.hid h7
    clear cP hR7 hdl h7
    go_wp2_with fail
    go_roundw
    case rel => exact ⟨j + 1, _, gone + dl, hlt, by go_num, by go_num, H7.out⟩
    case measure => simp [intOf]; omega
  have hj1 : ¬ (j : Int) < (q1 : Int) := by omega
  have cB := h1.begin
  have hg40 : gone ≤ n := h1.few
  clear h1 hlt
  go_wp2_with fail
  refine cB.mono ?_
  rintro e w7 ⟨rfl, h7⟩
  have cO := h7.on_
  rw [show decide (0 < 64) = true from rfl] at cO
  have cL := h7.left
  rw [show ((64 - 0 : Nat) : Int) = 64 from rfl] at cL
  have H7 := Lib.hid h7
  clear cB h7
  go_wp2_with fail
  refine cO.mono ?_
  rintro e w' ⟨rfl, rfl⟩
  clear cO
  go_wp2_with fail
  refine cL.mono ?_
  rintro e w8 ⟨rfl, hB8⟩
  have h8 := H7.out.ask hB8
  have cP := h8.pages
  have H8 := Lib.hid h8
  clear cL h8 hB8
  go_wp2_with fail
  refine cP.mono ?_
  rintro e w' ⟨rfl, rfl⟩
  clear cP
  go_wp2_with fail
  go_loopw [12, 54] (fun v12 v54 wr => ∃ j gone : Nat, j ≤ q2 ∧ v54 = .int .u8 (j : Int) ∧ v12 = .int .i64 (gone : Int) ∧ Bgn w2.heap.size xa tm sw n vl (refsI obs) (min j 64) gone w2 wr) (fun _ v54 _ => q2 - (intOf v54).toNat)
  case atStart => exact ⟨0, gone, Nat.zero_le _, rfl, rfl, H8.out⟩
  case round =>
  clear H8 H7 hg40
  obtain ⟨j2, gone2, hj2, rfl, rfl, h1⟩ := hrel
  have hj20 : (0 : Int) ≤ (j2 : Int) := by omega
  by_cases hlt : j2 < q2
  · have hj21 : (j2 : Int) < (q2 : Int) := by omega
    have cP := h1.page
    have hg40 : gone2 ≤ n := h1.few
    clear h1
    go_wp2_with fail
    refine cP.mono ?_
    rintro e w9 ⟨v9, d9, rfl, hR9, h9⟩
    have hl9 := hR9.lenRun 3
    obtain ⟨dl, hdl⟩ : ∃ dl, d9.length = dl := ⟨_, rfl⟩
    rw [hdl] at hl9 h9
    have hf9 := h9.few
    have hf9I : (gone2 : Int) + (dl : Int) ≤ (n : Int) := by omega
    have hg0 : (0 : Int) ≤ (gone2 : Int) := by omega
    have hd0 : (0 : Int) ≤ (dl : Int) := by omega
    have e9 : min (min j2 64 + 1) 64 = min (j2 + 1) 64 := by omega
    rw [e9] at h9
    have H9 := Lib.hid h9
    clear cP hR9 hdl h9 e9
    go_wp2_with fail
    go_roundw
    case rel => exact ⟨j2 + 1, gone2 + dl, hlt, by go_num, by go_num, H9.out⟩
    case measure => simp [intOf]; omega
  obtain rfl : j2 = q2 := by omega
  have hj21 : ¬ (j2 : Int) < (j2 : Int) := by omega
  have HR := Lib.hid h1
  have cPg := h1.pages
  clear h1 hlt
  go_upto_region 21 with fail
  go_cut [76] (fun v76 wx => v76 = .bool false ∧ Bgn w2.heap.size xa tm sw n vl (refsI obs) (min j2 64) gone2 w2 wx)
  case first =>
    go_wp2_with fail
    refine cPg.mono ?_
    rintro e w' ⟨rfl, rfl⟩
    clear cPg
    by_cases h64 : 64 ≤ j2
    · have h64I : (64 : Int) ≤ (j2 : Int) := by omega
      have h9 := HR.out
      have e9 : min j2 64 = 64 := by omega
      rw [e9] at h9
      have cO := h9.on_
      rw [show decide (64 < 64) = false from rfl] at cO
      have cL := h9.left
      rw [show ((64 - 64 : Nat) : Int) = 0 from rfl] at cL
      have E9 := Lib.hid e9
      clear h9 e9
      go_wp2_with fail
      refine cO.mono ?_
      rintro e w' ⟨rfl, rfl⟩
      clear cO
      go_wp2_with fail
      refine cL.mono ?_
      rintro e w8 ⟨rfl, hB8⟩
      have h8 := HR.out.ask hB8
      have H8 := Lib.hid h8
      clear cL h8 hB8
      go_wp2_with fail
      go_meet
      case rel => exact ⟨rfl, H8.out⟩
    · have h64I : ¬ (64 : Int) ≤ (j2 : Int) := by omega
      go_wp2_with fail
      go_meet
      case rel => exact ⟨rfl, HR.out⟩
  case rest =>
  obtain ⟨rfl, h9⟩ := hcut
  have H9 := Lib.hid h9
  clear HR cPg h9
  go_wp2_with fail
  go_loopw [12] (fun v12 wr => ∃ nx gone : Nat, v12 = .int .i64 (gone : Int) ∧ Bgn w2.heap.size xa tm sw n vl (refsI obs) nx gone w2 wr) (fun _ wr => 64 - (intOf ((wr.cell? ⟨sw, 2, none⟩).getD undef)).toNat)
  case atStart => exact ⟨_, gone2, rfl, H9.out⟩
  case round =>
  clear H9
  obtain ⟨nx, gone3, rfl, h1⟩ := hrel
  have cO := h1.on_
  have hx := h1.next
  by_cases hlt : nx < 64
  · rw [decide_eq_true hlt] at cO
    have cP := h1.page
    have hg40 : gone3 ≤ n := h1.few
    have HX := Lib.hid hx
    clear h1 hx
    go_wp2_with fail
    refine cO.mono ?_
    rintro e w' ⟨rfl, rfl⟩
    clear cO
    go_wp2_with fail
    refine cP.mono ?_
    rintro e w9 ⟨v9, d9, rfl, hR9, h9⟩
    have hl9 := hR9.lenRun 3
    obtain ⟨dl, hdl⟩ : ∃ dl, d9.length = dl := ⟨_, rfl⟩
    rw [hdl] at hl9 h9
    have hf9 := h9.few
    have hf9I : (gone3 : Int) + (dl : Int) ≤ (n : Int) := by omega
    have hg0 : (0 : Int) ≤ (gone3 : Int) := by omega
    have hd0 : (0 : Int) ≤ (dl : Int) := by omega
    have H9 := Lib.hid h9
    clear cP hR9 hdl h9
    go_wp2_with fail
    go_roundw
    case rel => exact ⟨_, gone3 + dl, by go_num, H9.out⟩
    case measure =>
      rw [HX.out, H9.out.next]
      simp [intOf]
      omega
  · rw [decide_eq_false hlt] at cO
    have e64 : nx = 64 := by have := h1.le; omega
    subst e64
    have cF := h1.free
    have cPg := h1.pages
    have ha := h1.all
    subst ha
    have HR := Lib.hid (And.intro HW2.out h1)
    clear h1 hx hlt
    go_wp2_with fail
    refine cO.mono ?_
    rintro e w' ⟨rfl, rfl⟩
    clear cO
    go_wp2_with fail
    refine cF.mono ?_
    rintro e w' ⟨rfl, rfl⟩
    clear cF
    go_wp2_with fail
    refine cPg.mono ?_
    rintro e w' ⟨rfl, rfl⟩
    clear cPg
    go_wp2_with fail
    go_ret
    exact ⟨rfl, HR.out.1.trans (HR.out.2.below.mono HR.out.1.size)⟩
theorem swbegins_frame (a0 : Option Addr) (zs : List Int) (cf : Nat) (e0 : Option Addr) (ne ce : Nat) (Q : Nat → Nat → Int) (a : Int) (ha : (Lit.int .u8 a).wf = true) (b : Int) (hb : (Lit.int .u8 b).wf = true) (w : World)
    (hF : BytesW w a0 zs) (hE : EdgesW w e0 ne Q) (hT : TableAt w) :
    Calls Tryz.prog 5 #[.agg #[.slice a0 zs.length cf, .slice e0 ne ce], .int .u8 a, .int .u8 b] w fun e w' => e = .returned (.bool true) ∧ Below w.heap.size w w' := by
  obtain ⟨m, rfl, hm⟩ := u8_natW ha
  obtain ⟨k, rfl, hk⟩ := u8_natW hb
  exact swbegins_true a0 zs cf e0 ne ce Q m k hm hk w hF hE hT
end Go.Proofs.YtidpmplkbgllfaaGreatDoor
