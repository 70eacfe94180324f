/- CellRuns, walked; at this seat's numbers. -/
import Derived.Test.YtoemfehlnnbjdaaDoorMkW
namespace Go.Proofs.YtoemfehlnnbjdaaDoor
open Go Go.RowKit Go.Shelf
set_option linter.unusedSimpArgs false
set_option linter.unusedVariables false
attribute [local go_sem] Oper.semAt_some

def CrA (W1 : World) (n : Nat) (v : Value) (wr : World) : Prop := ∃ i : Nat, i ≤ n ∧ v = .int .i64 (i : Int) ∧ Below W1.heap.size W1 wr

set_option maxRecDepth 100000 in
set_option maxHeartbeats 16000000 in
theorem cruns_true (a0 : Option Addr) (len cap : Nat) (Q : Nat → Nat → Int) (pg : Int) (w : World) (_ : len ≤ 9223372036854775807) (hZ : DeedsAt w a0 len Q) (hT : TableAt w) :
    Calls Tryd.prog 3 #[.slice a0 len cap, .int .i64 pg] w fun e w' => e = .returned (.bool true) ∧ Below w.heap.size w w' := by
  have hf := cefit_true w hT
  have hgl := hT.lt
  obtain ⟨p, hp7, hpe⟩ := i64_and_mask pg 7 (by decide)
  replace hpe : bits .and .i64 pg 7 = (p : Int) := hpe
  have hpI : (p : Int) ≤ 7 := by omega
  have hp0 : (0 : Int) ≤ (p : Int) := by omega
  have HZ := Lib.hid hZ
  clear hZ
  go_enter Tryd.func3, Tryd.ntmps3
  go_wp2_with fail
  refine hf.mono ?_
  rintro e w1 ⟨rfl, hB⟩
  clear hf
  by_cases hbig : 80 < (len : Int)
  · go_wp2_with fail
    go_ret
    exact ⟨rfl, hB⟩
  have hl80 : len ≤ 80 := by omega
  have cN := new_in (1 + (p : Int)) (1 + p) (by omega) w.heap.size w w1 hB (Nat.le_refl _) hT hgl
  go_wp2_with fail
  refine cN.mono ?_
  rintro e w2 ⟨X0, rfl, hA, _, _⟩
  clear cN hB
  have cM := made_any (a0 := a0) (len := len) (cap := cap) (Q := Q) hA hl80 HZ.out
  clear hA
  go_wp2_with fail
  refine cM.mono ?_
  rintro e w3 ⟨X, s, l, bs, vo, hX, rfl, hM, hll⟩
  clear cM
  rw [← hX]
  clear hX
  have hlr := hM.row.lenRun 3 w3
  have hlen := hM.len
  rcases hM.row.is with ⟨rfl, e2⟩ | ⟨g, cap2, cur, rfl, hg, hcell⟩
  · have hbl := hM.ar.below
    clear hM hlen hlr
    go_wp2_with fail
    go_loopw [35] (fun v35 wr => v35 = .int .i64 0 ∧ wr = w3) (fun _ _ => 0)
    case atStart => exact ⟨rfl, rfl⟩
    case round =>
      obtain ⟨rfl, rfl⟩ := hrel
      go_wp2_with fail
      go_ret
      exact ⟨rfl, hbl⟩
  · have hb80 : bs.length ≤ 80 := by omega
    have HL := Lib.hid hlen
    have HM := Lib.hid hM
    have HC := Lib.hid hcell
    have hgl2 := hg.lt
    clear hlen hM hcell hg hlr
    go_wp2_with fail
    go_loopw [35] (fun v35 wr => CrA w3 bs.length v35 wr) (fun v35 _ => bs.length - (intOf v35).toNat)
    case atStart => exact ⟨0, Nat.zero_le _, rfl, Below.refl _ _⟩
    case round =>
      obtain ⟨i, hi, rfl, hBW⟩ := hrel
      have hi0 : (0 : Int) ≤ (i : Int) := by omega
      by_cases hlt : i < bs.length
      · have hi1 : (i : Int) < (bs.length : Int) := by omega
        obtain ⟨b, hb⟩ : ∃ b, bs[i]? = some b := ⟨_, List.getElem?_eq_getElem hlt⟩
        obtain ⟨x, hx⟩ := HM.out.hitB hb
        have e1 := (hBW.cell (p := ⟨g, i, none⟩) hgl2).trans (HC.out i hlt)
        rw [show bs[i] = b by rw [List.getElem?_eq_getElem hlt] at hb; exact Option.some.inj hb] at e1
        have h5 := HM.out.ask hBW
        have hO := h5.ob.at_ _ x hx
        have hth := (h5.th _ x b hx hb).1
        have f0 := hth.cell 0
        have f1 := hth.cell 1
        unfold thingV at f0 f1
        simp only [List.getElem?_toArray, List.getElem?_cons_succ, List.getElem?_cons_zero] at f0 f1
        have hS0 : wr.cell? ⟨b.p, 0, none⟩ = some (.int .i64 (x.r : Int)) ∧ wr.cell? ⟨b.p, 1, none⟩ = some (.slice (some ⟨b.g, 0, none⟩) x.k x.k) := ⟨f0, f1⟩
        have cF := ceFieldsOk (h5.ask (Below.refl _ _).drew).ar hO
        have HX := Lib.hid (And.intro hx hb)
        have HB := Lib.hid hBW
        have HO := Lib.hid hO
        have hk6 : x.k ≤ 6 := hO.k6 h5.ar.at_.fits
        clear hx hb h5 hth f0 f1 hBW hO
        go_wp2_with fail
        go_region_held3 (fun w' => w'.cell? ⟨b.p, 0, none⟩ = some (.int .i64 (x.r : Int)) ∧ w'.cell? ⟨b.p, 1, none⟩ = some (.slice (some ⟨b.g, 0, none⟩) x.k x.k)) (first | exact hS0 | exact hS5)
          (first
            | (go_at_call 10; refine cF.mono ?_; rintro e w5 ⟨rfl, hB5a⟩; have hB5 : Below wr.heap.size wr w5 := (Below.refl _ wr).drew.trans hB5a; have hBW5 := HB.out.trans (hB5.mono HB.out.size); have h6 := HM.out.ask hBW5; have hth5 := (h6.th _ x b HX.out.1 HX.out.2).1; have hS5 : w5.cell? ⟨b.p, 0, none⟩ = some (.int .i64 (x.r : Int)) ∧ w5.cell? ⟨b.p, 1, none⟩ = some (.slice (some ⟨b.g, 0, none⟩) x.k x.k) := ⟨hth5.cell 0, hth5.cell 1⟩))
        have f5 := hth5.cell 1
        unfold thingV at f5
        simp only [List.getElem?_toArray, List.getElem?_cons_succ, List.getElem?_cons_zero] at f5
        have HBW5 := Lib.hid hBW5
        clear cF hS0 hS5 h6 hth5 hB5 hB5a hBW5 e1
        go_wp2_with fail
        go_loopw [56] (fun v56 wr => CrA w3 x.k v56 wr) (fun v56 _ => x.k - (intOf v56).toNat)
        case atStart => exact ⟨0, Nat.zero_le _, rfl, HBW5.out⟩
        case round =>
          clear f5
          obtain ⟨j, hj, rfl, hBW⟩ := hrel
          have hj0 : (0 : Int) ≤ (j : Int) := by omega
          have h7 := HM.out.ask hBW
          have hO7 := h7.ob.at_ _ x HX.out.1
          obtain ⟨hth7, hrw7⟩ := h7.th _ x b HX.out.1 HX.out.2
          have f0 := hth7.cell 0
          have f2 := hth7.cell 2
          unfold thingV at f0 f2
          simp only [List.getElem?_toArray, List.getElem?_cons_succ, List.getElem?_cons_zero] at f0 f2
          by_cases hjk : j < x.k
          · have hj1 : (j : Int) < (x.k : Int) := by omega
            have d := hrw7.cell j
            rw [row_get _ hjk] at d
            have cF := ceFieldOk h7.ar hO7 j hjk (x.F j) rfl
            have HB7 := Lib.hid hBW
            generalize x.F j = y at *
            clear h7 hO7 hth7 hrw7 hBW f2
            go_wp2_with fail
            refine cF.mono ?_
            rintro e w8 ⟨rfl, hB8⟩
            have HB8 := Lib.hid (HB7.out.trans (hB8.mono HB7.out.size))
            clear cF hB8 f0 d
            go_wp2_with fail
            go_roundw
            case rel => exact ⟨j + 1, hjk, by go_num, HB8.out⟩
            case measure => simp [intOf]; omega
          · have hj1 : ¬ (j : Int) < (x.k : Int) := by omega
            have cS := ceScalarOk h7.ar hO7
            have HB7 := Lib.hid hBW
            clear h7 hO7 hth7 hrw7 hBW hjk hj hj0
            go_wp2_with fail
            refine cS.mono ?_
            rintro e w8 ⟨rfl, hB8⟩
            have hBW8 := HB7.out.trans (hB8.mono HB7.out.size)
            have h9 := HM.out.ask hBW8
            have f9 := (h9.th _ x b HX.out.1 HX.out.2).1.cell 2
            unfold thingV at f9
            simp only [List.getElem?_toArray, List.getElem?_cons_succ, List.getElem?_cons_zero] at f9
            have HB8 := Lib.hid hBW8
            clear cS hB8 f0 f2 hBW8 h9
            go_wp2_with fail
            go_roundw
            case rel => exact ⟨i + 1, hlt, by go_num, HB8.out⟩
            case measure => simp [intOf]; omega
      · have hi1 : ¬ (i : Int) < (bs.length : Int) := by omega
        have hbl := (HM.out.ask hBW).ar.below
        clear hlt hi hi0
        go_wp2_with fail
        go_ret
        exact ⟨rfl, hbl⟩
end Go.Proofs.YtoemfehlnnbjdaaDoor
