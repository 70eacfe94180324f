/- PhaseArms, walked, at this seat's numbers. -/
import Derived.Test.YtacnikibmhlmiaaPhR
namespace Go.Proofs.Ytacnikibmhlmiaa
open Go Go.RowKit
set_option linter.unusedSimpArgs false
set_option linter.unusedVariables false
attribute [local go_sem] Oper.semAt_some

def lvCells (l : Nat → Bool) : Array Value := #[.bool (l 0), .bool (l 1), .bool (l 2), .bool (l 3)]
/-- A machine, and four Bools beside it. -/
structure PhLv (B p b : Nat) (S : Phs) (l : Nat → Bool) (wb wr : World) : Prop where
  ph : PhIn B p S wb wr
  lv : Blk wr b (lvCells l) 27
  lo : B ≤ b
  ne : b ≠ p
section
variable {B p b : Nat} {S S' : Phs} {l l' : Nat → Bool} {wb wr w' : World}
theorem lvCell {w : World} {b : Nat} {T : TypeId} (h : Blk w b (lvCells l) T) {t : Nat} (ht : t < 4) : w.cell? ⟨b, t, none⟩ = some (.bool (l t)) := by
  obtain rfl | rfl | rfl | rfl : t = 0 ∨ t = 1 ∨ t = 2 ∨ t = 3 := by omega
  all_goals exact Blk.cell h _
theorem lvSet {w : World} {b : Nat} {T : TypeId} (h : Blk w b (lvCells l) T) {t : Nat} (ht : t < 4) (x : Bool) : Blk (w.setCell ⟨b, t, none⟩ (.bool x)) b (lvCells (setB l t x)) T := by
  have h1 := Blk.setAt h t (.bool x)
  obtain rfl | rfl | rfl | rfl : t = 0 ∨ t = 1 ∨ t = 2 ∨ t = 3 := by omega
  all_goals exact h1.is (by simp [lvCells, setB])
theorem PhLv.ask (h : PhLv B p b S l wb wr) (hB : Below wr.heap.size wr w') : PhLv B p b S l wb w' :=
  ⟨h.ph.ask hB, h.lv.turn (Turn.ofBelow hB) (fun e => by have := h.lv.lt; omega), h.lo, h.ne⟩
theorem PhLv.alloc (h : PhLv B p b S l wb wr) (o : Obj) : PhLv B p b S l wb (wr.alloc o) := h.ask ((Below.refl _ wr).alloc (Nat.le_refl _) o)
theorem PhLv.drewN (h : PhLv B p b S l wb wr) (n : Nat) : PhLv B p b S l wb (wr.drewN n) :=
  ⟨h.ph.drewN n, h.lv.turn ((Turn.refl (fun _ => False) wr).drewN n) (fun e => e), h.lo, h.ne⟩
theorem PhLv.step (h : PhLv B p b S l wb wr) (k : PhAt w' p S') (T : Turn (fun k => k = p) wr w') : PhLv B p b S' l wb w' :=
  ⟨h.ph.step k T, h.lv.turn T (fun e => h.ne e), h.lo, h.ne⟩
theorem PhLv.set (h : PhLv B p b S l wb wr) {t : Nat} (ht : t < 4) (x : Bool) : PhLv B p b S (setB l t x) wb (wr.setCell ⟨b, t, none⟩ (.bool x)) :=
  ⟨h.ph.turned ((Turn.refl (fun k => k = b) wr).set _ _ (.inr rfl)) (fun k e => by rw [show k = b from e]; exact ⟨h.lo, h.ne⟩), lvSet h.lv ht x, h.lo, h.ne⟩
theorem PhLv.is (h : PhLv B p b S l wb wr) (e : l = l') : PhLv B p b S l' wb wr := e ▸ h
end
def ArmP (B p b : Nat) (len : Nat) (wb : World) (v20 : Value) (wr : World) : Prop :=
  ∃ (i : Nat) (S : Phs), i ≤ len ∧ v20 = .int .i64 (i : Int) ∧ S.rounds ≤ i ∧ Phs.Arm S ∧ PhLv B p b S S.l wb wr
def ArmQ (B p b : Nat) (S : Phs) (wb : World) (v59 : Value) (wr : World) : Prop :=
  ∃ j : Nat, j ≤ 4 ∧ v59 = .int .i64 (j : Int) ∧ PhLv B p b S S.l wb wr

set_option maxRecDepth 100000 in
set_option maxHeartbeats 8000000 in
theorem parms_true (a0 : Option Addr) (len cap : Nat) (K N : Nat → Int) (w : World) (_ : len ≤ 9223372036854775807) (hZ : DuesAt w a0 len K N) :
    Calls Try.prog 4 #[.slice a0 len cap] w fun e w' => e = .returned (.bool true) ∧ Below w.heap.size w w' := by
  have HZ := Lib.hid hZ
  clear hZ
  have hf := phfit_true w
  go_enter Try.func4, Try.ntmps4
  go_wp2_with fail
  refine hf.mono ?_
  rintro e w1 ⟨rfl, hB⟩
  clear hf
  by_cases hbig : 200 < (len : Int)
  · go_wp2_with fail
    go_ret
    exact ⟨rfl, hB⟩
  have hbd : decide (200 < (len : Int)) = false := by simpa using hbig
  go_wp2_with fail
  refine (phIn_new (B := w.heap.size) (wb := w) (wr := w1) hB (Nat.le_refl _)).mono ?_
  rintro e w2 ⟨p, rfl, h2, _⟩
  have h3 : PhLv w.heap.size p w2.heap.size Phs.init Phs.init.l w (w2.alloc (.cells #[.bool false, .bool false, .bool false, .bool false] 27)) :=
    ⟨h2.alloc _, Blk.new w2 _ _, h2.size, fun e => by have := h2.at_.lt; omega⟩
  have H3 := Lib.hid h3
  clear hB h2 h3
  go_wp2_with fail
  generalize w2.alloc (.cells #[.bool false, .bool false, .bool false, .bool false] 27) = W3 at *
  generalize w2.heap.size = m at *
  clear hbd
  go_loopw [20] (fun v20 wr => ArmP w.heap.size p m len w v20 wr) (fun v20 _ => len - (intOf v20).toNat)
  case atStart => exact ⟨0, _, Nat.zero_le _, rfl, Nat.le_refl _, Phs.Arm.init, H3.out⟩
  case round =>
    clear H3
    obtain ⟨i, S, hi, rfl, hSr, hAr, h1⟩ := hrel
    have hi0 : (0 : Int) ≤ (i : Int) := by omega
    by_cases hlt : i < len
    · have hi1 : (i : Int) < (len : Int) := by omega
      obtain ⟨bk, off, rfl, hbk, hq0, hq1, hw0, hw1⟩ := HZ.out i hlt
      have hc0 := (h1.ph.below.cell (p := ⟨bk, off + i * 2, none⟩) hbk).trans hq0
      have hc1 := (h1.ph.below.cell (p := ⟨bk, off + i * 2 + 1, none⟩) hbk).trans hq1
      generalize K i = kd at *
      generalize N i = td at *
      obtain ⟨kind, t, hk7, ht4, hke, hte, hk0, hk9⟩ := due_of (n := td) hw0
      clear hq0 hq1 hw0 hw1 hbk
      have h2 := h1.alloc (.cells #[.int .u8 kd, .int .u8 td] 31)
      have hbx := Blk.new wr #[.int .u8 kd, .int .u8 td] 31
      have hbx0 := hbx.cell 0
      have hbx1 := hbx.cell 1
      simp only [List.getElem?_toArray, List.getElem?_cons_zero, List.getElem?_cons_succ] at hbx0 hbx1
      have hwk : IntKind.i64.wrap (kind : Int) = (kind : Int) := IntWalk.i64_in _ (by omega)
      have hwt : IntKind.i64.wrap (t : Int) = (t : Int) := IntWalk.i64_in _ (by omega)
      have hkI : (kind : Int) < 7 := by omega
      have htI : (t : Int) < 4 := by omega
      have htI0 : (0 : Int) ≤ (t : Int) := by omega
      clear h1 hbx
      have cN := h2.ph.at_.nowC
      have H2 := Lib.hid h2
      clear h2
      go_wp2_with fail
      refine cN.mono ?_
      rintro e w3 ⟨rfl, rfl⟩
      clear cN
      go_wp2_with fail
      go_quiet (fail)
      have h3 := H2.out.drewN nq
      generalize (wr.alloc (.cells #[.int .u8 kd, .int .u8 td] 31)).drewN nq = W at *
      clear hbx0 hbx1 hwk hwt hke hte hc0 hc1 hk0 hk9 H2
      obtain ⟨hn4, hnn⟩ := Phs.doS_now hAr.far hk7 t
      obtain ⟨S2, hS2⟩ : ∃ S2, S.doS kind t = S2 := ⟨_, rfl⟩
      have hl2 : S2.l = Phs.liveOf S.l kind t := by rw [← hS2]; exact Phs.doS_l S hk7 t
      have hAr2 : Phs.Arm S2 := by rw [← hS2]; exact hAr.doS hk7 ht4
      have hr2 : S2.rounds ≤ i + 1 := by rw [← hS2]; have := Phs.doS_rounds S hk7 t; omega
      have cD := h3.ph.at_.doneC (by omega) hk7 ht4
      rw [hS2] at cD hn4 hnn
      have HL := Lib.hid hl2
      have HR := Lib.hid (And.intro hAr2 (And.intro hr2 (And.intro hn4 hnn)))
      clear hl2 hr2 hn4 hnn hS2 hSr hAr2
      generalize S.doB kind t = bq at *
      go_wp2_with fail
      refine cD.mono ?_
      rintro e w4 ⟨rfl, k4, T4⟩
      have h4 := h3.step k4 T4
      have hy := lvCell h4.lv ht4
      have hz := h4.lv.free t
      have H4 := Lib.hid h4
      clear cD h3 k4 T4 h4
      go_upto_if 39 with fail
      go_cut [] (fun wx => PhLv w.heap.size p m S2 S2.l w wx)
      case first =>
        by_cases k2 : kind = 2
        · subst k2
          go_wp2_with fail
          go_meet
          case rel => exact (H4.out.set ht4 true).is HL.out.symm
        · by_cases k3 : kind = 3
          · subst k3
            go_wp2_with fail
            go_meet
            case rel => exact (H4.out.set ht4 false).is HL.out.symm
          · have e2 : ((kind : Int) == 2) = false := by simp; omega
            have e3 : ((kind : Int) == 3) = false := by simp; omega
            have hs : Phs.liveOf S.l kind t = S.l := by unfold Phs.liveOf; rw [if_neg k2, if_neg k3]
            have HS := Lib.hid hs
            clear k2 k3 hs
            go_wp2_with fail
            go_meet
            case rel => exact H4.out.is (by rw [HL.out, HS.out])
      case rest =>
      have h5 := hcut
      clear hcut hy hz H4 HL hkI htI htI0 hk7 ht4
      rename_i wc
      have cN := h5.ph.at_.nowC
      have H5 := Lib.hid h5
      clear h5
      go_wp2_with fail
      refine cN.mono ?_
      rintro e w5 ⟨rfl, rfl⟩
      clear cN
      go_upto_region 18 with fail
      go_cut [57] (fun v57 wx => v57 = .bool false ∧ wx = wc)
      case first =>
        have hs0 : (0 : Int) ≤ (S.now : Int) := by omega
        have hs4 : (S.now : Int) ≤ 4 := by have := hAr.far; omega
        by_cases hEq : S2.now = S.now
        · have e1 : ((S2.now : Int) != (S.now : Int)) = false := by simp; omega
          clear hEq hAr
          go_wp2_with fail
          go_meet
          case rel => exact ⟨rfl, rfl⟩
        · have e1 : ((S2.now : Int) != (S.now : Int)) = true := by simp; omega
          have e2 : ((S2.now : Int) != ((S.now : Int) + 1) % 5) = false := by
            rcases HR.out.2.2.2 with e | e
            · exact absurd e hEq
            · simp; omega
          clear hEq hAr
          go_wp2_with fail
          go_meet
          case rel => exact ⟨rfl, rfl⟩
      case rest =>
      obtain ⟨rfl, rfl⟩ := hcut
      go_wp2_with fail
      go_loopw [11, 58] (fun _ v58 wr => ArmQ w.heap.size p m S2 w v58 wr) (fun _ v58 _ => 4 - (intOf v58).toNat)
      case atStart => exact ⟨0, by omega, rfl, H5.out⟩
      case round =>
        clear H5 hAr
        obtain ⟨j, hj, rfl, h6⟩ := hrel
        by_cases hj4 : j < 4
        · have d1 : (j : Int) < 4 := by omega
          have d0 : (0 : Int) ≤ (j : Int) := by omega
          obtain ⟨ba, hba⟩ : ∃ ba, S2.a j = ba := ⟨_, rfl⟩
          obtain ⟨bl, hbl⟩ : ∃ bl, S2.l j = bl := ⟨_, rfl⟩
          obtain ⟨bw, hbw⟩ : ∃ bw, S2.wants j = bw := ⟨_, rfl⟩
          have cA : ∀ n, Calls Try.prog 15 #[.pointer (some ⟨p, 0, none⟩), .int .i64 (j : Int)] (wr.drewN n) fun e w' => e = .returned (.bool ba) ∧ ∃ m, w' = wr.drewN m := fun n => quiet_left (by rw [← hba]; exact (h6.drewN n).ph.at_.armedC hj4)
          have cW : ∀ n, Calls Try.prog 16 #[.pointer (some ⟨p, 0, none⟩), .int .i64 (j : Int)] (wr.drewN n) fun e w' => e = .returned (.bool bw) ∧ ∃ m, w' = wr.drewN m := fun n => quiet_left (by rw [← hbw]; exact (h6.drewN n).ph.at_.wantsC hj4)
          have hm : wr.cell? ⟨m, j, none⟩ = some (.bool bl) := by rw [← hbl]; exact lvCell h6.lv hj4
          have HA := Lib.hid cA
          have HW := Lib.hid cW
          have H6 := Lib.hid h6
          have hdead : bl = false → ba = false ∧ bw = false := fun e => by rw [← hba, ← hbw]; exact ⟨HR.out.1.dead j (hbl.trans e), HR.out.1.want (hbl.trans e)⟩
          have hon : S2.now = 2 ∨ S2.now = 3 → ba = bl := fun e => by rw [← hba, ← hbl]; exact HR.out.1.on e j
          have hoff : S2.now = 0 ∨ S2.now = 4 → ba = false := fun e => by rw [← hba]; exact HR.out.1.off e j
          have HF := Lib.hid (And.intro hdead (And.intro hon hoff))
          have hfar := HR.out.2.2.1
          clear cA cW h6 hba hbl hbw hdead hon hoff
          have hdd : ∀ c : Nat, S2.now = c → decide (2 ≤ (S2.now : Int)) = decide (2 ≤ c) ∧ decide ((S2.now : Int) ≤ 3) = decide (c ≤ 3) ∧ ((S2.now : Int) == 0) = decide (c = 0) ∧ ((S2.now : Int) == 4) = decide (c = 4) := fun c hc => by
            rw [hc]
            refine ⟨?_, ?_, ?_, ?_⟩
            · rw [decide_eq_decide]; omega
            · rw [decide_eq_decide]; omega
            · rw [Bool.eq_iff_iff]; simp
            · rw [Bool.eq_iff_iff]; simp; omega
          obtain hc | hc | hc | hc | hc : S2.now = 0 ∨ S2.now = 1 ∨ S2.now = 2 ∨ S2.now = 3 ∨ S2.now = 4 := by omega
          · obtain ⟨f1, f2, f3, f4⟩ := hdd 0 hc
            rw [show decide (2 ≤ 0) = false from rfl] at f1
            rw [show decide (0 ≤ 3) = true from rfl] at f2
            rw [show decide (0 = 0) = true from rfl] at f3
            rw [show decide (0 = 4) = false from rfl] at f4
            have eoff := HF.out.2.2 (.inl hc)
            subst eoff
            clear hdd hc hfar
            cases bl with
            | true =>
              go_wp2_with fail
              go_quiet ((first | (go_at_call 15; exact HA.out _) | (go_at_call 16; exact HW.out _)))
              go_wp2_with fail
              go_roundw
              case rel => exact ⟨j + 1, by omega, by go_num, H6.out.drewN _⟩
              case measure => simp [intOf]; omega
            | false =>
              obtain ⟨ea, ew⟩ := HF.out.1 rfl
              subst ew
              clear ea
              clear HF
              go_wp2_with fail
              go_quiet ((first | (go_at_call 15; exact HA.out _) | (go_at_call 16; exact HW.out _)))
              go_wp2_with fail
              go_roundw
              case rel => exact ⟨j + 1, by omega, by go_num, H6.out.drewN _⟩
              case measure => simp [intOf]; omega
          · obtain ⟨f1, f2, f3, f4⟩ := hdd 1 hc
            rw [show decide (2 ≤ 1) = false from rfl] at f1
            rw [show decide (1 ≤ 3) = true from rfl] at f2
            rw [show decide (1 = 0) = false from rfl] at f3
            rw [show decide (1 = 4) = false from rfl] at f4
            clear hdd hc hfar
            cases bl with
            | true =>
              go_wp2_with fail
              go_quiet ((first | (go_at_call 15; exact HA.out _) | (go_at_call 16; exact HW.out _)))
              go_wp2_with fail
              go_roundw
              case rel => exact ⟨j + 1, by omega, by go_num, H6.out.drewN _⟩
              case measure => simp [intOf]; omega
            | false =>
              obtain ⟨ea, ew⟩ := HF.out.1 rfl
              subst ew
              subst ea
              clear HF
              go_wp2_with fail
              go_quiet ((first | (go_at_call 15; exact HA.out _) | (go_at_call 16; exact HW.out _)))
              go_wp2_with fail
              go_roundw
              case rel => exact ⟨j + 1, by omega, by go_num, H6.out.drewN _⟩
              case measure => simp [intOf]; omega
          · obtain ⟨f1, f2, f3, f4⟩ := hdd 2 hc
            rw [show decide (2 ≤ 2) = true from rfl] at f1
            rw [show decide (2 ≤ 3) = true from rfl] at f2
            rw [show decide (2 = 0) = false from rfl] at f3
            rw [show decide (2 = 4) = false from rfl] at f4
            have eon := (HF.out.2.1 (.inl hc)).symm
            subst eon
            clear hdd hc hfar
            cases bl with
            | true =>
              go_wp2_with fail
              go_quiet ((first | (go_at_call 15; exact HA.out _) | (go_at_call 16; exact HW.out _)))
              go_wp2_with fail
              go_roundw
              case rel => exact ⟨j + 1, by omega, by go_num, H6.out.drewN _⟩
              case measure => simp [intOf]; omega
            | false =>
              obtain ⟨ea, ew⟩ := HF.out.1 rfl
              subst ew
              clear ea
              clear HF
              go_wp2_with fail
              go_quiet ((first | (go_at_call 15; exact HA.out _) | (go_at_call 16; exact HW.out _)))
              go_wp2_with fail
              go_roundw
              case rel => exact ⟨j + 1, by omega, by go_num, H6.out.drewN _⟩
              case measure => simp [intOf]; omega
          · obtain ⟨f1, f2, f3, f4⟩ := hdd 3 hc
            rw [show decide (2 ≤ 3) = true from rfl] at f1
            rw [show decide (3 ≤ 3) = true from rfl] at f2
            rw [show decide (3 = 0) = false from rfl] at f3
            rw [show decide (3 = 4) = false from rfl] at f4
            have eon := (HF.out.2.1 (.inr hc)).symm
            subst eon
            clear hdd hc hfar
            cases bl with
            | true =>
              go_wp2_with fail
              go_quiet ((first | (go_at_call 15; exact HA.out _) | (go_at_call 16; exact HW.out _)))
              go_wp2_with fail
              go_roundw
              case rel => exact ⟨j + 1, by omega, by go_num, H6.out.drewN _⟩
              case measure => simp [intOf]; omega
            | false =>
              obtain ⟨ea, ew⟩ := HF.out.1 rfl
              subst ew
              clear ea
              clear HF
              go_wp2_with fail
              go_quiet ((first | (go_at_call 15; exact HA.out _) | (go_at_call 16; exact HW.out _)))
              go_wp2_with fail
              go_roundw
              case rel => exact ⟨j + 1, by omega, by go_num, H6.out.drewN _⟩
              case measure => simp [intOf]; omega
          · obtain ⟨f1, f2, f3, f4⟩ := hdd 4 hc
            rw [show decide (2 ≤ 4) = true from rfl] at f1
            rw [show decide (4 ≤ 3) = false from rfl] at f2
            rw [show decide (4 = 0) = false from rfl] at f3
            rw [show decide (4 = 4) = true from rfl] at f4
            have eoff := HF.out.2.2 (.inr hc)
            subst eoff
            clear hdd hc hfar
            cases bl with
            | true =>
              go_wp2_with fail
              go_quiet ((first | (go_at_call 15; exact HA.out _) | (go_at_call 16; exact HW.out _)))
              go_wp2_with fail
              go_roundw
              case rel => exact ⟨j + 1, by omega, by go_num, H6.out.drewN _⟩
              case measure => simp [intOf]; omega
            | false =>
              obtain ⟨ea, ew⟩ := HF.out.1 rfl
              subst ew
              clear ea
              clear HF
              go_wp2_with fail
              go_quiet ((first | (go_at_call 15; exact HA.out _) | (go_at_call 16; exact HW.out _)))
              go_wp2_with fail
              go_roundw
              case rel => exact ⟨j + 1, by omega, by go_num, H6.out.drewN _⟩
              case measure => simp [intOf]; omega
        · obtain rfl : j = 4 := by omega
          have H6 := Lib.hid h6
          clear h6 hj hj4
          go_wp2_with fail
          go_roundw
          case rel => exact ⟨i + 1, S2, hlt, by go_num, HR.out.2.1, HR.out.1, H6.out⟩
          case measure => simp [intOf]; omega
    · obtain rfl : i = len := by omega
      have hbl := h1.ph.below
      clear h1 hlt hi HZ hSr hAr
      go_wp2_with fail
      go_ret
      exact ⟨rfl, hbl⟩
end Go.Proofs.Ytacnikibmhlmiaa
