/- PhaseRuns, walked, at this seat's numbers. -/
import Derived.Test.YtacnikibmhlmiaaPhG
import Derived.Test.YtacnikibmhlmiaaArgsQ
import Derived.Deep.QuietTactic
import Derived.BigQuiet
import Derived.Deep.RegionWith
import Derived.Deep.DeepCutAuto
import Derived.Deep.CutBlock
namespace Go.Proofs.Ytacnikibmhlmiaa
open Go Go.RowKit
set_option linter.unusedSimpArgs false
set_option linter.unusedVariables false
attribute [local go_sem] Oper.semAt_some

theorem u8_and_m (x : Int) (m : Nat) (hm : m < 256) : ∃ r : Nat, r ≤ m ∧ bits .and .u8 x (m : Int) = (r : Int) := by
  refine ⟨(BitVec.ofInt 8 x).toNat &&& m, Nat.and_le_right, ?_⟩
  have h2 : (BitVec.ofInt 8 (m : Int)).toNat = m := by
    rw [BitVec.ofInt_natCast, BitVec.toNat_ofNat]; exact Nat.mod_eq_of_lt (by omega)
  show IntKind.u8.wrap ((BitVec.ofInt 8 x &&& BitVec.ofInt 8 (m : Int)).toNat : Int) = _
  rw [BitVec.toNat_and, h2]
  have h3 : (BitVec.ofInt 8 x).toNat &&& m ≤ m := Nat.and_le_right
  generalize (BitVec.ofInt 8 x).toNat &&& m = r at *
  simp [IntKind.wrap, IntKind.bits, IntKind.signed]
  omega
/-- A byte's rest by 7, and what is left of it by 3. -/
theorem due_of {k n : Int} (h1 : (Lit.int .u8 k).wf = true) : ∃ kind t : Nat, kind < 7 ∧ t < 4 ∧ k.tmod 7 = (kind : Int) ∧ bits .and .u8 n 3 = (t : Int) ∧ 0 ≤ k ∧ k < 256 := by
  have hk : 0 ≤ k ∧ k < 256 := by
    simp [Lit.wf, IntKind.min, IntKind.max, IntKind.signed, IntKind.bits] at h1
    omega
  obtain ⟨t, ht, he⟩ := u8_and_m n 3 (by decide)
  refine ⟨(k % 7).toNat, t, by omega, by omega, ?_, he, hk⟩
  rw [Int.tmod_eq_emod_of_nonneg hk.1]; omega

/-- A machine, and a model that says the same. -/
structure PhMo (B p m : Nat) (S M : Phs) (wb wr : World) : Prop where
  ph : PhIn B p S wb wr
  mo : MoAt wr m M
  lo : B ≤ m
  ne : m ≠ p
  rel : Phs.Rel S M
section
variable {B p m : Nat} {S M S' M' : Phs} {wb wr w' : World}
theorem PhMo.ask (h : PhMo B p m S M wb wr) (hB : Below wr.heap.size wr w') : PhMo B p m S M wb w' :=
  ⟨h.ph.ask hB, h.mo.turn (Turn.ofBelow hB) (fun e => by have := h.mo.lt; omega), h.lo, h.ne, h.rel⟩
theorem PhMo.alloc (h : PhMo B p m S M wb wr) (o : Obj) : PhMo B p m S M wb (wr.alloc o) := h.ask ((Below.refl _ wr).alloc (Nat.le_refl _) o)
theorem PhMo.drew (h : PhMo B p m S M wb wr) : PhMo B p m S M wb wr.drew := h.ask (Below.refl _ wr).drew
theorem PhMo.drewN (h : PhMo B p m S M wb wr) (n : Nat) : PhMo B p m S M wb (wr.drewN n) :=
  ⟨h.ph.drewN n, h.mo.turn ((Turn.refl (fun _ => False) wr).drewN n) (fun e => e), h.lo, h.ne, h.rel⟩
end
/-- Between a call of the machine and the same of the model. -/
structure PhMoX (B p m : Nat) (S M : Phs) (wb wr : World) : Prop where
  ph : PhIn B p S wb wr
  mo : MoAt wr m M
  lo : B ≤ m
  ne : m ≠ p
theorem PhMoX.both {B p m : Nat} {S M : Phs} {wb wr : World} (h : PhMoX B p m S M wb wr) (r : Phs.Rel S M) : PhMo B p m S M wb wr := ⟨h.ph, h.mo, h.lo, h.ne, r⟩
section
variable {B p m : Nat} {S M S' M' : Phs} {wb wr w' : World}
theorem PhMoX.drew (h : PhMoX B p m S M wb wr) : PhMoX B p m S M wb wr.drew := ⟨h.ph.drew, h.mo.drew, h.lo, h.ne⟩
theorem PhMo.x (h : PhMo B p m S M wb wr) : PhMoX B p m S M wb wr := ⟨h.ph, h.mo, h.lo, h.ne⟩
theorem PhMoX.done (h : PhMoX B p m S M wb wr) (hr : S.rounds ≤ 1000000) {kind t : Nat} (hk : kind < 7) (ht : t < 4) : Calls Try.prog 11 #[.pointer (some ⟨p, 0, none⟩), .int .i64 (kind : Int), .int .i64 (t : Int)] wr fun e w' =>
    e = .returned (.bool (S.doB kind t)) ∧ PhMoX B p m (S.doS kind t) M wb w' := by
  refine (h.ph.at_.doneC hr hk ht).mono ?_
  rintro e w1 ⟨rfl, k, T⟩
  exact ⟨rfl, h.ph.step k T, h.mo.turn T (fun e => h.ne e), h.lo, h.ne⟩
theorem PhMoX.do_ (h : PhMoX B p m S M wb wr) (hr : M.rounds ≤ 1000000) {kind t : Nat} (hk : kind < 7) (ht : t < 4) : Calls Try.prog 12 #[.pointer (some ⟨m, 0, none⟩), .int .i64 (kind : Int), .int .i64 (t : Int)] wr fun e w' =>
    e = .returned (.bool (M.doB kind t)) ∧ PhMoX B p m S (M.moS kind t) wb w' := by
  refine (h.mo.doC hr hk ht).mono ?_
  rintro e w1 ⟨rfl, k, T⟩
  exact ⟨rfl, h.ph.turned T (fun i e => ⟨by rw [show i = m from e]; exact h.lo, fun e2 => h.ne ((show i = m from e).symm.trans e2)⟩), k, h.lo, h.ne⟩
end
def HeldT (_ : World) : Prop := True
def RunP (B p m : Nat) (len : Nat) (wb : World) (v20 : Value) (wr : World) : Prop :=
  ∃ (i : Nat) (S M : Phs), i ≤ len ∧ v20 = .int .i64 (i : Int) ∧ S.rounds ≤ i ∧ PhMo B p m S M wb wr
def RunQ (B p m : Nat) (S M : Phs) (wb : World) (v59 : Value) (wr : World) : Prop :=
  ∃ j : Nat, j ≤ 4 ∧ v59 = .int .i64 (j : Int) ∧ PhMo B p m S M wb wr

set_option maxRecDepth 100000 in
set_option maxHeartbeats 8000000 in
theorem pruns_true (a0 : Option Addr) (len cap : Nat) (K N : Nat → Int) (w : World) (_ : len ≤ 9223372036854775807) (hZ : DuesAt w a0 len K N) :
    Calls Try.prog 3 #[.slice a0 len cap] w fun e w' => e = .returned (.bool true) ∧ Below w.heap.size w w' := by
  have HZ := Lib.hid hZ
  clear hZ
  have hf := phfit_true w
  go_enter Try.func3, Try.ntmps3
  go_wp2_with fail
  refine hf.mono ?_
  rintro e w1 ⟨rfl, hB⟩
  clear hf
  by_cases hbig : 200 < (len : Int)
  · go_wp2_with fail
    go_ret
    exact ⟨rfl, hB⟩
  have hbd : decide (200 < (len : Int)) = false := by simpa using hbig
  go_wp2_with fail
  refine (phIn_new (B := w.heap.size) (wb := w) (wr := w1) hB (Nat.le_refl _)).mono ?_
  rintro e w2 ⟨p, rfl, h2, _⟩
  have h3 : PhMo w.heap.size p w2.heap.size Phs.init Phs.init w (w2.alloc (.cells #[.int .i64 0, .int .i64 0, .bool false, .bool false, .bool false, .bool false, .bool false, .bool false, .bool false, .bool false, .bool false, .bool false, .bool false, .bool false] 29)) :=
    ⟨h2.alloc _, Blk.new w2 _ _, h2.size, fun e => by have := h2.at_.lt; omega, ⟨rfl, rfl, rfl, rfl, fun _ => rfl⟩⟩
  have H3 := Lib.hid h3
  clear hB h2 h3
  go_wp2_with fail
  generalize w2.alloc (.cells #[.int .i64 0, .int .i64 0, .bool false, .bool false, .bool false, .bool false, .bool false, .bool false, .bool false, .bool false, .bool false, .bool false, .bool false, .bool false] 29) = W3 at *
  generalize w2.heap.size = m at *
  clear hbd
  go_loopw [20] (fun v20 wr => RunP w.heap.size p m len w v20 wr) (fun v20 _ => len - (intOf v20).toNat)
  case atStart => exact ⟨0, _, _, Nat.zero_le _, rfl, Nat.le_refl _, H3.out⟩
  case round =>
    clear H3
    obtain ⟨i, S, M, hi, rfl, hSr, h1⟩ := hrel
    have hi0 : (0 : Int) ≤ (i : Int) := by omega
    by_cases hlt : i < len
    · have hi1 : (i : Int) < (len : Int) := by omega
      obtain ⟨bk, off, rfl, hbk, hq0, hq1, hw0, hw1⟩ := HZ.out i hlt
      have hc0 := (h1.ph.below.cell (p := ⟨bk, off + i * 2, none⟩) hbk).trans hq0
      have hc1 := (h1.ph.below.cell (p := ⟨bk, off + i * 2 + 1, none⟩) hbk).trans hq1
      generalize K i = kd at *
      generalize N i = td at *
      obtain ⟨kind, t, hk7, ht4, hke, hte, hk0, hk9⟩ := due_of (n := td) hw0
      clear hq0 hq1 hw0 hw1 hbk
      have h2 := h1.alloc (.cells #[.int .u8 kd, .int .u8 td] 31)
      have hbx := Blk.new wr #[.int .u8 kd, .int .u8 td] 31
      have hbx0 := hbx.cell 0
      have hbx1 := hbx.cell 1
      simp only [List.getElem?_toArray, List.getElem?_cons_zero, List.getElem?_cons_succ] at hbx0 hbx1
      have hwk : IntKind.i64.wrap (kind : Int) = (kind : Int) := IntWalk.i64_in _ (by omega)
      have hwt : IntKind.i64.wrap (t : Int) = (t : Int) := IntWalk.i64_in _ (by omega)
      clear h1 hbx
      have H2 := Lib.hid h2
      clear h2
      go_wp2_with fail
      go_quiet (fail)
      have h3 := H2.out.drewN nq
      generalize (wr.alloc (.cells #[.int .u8 kd, .int .u8 td] 31)).drewN nq = W at *
      clear hbx0 hbx1 hwk hwt hke hte hc0 hc1 hk0 hk9 H2
      have hrel := h3.rel
      have hx := h3.x.drew
      clear h3
      obtain ⟨S2, hS2⟩ : ∃ S2, S.doS kind t = S2 := ⟨_, rfl⟩
      obtain ⟨M2, hM2⟩ : ∃ M2, M.moS kind t = M2 := ⟨_, rfl⟩
      obtain ⟨bq, hbq⟩ : ∃ bq, S.doB kind t = bq := ⟨_, rfl⟩
      have hbm : M.doB kind t = bq := by rw [← hrel.doB hk7 t]; exact hbq
      have hrel2 : Phs.Rel S2 M2 := by rw [← hS2, ← hM2]; exact hrel.doS hk7 t
      have hr2 : S2.rounds ≤ i + 1 := by rw [← hS2]; have := Phs.doS_rounds S hk7 t; omega
      have hrM : M.rounds ≤ 1000000 := by rw [← hrel.rounds]; omega
      have cD : ∀ (Mx : Phs) (V : World), PhMoX w.heap.size p m S Mx w V → Calls Try.prog 11 #[.pointer (some ⟨p, 0, none⟩), .int .i64 (kind : Int), .int .i64 (t : Int)] V fun e w' => e = .returned (.bool bq) ∧ PhMoX w.heap.size p m S2 Mx w w' := fun Mx V hV => by
        rw [← hbq, ← hS2]; exact hV.done (by omega) hk7 ht4
      have cM : ∀ (Sx : Phs) (V : World), PhMoX w.heap.size p m Sx M w V → Calls Try.prog 12 #[.pointer (some ⟨m, 0, none⟩), .int .i64 (kind : Int), .int .i64 (t : Int)] V fun e w' => e = .returned (.bool bq) ∧ PhMoX w.heap.size p m Sx M2 w w' := fun Sx V hV => by
        rw [← hbm, ← hM2]; exact hV.do_ hrM hk7 ht4
      have HD := Lib.hid cD
      have HM := Lib.hid cM
      have HR := Lib.hid hrel2
      clear cD cM hrel hrel2 hS2 hM2 hbq hbm hrM hk7 ht4 hSr
      go_upto_region 10 with fail
      go_cut [58] (fun v58 wx => v58 = .bool false ∧ PhMo w.heap.size p m S2 M2 w wx)
      case first =>
        go_region_with (first
            | (go_at_call 11; first
                | (refine (HD.out _ _ hb6).mono ?_; rintro e w5 ⟨rfl, ha5⟩; have hfin := ha5.both HR.out; have c0 : w5.cell? ⟨m, 0, none⟩ = some (.int .i64 (S2.now : Int)) := (by rw [HR.out.now]; exact hfin.mo.c0); have c1 : w5.cell? ⟨m, 1, none⟩ = some (.int .i64 (S2.rounds : Int)) := (by rw [HR.out.rounds]; exact hfin.mo.c1); have cN := hfin.ph.at_.nowC; have cR := hfin.ph.at_.roundsC)
                | (refine (HD.out _ _ hx).mono ?_; rintro e w5 ⟨rfl, ha5⟩))
            | (go_at_call 12; first
                | (refine (HM.out _ _ ha5).mono ?_; rintro e w6 ⟨rfl, hb6⟩; have hfin := hb6.both HR.out; have c0 : w6.cell? ⟨m, 0, none⟩ = some (.int .i64 (S2.now : Int)) := (by rw [HR.out.now]; exact hfin.mo.c0); have c1 : w6.cell? ⟨m, 1, none⟩ = some (.int .i64 (S2.rounds : Int)) := (by rw [HR.out.rounds]; exact hfin.mo.c1); have cN := hfin.ph.at_.nowC; have cR := hfin.ph.at_.roundsC)
                | (refine (HM.out _ _ hx).mono ?_; rintro e w6 ⟨rfl, hb6⟩))
            | (go_at_call 13; refine cN.mono ?_; rintro e w7 ⟨rfl, rfl⟩)
            | (go_at_call 14; refine cR.mono ?_; rintro e w7 ⟨rfl, rfl⟩))
        all_goals
          have HF := Lib.hid hfin
          go_wp2_with fail
          go_meet
          case rel => exact ⟨rfl, HF.out⟩
      case rest =>
      obtain ⟨rfl, h4⟩ := hcut
      have H4 := Lib.hid h4
      clear HD HM hx h4
      go_wp2_with fail
      go_loopw [9, 59] (fun _ v59 wr => RunQ w.heap.size p m S2 M2 w v59 wr) (fun _ v59 _ => 4 - (intOf v59).toNat)
      case atStart => exact ⟨0, by omega, rfl, H4.out⟩
      case round =>
        clear H4
        obtain ⟨j, hj, rfl, h5⟩ := hrel
        by_cases hj4 : j < 4
        · have d1 : (j : Int) < 4 := by omega
          have d0 : (0 : Int) ≤ (j : Int) := by omega
          have hd := h5.drew
          have cA := hd.ph.at_.armedC hj4
          have cW := hd.ph.at_.wantsC hj4
          have cV := hd.mo.wantsC hj4
          have hm : wr.drew.cell? ⟨m, 6 + j, none⟩ = some (.bool (S2.a j)) := by rw [HR.out.a]; exact hd.mo.cA hj4
          rw [← HR.out.wants j] at cV
          obtain ⟨ba, hba⟩ : ∃ ba, S2.a j = ba := ⟨_, rfl⟩
          obtain ⟨bw, hbw⟩ : ∃ bw, S2.wants j = bw := ⟨_, rfl⟩
          rw [hba] at cA hm
          rw [hbw] at cW cV
          have HD := Lib.hid hd
          clear hd hba hbw h5
          go_wp2_with fail
          go_region_held3 (fun W' => W'.cell? ⟨m, 6 + j, none⟩ = some (.bool ba)) (exact hm)
            (first
              | (go_at_call 15; refine cA.mono ?_; rintro e w7 ⟨rfl, rfl⟩)
              | (go_at_call 16; refine cW.mono ?_; rintro e w7 ⟨rfl, rfl⟩)
              | (go_at_call 17; refine cV.mono ?_; rintro e w7 ⟨rfl, rfl⟩))
          all_goals
            clear cA cW cV hm
            go_wp2_with fail
            go_roundw
            case rel => exact ⟨j + 1, by omega, by go_num, HD.out⟩
            case measure => simp [intOf]; omega
        · obtain rfl : j = 4 := by omega
          have H5 := Lib.hid h5
          clear h5 hj hj4
          go_wp2_with fail
          go_roundw
          case rel => exact ⟨i + 1, S2, M2, hlt, by go_num, hr2, H5.out⟩
          case measure => simp [intOf]; omega
    · obtain rfl : i = len := by omega
      have hbl := h1.ph.below
      clear h1 hlt hi HZ hSr
      go_wp2_with fail
      go_ret
      exact ⟨rfl, hbl⟩
end Go.Proofs.Ytacnikibmhlmiaa
