/- CardEdges, walked, at this seat's numbers. -/
import Derived.Test.YtlloanoohphgcaaCdF
namespace Go.Proofs.Ytlloanoohphgcaa
open Go Go.RowKit Go.Shelf Go.MuLone Go.RwLone
set_option linter.unusedSimpArgs false
set_option linter.unusedVariables false

theorem CardIn.far {B : Nat} {X : ArB} {C : CdB} {s : ArS} {S : Nat → Bool} {wb wr : World} (h : CardIn B X C s S wb wr) {b : Nat} {cs : Array Value} {T : TypeId} (hb : Blk wr b cs T) (h1 : T ≠ 34) (h2 : T ≠ 72) (h3 : T ≠ 111) : ¬ C.has b := by
  rintro (e | e | e)
  · have h4 := h.cd.head
    rw [← e] at h4
    exact blk_types hb h4 h1
  · obtain ⟨_, _, h4⟩ := SetIn.blk h.cd.set.2.2
    rw [← e] at h4
    exact blk_types hb h4 h2
  · have h4 := h.cd.set.2.2
    rw [e] at h4
    obtain ⟨_, _, ws, h5, _⟩ := h4
    exact blk_types hb h5 h3
theorem dirty_one {P p : Nat} (hp : p < P) {r : Int} (h1 : 32 * (p : Int) + 1 ≤ r) (h2 : r ≤ 32 * (p : Int) + 32) : dirtyS P (fun _ => false) r = fun j => false || decide (j = p) := by
  unfold dirtyS
  rw [if_pos (by omega)]
  funext j
  rw [show (r.toNat - 1) / 32 = p by omega]
theorem edge_none {P p : Nat} (hp : p < P) : dirtyS P (dirtyS P (fun _ => false) (32 * (p : Int))) (32 * (p : Int) + 33) p = false := by
  unfold dirtyS
  split <;> split <;> simp <;> omega
/-- Between the two words. -/
def EdRel (B : Nat) (X : ArB) (C : CdB) (P p bs : Nat) (wb : World) (v : Value) (wr : World) : Prop :=
  ∃ (i : Nat) (lo : Option Nat), i ≤ 2 ∧ v = .int .i64 (i : Int) ∧ CardIn B X (C.with lo) (.new P) (fun _ => false) wb wr ∧ Blk wr bs #[.int .i64 (32 * (p : Int) + 1), .int .i64 (32 * (p : Int) + 32)] 30

set_option maxRecDepth 100000 in
set_option maxHeartbeats 4000000 in
theorem edges_true (pages p0 : Int) (w : World) :
    Calls Try.prog 4 #[.int .i64 pages, .int .i64 p0] w fun e w' => e = .returned (.bool true) ∧ Below w.heap.size w w' := by
  have hf := cdfit_true w
  obtain ⟨q, hq, hqe⟩ := i64_and_mask pages 31 (by decide)
  replace hqe : bits .and .i64 pages 31 = (q : Int) := hqe
  obtain ⟨t, ht, hte⟩ := i64_and_mask p0 255 (by decide)
  replace hte : bits .and .i64 p0 255 = (t : Int) := hte
  obtain ⟨P, hP⟩ : ∃ P, P = q + 1 := ⟨_, rfl⟩
  have hPq : 1 + (q : Int) = (P : Int) := by omega
  obtain ⟨p, hp⟩ : ∃ p, p = t % P := ⟨_, rfl⟩
  have hpP : p < P := by rw [hp]; exact Nat.mod_lt _ (by omega)
  have htp : (t : Int).tmod (P : Int) = (p : Int) := by rw [Int.tmod_eq_emod_of_nonneg (by omega), hp]; exact (Int.natCast_emod _ _).symm
  have hP0 : ¬ (P : Int) = 0 := by omega
  have hP32 : (P : Int) ≤ 32 := by omega
  have hp0 : (0 : Int) ≤ (p : Int) := by omega
  have hpI : (p : Int) < (P : Int) := by omega
  have hwq : IntKind.i64.wrap (1 + (q : Int)) = (P : Int) := by rw [hPq]; exact IntWalk.i64_in _ (by omega)
  have hqI : (q : Int) ≤ 31 := by omega
  clear hp ht hPq hP
  go_enter Try.func4, Try.ntmps4
  go_wp2_with fail
  refine hf.mono ?_
  rintro e w1 ⟨rfl, hB⟩
  clear hf
  go_wp2_with fail
  refine (ar_new (P : Int) P (by omega) w1).mono ?_
  rintro e w2 ⟨X, rfl, hA, hX, hB2⟩
  clear hwq
  go_wp2_with fail
  have hs1 := hB.size
  refine (cdNew (B := w.heap.size) (wb := w) hA (fun k hk => by have := hX k hk; omega) (hB.trans (hB2.mono hs1)) (Nat.le_refl _)).mono ?_
  rintro e w3 ⟨C, rfl, h3, _, _⟩
  clear hA hX hB hB2 hte hqe htp
  have h4 := h3.alloc (.cells #[.int .i64 (32 * (p : Int) + 1), .int .i64 (32 * (p : Int) + 32)] 30)
  have hb4 := Blk.new w3 #[.int .i64 (32 * (p : Int) + 1), .int .i64 (32 * (p : Int) + 32)] 30
  clear h3
  go_wp2_with fail
  generalize w3.alloc (.cells #[.int .i64 (32 * (p : Int) + 1), .int .i64 (32 * (p : Int) + 32)] 30) = w4 at *
  generalize w3.heap.size = bs at *
  go_loopw [28] (fun v28 wr => EdRel w.heap.size X C P p bs w v28 wr) (fun v28 _ => 2 - (intOf v28).toNat)
  case atStart => exact ⟨0, C.lo, by omega, rfl, h4, hb4⟩
  case round =>
    clear h4 hb4
    obtain ⟨i, lo, hi, rfl, h1, hb⟩ := hrel
    by_cases hlt : i < 2
    · have hi0 : (0 : Int) ≤ (i : Int) := by omega
      have hi2 : (i : Int) < 2 := by omega
      obtain ⟨r, hr1, hr2, hrc⟩ : ∃ r : Int, 32 * (p : Int) + 1 ≤ r ∧ r ≤ 32 * (p : Int) + 32 ∧ wr.cell? ⟨bs, i, none⟩ = some (.int .i64 r) := by
        have : i = 0 ∨ i = 1 := by omega
        rcases this with rfl | rfl
        · exact ⟨_, Int.le_refl _, by omega, hb.cell 0⟩
        · exact ⟨32 * (p : Int) + 32, by omega, Int.le_refl _, hb.cell 1⟩
      have cD := h1.dirty r true (decide_eq_true ⟨by omega, by show r ≤ 32 * ((P : Nat) : Int); omega⟩)
      have e1 : dirtyS (ArS.new P).P (fun _ => false) r = fun j => false || decide (j = p) := dirty_one (P := P) hpP hr1 hr2
      rw [e1] at cD
      have hfar := h1.far hb (by decide) (by decide) (by decide)
      clear e1 hr1 hr2
      go_wp2_with fail
      refine cD.mono ?_
      rintro e w5 ⟨rfl, lo5, h5, k5⟩
      have hb5 := hb.turn k5 hfar
      clear cD hrc hb k5 hfar h1
      go_wp2_with fail
      refine (h5.is_ (p : Int) true (by simp)).mono ?_
      rintro e w6 ⟨rfl, hB6⟩
      have h6 := h5.ask hB6
      have hb6 := hb5.below hB6
      have c0 : w6.cell? ⟨C.t, 0, none⟩ = some (.pointer (some ⟨C.b, 0, none⟩)) := h6.cd.c0
      clear h5 hb5 hB6
      go_wp2_with fail
      refine (h6.count 1 (card_one1 p (by omega))).mono ?_
      rintro e w7 ⟨rfl, h7, hB7⟩
      have hb7 := hb6.below hB7
      have hfar := h7.far hb7 (by decide) (by decide) (by decide)
      clear h6 hb6 c0 hB7
      go_wp2_with fail
      refine h7.clean.mono ?_
      rintro e w8 ⟨rfl, h8, k8⟩
      have hb8 := hb7.turn k8 hfar
      clear h7 hb7 k8 hfar
      go_wp2_with fail
      go_roundw
      case rel => exact ⟨i + 1, _, by omega, by go_num, h8, hb8⟩
      case measure => simp [intOf]; omega
    · obtain rfl : i = 2 := by omega
      clear hb
      by_cases hpp : (0 : Int) < (p : Int)
      · by_cases hll : (p : Int) < (P : Int) - 1
        · have d1 : decide (1 ≤ 32 * (p : Int) ∧ 32 * (p : Int) ≤ 32 * (((ArS.new P).P : Nat) : Int)) = true := by rw [show (ArS.new P).P = P from rfl]; first | (simp; done) | (simp; omega)
          have d2 : decide (1 ≤ 32 * (p : Int) + 33 ∧ 32 * (p : Int) + 33 ≤ 32 * (((ArS.new P).P : Nat) : Int)) = true := by rw [show (ArS.new P).P = P from rfl]; first | (simp; done) | (simp; omega)
          go_wp2_with fail
          refine (h1.dirty (32 * (p : Int)) true d1).mono ?_
          rintro e w5 ⟨rfl, lo5, h5, _⟩
          clear h1 d1
          obtain ⟨S2, hS2⟩ : ∃ S2, dirtyS (ArS.new P).P (fun _ => false) (32 * (p : Int)) = S2 := ⟨_, rfl⟩
          obtain ⟨C2, hC2, ht2⟩ : ∃ C2, C2 = (C.with lo).with lo5 ∧ C2.t = C.t := ⟨_, rfl, rfl⟩
          rw [hS2, ← hC2] at h5
          have HS2 := Lib.hid hS2
          clear hS2 hC2
          have cD := h5.dirty (32 * (p : Int) + 33) true d2
          rw [ht2] at cD
          clear d2
          go_wp2_with fail
          refine cD.mono ?_
          rintro e w6 ⟨rfl, lo6, h6, _⟩
          clear h5 cD
          obtain ⟨S3, hS3⟩ : ∃ S3, dirtyS (ArS.new P).P S2 (32 * (p : Int) + 33) = S3 := ⟨_, rfl⟩
          obtain ⟨C3, hC3, ht3⟩ : ∃ C3, C3 = C2.with lo6 ∧ C3.t = C2.t := ⟨_, rfl, rfl⟩
          have hSp : S3 p = false := by rw [← hS3, ← HS2.out]; exact edge_none (P := P) hpP
          rw [hS3, ← hC3] at h6
          clear hS3 hC3
          have cI := h6.is_ (p : Int) false (by rw [Int.toNat_natCast, hSp]; simp)
          rw [ht3, ht2] at cI
          clear hSp
          have hbl := h6.below
          clear h6
          go_wp2_with fail
          refine cI.mono ?_
          rintro e w7 ⟨rfl, hB7⟩
          have hbl7 := hbl.trans (hB7.mono hbl.size)
          clear cI hB7
          go_wp2_with fail
          go_ret
          exact ⟨rfl, hbl7⟩
        · have d1 : decide (1 ≤ 32 * (p : Int) ∧ 32 * (p : Int) ≤ 32 * (((ArS.new P).P : Nat) : Int)) = true := by rw [show (ArS.new P).P = P from rfl]; first | (simp; done) | (simp; omega)
          have d2 : decide (1 ≤ 32 * (p : Int) + 33 ∧ 32 * (p : Int) + 33 ≤ 32 * (((ArS.new P).P : Nat) : Int)) = false := by rw [show (ArS.new P).P = P from rfl]; first | (simp; done) | (simp; omega)
          go_wp2_with fail
          refine (h1.dirty (32 * (p : Int)) true d1).mono ?_
          rintro e w5 ⟨rfl, lo5, h5, _⟩
          clear h1 d1
          obtain ⟨S2, hS2⟩ : ∃ S2, dirtyS (ArS.new P).P (fun _ => false) (32 * (p : Int)) = S2 := ⟨_, rfl⟩
          obtain ⟨C2, hC2, ht2⟩ : ∃ C2, C2 = (C.with lo).with lo5 ∧ C2.t = C.t := ⟨_, rfl, rfl⟩
          rw [hS2, ← hC2] at h5
          have HS2 := Lib.hid hS2
          clear hS2 hC2
          have cD := h5.dirty (32 * (p : Int) + 33) false d2
          rw [ht2] at cD
          clear d2
          go_wp2_with fail
          refine cD.mono ?_
          rintro e w6 ⟨rfl, lo6, h6, _⟩
          clear h5 cD
          obtain ⟨S3, hS3⟩ : ∃ S3, dirtyS (ArS.new P).P S2 (32 * (p : Int) + 33) = S3 := ⟨_, rfl⟩
          obtain ⟨C3, hC3, ht3⟩ : ∃ C3, C3 = C2.with lo6 ∧ C3.t = C2.t := ⟨_, rfl, rfl⟩
          have hSp : S3 p = false := by rw [← hS3, ← HS2.out]; exact edge_none (P := P) hpP
          rw [hS3, ← hC3] at h6
          clear hS3 hC3
          have cI := h6.is_ (p : Int) false (by rw [Int.toNat_natCast, hSp]; simp)
          rw [ht3, ht2] at cI
          clear hSp
          have hbl := h6.below
          clear h6
          go_wp2_with fail
          refine cI.mono ?_
          rintro e w7 ⟨rfl, hB7⟩
          have hbl7 := hbl.trans (hB7.mono hbl.size)
          clear cI hB7
          go_wp2_with fail
          go_ret
          exact ⟨rfl, hbl7⟩
      · obtain rfl : p = 0 := by omega
        clear hpp hp0 hpI
        by_cases hll : (0 : Int) < (P : Int) - 1
        · have hll2 : (1 : Int) < (P : Int) := by omega
          have d1 : decide (1 ≤ (0 : Int) ∧ (0 : Int) ≤ 32 * (((ArS.new P).P : Nat) : Int)) = false := by rw [show (ArS.new P).P = P from rfl]; first | (simp; done) | (simp; omega)
          have d2 : decide (1 ≤ (33 : Int) ∧ (33 : Int) ≤ 32 * (((ArS.new P).P : Nat) : Int)) = true := by rw [show (ArS.new P).P = P from rfl]; first | (simp; done) | (simp; omega)
          go_wp2_with fail
          refine (h1.dirty 0 false d1).mono ?_
          rintro e w5 ⟨rfl, lo5, h5, _⟩
          clear h1 d1
          obtain ⟨S2, hS2⟩ : ∃ S2, dirtyS (ArS.new P).P (fun _ => false) 0 = S2 := ⟨_, rfl⟩
          obtain ⟨C2, hC2, ht2⟩ : ∃ C2, C2 = (C.with lo).with lo5 ∧ C2.t = C.t := ⟨_, rfl, rfl⟩
          rw [hS2, ← hC2] at h5
          have HS2 := Lib.hid hS2
          clear hS2 hC2
          have cD := h5.dirty ((33 : Int)) true d2
          rw [ht2] at cD
          clear d2
          go_wp2_with fail
          refine cD.mono ?_
          rintro e w6 ⟨rfl, lo6, h6, _⟩
          clear h5 cD
          obtain ⟨S3, hS3⟩ : ∃ S3, dirtyS (ArS.new P).P S2 ((33 : Int)) = S3 := ⟨_, rfl⟩
          obtain ⟨C3, hC3, ht3⟩ : ∃ C3, C3 = C2.with lo6 ∧ C3.t = C2.t := ⟨_, rfl, rfl⟩
          have hSp : S3 0 = false := by rw [← hS3, ← HS2.out]; exact edge_none (P := P) (p := 0) hpP
          rw [hS3, ← hC3] at h6
          clear hS3 hC3
          have cI := h6.is_ 0 false (by rw [show (0 : Int).toNat = 0 from rfl, hSp]; simp)
          rw [ht3, ht2] at cI
          clear hSp
          have hbl := h6.below
          clear h6
          go_wp2_with fail
          refine cI.mono ?_
          rintro e w7 ⟨rfl, hB7⟩
          have hbl7 := hbl.trans (hB7.mono hbl.size)
          clear cI hB7
          go_wp2_with fail
          go_ret
          exact ⟨rfl, hbl7⟩
        · have d1 : decide (1 ≤ (0 : Int) ∧ (0 : Int) ≤ 32 * (((ArS.new P).P : Nat) : Int)) = false := by rw [show (ArS.new P).P = P from rfl]; first | (simp; done) | (simp; omega)
          have d2 : decide (1 ≤ (33 : Int) ∧ (33 : Int) ≤ 32 * (((ArS.new P).P : Nat) : Int)) = false := by rw [show (ArS.new P).P = P from rfl]; first | (simp; done) | (simp; omega)
          go_wp2_with fail
          refine (h1.dirty 0 false d1).mono ?_
          rintro e w5 ⟨rfl, lo5, h5, _⟩
          clear h1 d1
          obtain ⟨S2, hS2⟩ : ∃ S2, dirtyS (ArS.new P).P (fun _ => false) 0 = S2 := ⟨_, rfl⟩
          obtain ⟨C2, hC2, ht2⟩ : ∃ C2, C2 = (C.with lo).with lo5 ∧ C2.t = C.t := ⟨_, rfl, rfl⟩
          rw [hS2, ← hC2] at h5
          have HS2 := Lib.hid hS2
          clear hS2 hC2
          have cD := h5.dirty ((33 : Int)) false d2
          rw [ht2] at cD
          clear d2
          go_wp2_with fail
          refine cD.mono ?_
          rintro e w6 ⟨rfl, lo6, h6, _⟩
          clear h5 cD
          obtain ⟨S3, hS3⟩ : ∃ S3, dirtyS (ArS.new P).P S2 ((33 : Int)) = S3 := ⟨_, rfl⟩
          obtain ⟨C3, hC3, ht3⟩ : ∃ C3, C3 = C2.with lo6 ∧ C3.t = C2.t := ⟨_, rfl, rfl⟩
          have hSp : S3 0 = false := by rw [← hS3, ← HS2.out]; exact edge_none (P := P) (p := 0) hpP
          rw [hS3, ← hC3] at h6
          clear hS3 hC3
          have cI := h6.is_ 0 false (by rw [show (0 : Int).toNat = 0 from rfl, hSp]; simp)
          rw [ht3, ht2] at cI
          clear hSp
          have hbl := h6.below
          clear h6
          go_wp2_with fail
          refine cI.mono ?_
          rintro e w7 ⟨rfl, hB7⟩
          have hbl7 := hbl.trans (hB7.mono hbl.size)
          clear cI hB7
          go_wp2_with fail
          go_ret
          exact ⟨rfl, hbl7⟩
end Go.Proofs.Ytlloanoohphgcaa
