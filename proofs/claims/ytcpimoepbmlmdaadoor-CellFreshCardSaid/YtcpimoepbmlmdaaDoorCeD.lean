/- CellFresh, walked, at this seat's numbers. -/
import Derived.Test.YtcpimoepbmlmdaaDoorCeC
import Derived.WalkMore
namespace Go.Proofs.YtcpimoepbmlmdaaDoor
open Go Go.RowKit Go.Shelf Go.MuLone Go.RwLone
set_option linter.unusedSimpArgs false
set_option linter.unusedVariables false

/-- A lone object at 1. -/
structure Lone (s : ArS) (k : Nat) (v : Int) (F : Nat → Int) : Prop where
  o : ObjAt s 1 k v F
  P : s.P = 1
  S : ∀ q, s.S q = true → q = 1
theorem lone_new {s : ArS} (hF : Fits s) (hP : s.P = 1) (hc : s.cls 0 = -1) (hS : ∀ q, s.S q = false) {k : Nat} (hk : k ≤ 6) : newR s (k : Int) = 1 ∧ newE s (k : Int) = 0 ∧ Lone (s.newS (k : Int)) k 0 (fun _ => 0) := by
  have hcl : ∀ p, p < s.P → s.cls p = -1 := fun p hp => by
    obtain rfl : p = 0 := by omega
    exact hc
  have e1 := seek_empty (s := s) (clsK_ok (k : Int)) (by omega) hcl
  have e2 : newE s (k : Int) = 0 := by rw [newE_mid (by omega) (by omega), e1]; rfl
  have e3 : newR s (k : Int) = 1 := by rw [(newE_zero e2).2.2.2, e1]
  have o := new_obj hF (k := k) e2
  rw [e3] at o
  refine ⟨e3, e2, o, by rw [newS_P]; exact hP, fun q hq => ?_⟩
  rw [newS_S e2, hS, e3] at hq
  simpa using hq
theorem Lone.setSc {s : ArS} {k : Nat} {v : Int} {F : Nat → Int} (h : Lone s k v F) (hF : Fits s) (x : Int) : Lone (s.setW ((1 : Nat) : Int) 1 x) k x F :=
  ⟨h.o.setSc hF x, by rw [setW_P]; exact h.P, fun q hq => h.S q (by rw [setW_S] at hq; exact hq)⟩
theorem Lone.setF {s : ArS} {k : Nat} {v : Int} {F : Nat → Int} (h : Lone s k v F) (hF : Fits s) {j : Nat} (hj : j < k) (x : Int) : Lone (s.setW ((1 : Nat) : Int) (2 + (j : Int)) x) k v (upd F j x) :=
  ⟨h.o.setF hF hj x, by rw [setW_P]; exact h.P, fun q hq => h.S q (by rw [setW_S] at hq; exact hq)⟩
theorem Lone.give {s : ArS} {k : Nat} {v : Int} {F : Nat → Int} (h : Lone s k v F) : (s.giveI ((1 : Nat) : Int)).P = 1 ∧ (s.giveI ((1 : Nat) : Int)).cls 0 = -1 ∧ ∀ q, (s.giveI ((1 : Nat) : Int)).S q = false := by
  rw [giveI_nat h.o.S]
  have hd : ∀ q, dropN s.S 1 q = false := fun q => by
    cases e : s.S q with
    | false => simp [dropN, e]
    | true => simp [dropN, h.S q e]
  refine ⟨h.P, ?_, hd⟩
  show giveCls s 1 0 = -1
  unfold giveCls
  rw [if_neg (fun hu => by obtain ⟨j, _, hj⟩ := usedIn_yes.1 hu; rw [hd] at hj; cases hj)]
  rfl
theorem ArIn.giveOk {B : Nat} {X : ArB} {s : ArS} {wb wr : World} (h : ArIn B X s wb wr) (r : Nat) (hr : s.S r = true) : Calls Tryd.prog 18 #[.pointer (some ⟨X.a, 0, none⟩), .int .i64 (r : Int)] wr fun e w' =>
    e = .returned (.bool true) ∧ Step1 B X (s.giveI (r : Int)) wb wr w' := (h.give (r : Int)).mono fun _ _ ⟨he, h2⟩ => ⟨by rw [he, inS_nat, hr], h2⟩

/-- Between two fields. -/
def LoneRel (B : Nat) (X : ArB) (wb : World) (k : Nat) (v : Value) (wr : World) : Prop :=
  ∃ (i : Nat) (lo : Option Nat) (s : ArS) (F : Nat → Int), i ≤ k ∧ v = .int .i64 (i : Int) ∧ ArIn B (X.with lo) s wb wr ∧ Lone s k 0 F
def LoneRel2 (B : Nat) (X : ArB) (s : ArS) (wb : World) (k : Nat) (v : Value) (wr : World) : Prop :=
  ∃ (i : Nat), i ≤ k ∧ v = .int .i64 (i : Int) ∧ ArIn B X s wb wr

set_option maxRecDepth 100000 in
set_option maxHeartbeats 8000000 in
theorem fresh_true (n m : Nat) (hn : n < 256) (hm : m < 256) (x : Int) (w : World) (hT : TableAt w) :
    Calls Tryd.prog 11 #[.int .u8 (n : Int), .int .u8 (m : Int), .int .i64 x] w fun e w' => e = .returned (.bool true) ∧ Below w.heap.size w w' := by
  have hg := hT.lt
  have hf := cefit_true w hT
  obtain ⟨k, hk⟩ : ∃ k, k = n % 7 := ⟨_, rfl⟩
  obtain ⟨j, hj⟩ : ∃ j, j = m % 7 := ⟨_, rfl⟩
  have hk6 : k ≤ 6 := by omega
  have hj6 : j ≤ 6 := by omega
  have hkt : (n : Int).tmod 7 = (k : Int) := by rw [Int.tmod_eq_emod_of_nonneg (by omega)]; omega
  have hjt : (m : Int).tmod 7 = (j : Int) := by rw [Int.tmod_eq_emod_of_nonneg (by omega)]; omega
  clear hk hj
  obtain ⟨q1, q2, q3⟩ := lone_new (fits_new (P := 1) (by decide)) rfl rfl (fun _ => rfl) hk6
  go_enter Tryd.func11, Tryd.ntmps11
  go_wp2_with fail
  refine hf.mono ?_
  rintro e w0 ⟨rfl, hB⟩
  clear hf
  go_wp2_with fail
  refine (new_in 1 1 (by decide) w.heap.size w _ hB (Nat.le_refl _) hT hg).mono ?_
  rintro e w1 ⟨X, rfl, h1, _, _⟩
  clear hB
  go_wp2_with fail
  refine (ceNewOk h1 (k : Int) 1 q1 q2).mono ?_
  rintro e w2 ⟨rfl, lo2, h2, _⟩
  generalize (ArS.new 1).newS (k : Int) = s2 at *
  clear h1 hkt hjt q1 q2
  have k0 : (0 : Int) ≤ (k : Int) := by omega
  go_wp2_with fail
  go_loopw [39] (fun v39 wr => LoneRel w.heap.size X w k v39 wr) (fun v39 _ => k - (intOf v39).toNat)
  case atStart => exact ⟨0, lo2, s2, _, Nat.zero_le _, rfl, h2, q3⟩
  case round =>
    clear h2 q3
    obtain ⟨i, lo3, s3, F, hi, rfl, h3, q3⟩ := hrel
    by_cases hik : i < k
    · have hI : (i : Int) < (k : Int) := by omega
      have hI0 : (0 : Int) ≤ (i : Int) := by omega
      have q4 := q3.setF h3.at_.fits hik 1
      go_wp2_with fail
      refine (ceSetFieldOk h3 q3.o i hik 1).mono ?_
      rintro e w4 ⟨rfl, lo4, h4, _⟩
      generalize s3.setW ((1 : Nat) : Int) (2 + (i : Int)) 1 = s4 at *
      clear h3 q3
      go_wp2_with fail
      go_roundw
      case rel => exact ⟨i + 1, lo4, s4, _, by omega, by go_num, h4, q4⟩
      case measure => simp [intOf]; omega
    · obtain rfl : i = k := by omega
      have q4 := q3.setSc h3.at_.fits x
      go_wp2_with fail
      refine (ceSetScalarOk h3 q3.o x).mono ?_
      rintro e w4 ⟨rfl, lo4, h4, _⟩
      generalize s3.setW ((1 : Nat) : Int) 1 x = s4 at *
      clear h3 q3
      have q5 := q4.give
      go_wp2_with fail
      refine (h4.giveOk 1 q4.o.S).mono ?_
      rintro e w5 ⟨rfl, lo5, h5, _⟩
      have hF5 := h5.at_.fits
      generalize s4.giveI ((1 : Nat) : Int) = s5 at *
      clear h4 q4
      obtain ⟨p1, p2, p3⟩ := lone_new hF5 q5.1 q5.2.1 q5.2.2 hj6
      clear q5 hF5
      go_wp2_with fail
      refine (ceNewOk h5 (j : Int) 1 p1 p2).mono ?_
      rintro e w6 ⟨rfl, lo6, h6, _⟩
      generalize s5.newS (j : Int) = s6 at *
      clear h5 p1 p2
      have j0 : (0 : Int) ≤ (j : Int) := by omega
      go_wp2_with fail
      refine (ceFieldsOk h6 p3.o).mono ?_
      rintro e w7 ⟨rfl, hB7⟩
      have h7 := h6.ask hB7
      clear h6 hB7
      go_wp2_with fail
      go_loopw [76] (fun v76 wr => LoneRel2 w.heap.size (X.with lo6) s6 w j v76 wr) (fun v76 _ => j - (intOf v76).toNat)
      case atStart => exact ⟨0, Nat.zero_le _, rfl, h7⟩
      case round =>
        clear h7
        obtain ⟨i, hi, rfl, h7⟩ := hrel
        by_cases hik : i < j
        · have hI : (i : Int) < (j : Int) := by omega
          have hI0 : (0 : Int) ≤ (i : Int) := by omega
          go_wp2_with fail
          refine (ceFieldOk h7 p3.o i hik 0 rfl).mono ?_
          rintro e w8 ⟨rfl, hB8⟩
          have h8 := h7.ask hB8
          clear h7 hB8
          go_wp2_with fail
          go_roundw
          case rel => exact ⟨i + 1, by omega, by go_num, h8⟩
          case measure => simp [intOf]; omega
        · obtain rfl : i = j := by omega
          go_wp2_with fail
          refine (ceScalarOk h7 p3.o).mono ?_
          rintro e w8 ⟨rfl, hB8⟩
          have h8 := h7.ask hB8
          clear h7 hB8
          go_wp2_with fail
          refine (ceFieldNo h8 p3.o (i : Int) (.inr (Int.le_refl _))).mono ?_
          rintro e w9 ⟨rfl, hB9⟩
          have h9 := h8.ask hB9
          clear h8 hB9
          go_wp2_with fail
          go_ret
          exact ⟨rfl, h9.below⟩
theorem u8_nat {a : Int} (h : (Lit.int .u8 a).wf = true) : ∃ n : Nat, a = (n : Int) ∧ n < 256 := by
  have h2 : 0 ≤ a ∧ a ≤ 255 := by
    simp [Lit.wf, IntKind.min, IntKind.max, IntKind.signed, IntKind.bits] at h
    omega
  exact ⟨a.toNat, by omega, by omega⟩
theorem fresh_frame (a : Int) (ha : (Lit.int .u8 a).wf = true) (b : Int) (hb : (Lit.int .u8 b).wf = true) (x : Int) (_ : (Lit.int .i64 x).wf = true) (w : World) (hT : TableAt w) :
    Calls Tryd.prog 11 #[.int .u8 a, .int .u8 b, .int .i64 x] w fun e w' => e = .returned (.bool true) ∧ Below w.heap.size w w' := by
  obtain ⟨n, rfl, hn⟩ := u8_nat ha
  obtain ⟨m, rfl, hm⟩ := u8_nat hb
  exact fresh_true n m hn hm x w hT
end Go.Proofs.YtcpimoepbmlmdaaDoor
