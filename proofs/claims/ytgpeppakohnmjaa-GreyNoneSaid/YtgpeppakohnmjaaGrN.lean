/- GreyNone, walked, at this seat's numbers. -/
import Derived.Test.YtgpeppakohnmjaaGrC
import Derived.Test.YtgpeppakohnmjaaArgsG
namespace Go.Proofs.Ytgpeppakohnmjaa
open Go Go.RowKit
set_option linter.unusedSimpArgs false
set_option linter.unusedVariables false
attribute [local go_sem] Oper.semAt_some

theorem take_nextN {zs : List Int} {i : Nat} (h : i < zs.length) : zs.take (i + 1) = zs.take i ++ [zs.getD i 0] := by
  rw [List.take_add_one, List.getElem?_eq_getElem h]
  simp [List.getD, h]
/-- Two stacks, each apart from the other one. -/
structure GrTwo (B s t : Nat) (M : Int) (ov : Bool) (st : List Int) (wb wr : World) : Prop where
  ex : ∃ X Y : GrB, X.s = s ∧ Y.s = t ∧ GrAt wr X M [] ov ∧ GrAt wr Y 64 st false ∧ (∀ k, X.has k → B ≤ k) ∧ (∀ k, Y.has k → B ≤ k) ∧ ∀ k, X.has k → ¬ Y.has k
  below : Below B wb wr
  base : B ≤ wb.heap.size
section
variable {B s t : Nat} {M : Int} {ov ov' : Bool} {st st' : List Int} {wb wr w' : World}
theorem GrTwo.stepX {X X' Y : GrB} (h : GrTwo B s t M ov st wb wr) (hx : X.s = s) (hy : Y.s = t) (hY : GrAt wr Y 64 st false) (bx : ∀ k, X.has k → B ≤ k) (b : ∀ k, Y.has k → B ≤ k) (ap : ∀ k, X.has k → ¬ Y.has k)
    (hX' : GrAt w' X' M [] ov') (hS : GrStep X wr X' w') : GrTwo B s t M ov' st wb w' := by
  have hb := Nat.le_trans h.base h.below.size
  refine ⟨⟨X', Y, hS.s.trans hx, hy, hX', hY.turn hS.turn (fun k e e2 => ap k e2 e), fun k e => ?_, b, fun k e e2 => ?_⟩, h.below.trans (hS.turn.below B hb fun k hk e => by have := bx k e; omega), h.base⟩
  · rcases hS.new k e with e3 | e3
    · exact bx k e3
    · omega
  · rcases hS.new k e with e3 | e3
    · exact ap k e3 e2
    · have := hY.lt k e2; omega
theorem GrTwo.stepY {X Y Y' : GrB} (h : GrTwo B s t M ov st wb wr) (hx : X.s = s) (hy : Y.s = t) (hX : GrAt wr X M [] ov) (bx : ∀ k, X.has k → B ≤ k) (b : ∀ k, Y.has k → B ≤ k) (ap : ∀ k, X.has k → ¬ Y.has k)
    (hY' : GrAt w' Y' 64 st' false) (hS : GrStep Y wr Y' w') : GrTwo B s t M ov st' wb w' := by
  have hb := Nat.le_trans h.base h.below.size
  refine ⟨⟨X, Y', hx, hS.s.trans hy, hX.turn hS.turn (fun k e e2 => ap k e e2), hY', bx, fun k e => ?_, fun k e e2 => ?_⟩, h.below.trans (hS.turn.below B hb fun k hk e => by have := b k e; omega), h.base⟩
  · rcases hS.new k e with e3 | e3
    · exact b k e3
    · omega
  · rcases hS.new k e2 with e3 | e3
    · exact ap k e e3
    · have := hX.lt k e; omega
theorem GrTwo.pushX (h : GrTwo B s t M ov st wb wr) (hM : M ≤ 0) (r : Int) : Calls Try.prog 9 #[.pointer (some ⟨s, 0, none⟩), .int .i64 r] wr fun e w' => e = .returned (.bool false) ∧ GrTwo B s t M true st wb w' := by
  obtain ⟨X, Y, rfl, rfl, hX, hY, bx, b, ap⟩ := h.ex
  refine (hX.pushNo (by simpa using hM) r).mono ?_
  rintro e w1 ⟨rfl, X', hX', hS⟩
  exact ⟨rfl, h.stepX rfl rfl hY bx b ap hX' hS⟩
theorem GrTwo.overX (h : GrTwo B s t M ov st wb wr) : Calls Try.prog 14 #[.pointer (some ⟨s, 0, none⟩)] wr fun e w' => e = .returned (.bool ov) ∧ wr = w' := by
  obtain ⟨X, Y, rfl, rfl, hX, hY, bx, b, ap⟩ := h.ex
  exact hX.over
theorem GrTwo.lenX (h : GrTwo B s t M ov st wb wr) : Calls Try.prog 13 #[.pointer (some ⟨s, 0, none⟩)] wr fun e w' => e = .returned (.int .i64 0) ∧ wr = w' := by
  obtain ⟨X, Y, rfl, rfl, hX, hY, bx, b, ap⟩ := h.ex
  exact hX.len
theorem GrTwo.popX (h : GrTwo B s t M ov st wb wr) : Calls Try.prog 10 #[.pointer (some ⟨s, 0, none⟩)] wr fun e w' => e = .returned (.tuple #[.int .i64 0, .bool false]) ∧ wr = w' := by
  obtain ⟨X, Y, rfl, rfl, hX, hY, bx, b, ap⟩ := h.ex
  exact hX.popNo
theorem GrTwo.settleX (h : GrTwo B s t M ov st wb wr) : Calls Try.prog 11 #[.pointer (some ⟨s, 0, none⟩)] wr fun e w' => e = .returned (.tuple #[]) ∧ GrTwo B s t M false st wb w' := by
  obtain ⟨X, Y, rfl, rfl, hX, hY, bx, b, ap⟩ := h.ex
  refine hX.settle.mono ?_
  rintro e w1 ⟨rfl, X', hX', hS⟩
  exact ⟨rfl, h.stepX rfl rfl hY bx b ap hX' hS⟩
theorem GrTwo.pushY (h : GrTwo B s t M ov st wb wr) (hl : st.length < 64) (r : Int) : Calls Try.prog 9 #[.pointer (some ⟨t, 0, none⟩), .int .i64 r] wr fun e w' => e = .returned (.bool true) ∧ GrTwo B s t M ov (st ++ [r]) wb w' := by
  obtain ⟨X, Y, rfl, rfl, hX, hY, bx, b, ap⟩ := h.ex
  refine (hY.push (by omega) (by omega) r).mono ?_
  rintro e w1 ⟨rfl, Y', hY', hS⟩
  exact ⟨rfl, h.stepY rfl rfl hX bx b ap hY' hS⟩
theorem GrTwo.overY (h : GrTwo B s t M ov st wb wr) : Calls Try.prog 14 #[.pointer (some ⟨t, 0, none⟩)] wr fun e w' => e = .returned (.bool false) ∧ wr = w' := by
  obtain ⟨X, Y, rfl, rfl, hX, hY, bx, b, ap⟩ := h.ex
  exact hY.over
theorem GrTwo.lenY (h : GrTwo B s t M ov st wb wr) (n : Int) (hn : (st.length : Int) = n) : Calls Try.prog 13 #[.pointer (some ⟨t, 0, none⟩)] wr fun e w' => e = .returned (.int .i64 n) ∧ wr = w' := by
  obtain ⟨X, Y, rfl, rfl, hX, hY, bx, b, ap⟩ := h.ex
  subst hn
  exact hY.len
theorem grTwo_new (hB : Below B wb wr) (hb : B ≤ wb.heap.size) {X : GrB} (hx : X.s = s) (hX : GrAt wr X M [] ov) (bx : ∀ k, X.has k → B ≤ k) : Calls Try.prog 8 #[.int .i64 64] wr fun e w' =>
    ∃ t, e = .returned (.pointer (some ⟨t, 0, none⟩)) ∧ GrTwo B s t M ov [] wb w' := by
  refine (grNew 64 wr).mono ?_
  rintro e w1 ⟨Y, rfl, hY, hN, hB1⟩
  have hs := hB.size
  exact ⟨Y.s, rfl, ⟨X, Y, hx, rfl, hX.below hB1, hY, bx, fun k e => by have := hN k e; omega, fun k e e2 => by have := hN k e2; have := hX.lt k e; omega⟩, hB.trans (hB1.mono (by omega)), hb⟩
end
def NoneA (B s t : Nat) (M : Int) (zs : List Int) (wb : World) (v23 : Value) (wr : World) : Prop :=
  ∃ i : Nat, ∃ ov : Bool, i ≤ zs.length ∧ v23 = .int .i64 (i : Int) ∧ GrTwo B s t M ov (zs.take i) wb wr

set_option maxRecDepth 100000 in
set_option maxHeartbeats 4000000 in
theorem none_true (room : Int) (a0 : Option Addr) (zs : List Int) (cap : Nat) (w : World) (_ : zs.length ≤ 9223372036854775807) (hZ : RefsAtW w a0 zs) :
    Calls Try.prog 6 #[.int .i64 room, .slice a0 zs.length cap] w fun e w' => e = .returned (.bool true) ∧ Below w.heap.size w w' := by
  have HZ := Lib.hid hZ
  clear hZ
  have hf := grfit_true w
  obtain ⟨R, hR, hRe⟩ := i64_and_mask room 65535 (by decide)
  replace hRe : bits .and .i64 room 65535 = (R : Int) := hRe
  obtain ⟨M, hM⟩ : ∃ M : Int, M = -(R : Int) := ⟨_, rfl⟩
  have hM0 : M ≤ 0 := by omega
  have hwr : IntKind.i64.wrap (-(R : Int)) = M := by simp [IntKind.wrap, IntKind.bits, IntKind.signed]; omega
  clear hM
  go_enter Try.func6, Try.ntmps6
  go_wp2_with fail
  refine hf.mono ?_
  rintro e w1 ⟨rfl, hB⟩
  clear hf
  by_cases hbig : 60 < (zs.length : Int)
  · go_wp2_with fail
    go_ret
    exact ⟨rfl, hB⟩
  have hbigN : zs.length ≤ 60 := by omega
  go_wp2_with fail
  trace_state
  refine (grNew M w1).mono ?_
  rintro e w2 ⟨X, rfl, hX, hN, hB2⟩
  go_wp2_with fail
  refine (grTwo_new (B := w.heap.size) (hB.trans (hB2.mono hB.size)) (Nat.le_refl _) rfl hX (fun k e => Nat.le_trans hB.size (hN k e))).mono ?_
  rintro e w3 ⟨t, rfl, h3⟩
  generalize X.s = s at *
  clear hB hX hN hB2
  go_wp2_with fail
  go_loopw [23] (fun v23 wr => NoneA w.heap.size s t M zs w v23 wr) (fun v23 _ => zs.length - (intOf v23).toNat)
  case atStart => exact ⟨0, false, Nat.zero_le _, rfl, h3⟩
  case round =>
    clear h3
    obtain ⟨i, ov, hi, rfl, h1⟩ := hrel
    have hi0 : (0 : Int) ≤ (i : Int) := by omega
    by_cases hlt : i < zs.length
    · have hi1 : (i : Int) < (zs.length : Int) := by omega
      obtain ⟨bk, off, rfl, hbk, hc0, hwf⟩ := HZ.out i hlt
      have hc := (h1.below.cell (p := ⟨bk, off + i, none⟩) hbk).trans hc0
      have htk := take_nextN hlt
      generalize zs.getD i 0 = r at *
      clear hc0 hwf
      have hln : (zs.take i).length = i := by rw [List.length_take]; omega
      go_wp2_with fail
      refine (h1.pushX hM0 r).mono ?_
      rintro e w4 ⟨rfl, h4⟩
      clear h1 hc
      go_wp2_with fail
      refine h4.overX.mono ?_
      rintro e w5 ⟨rfl, rfl⟩
      go_wp2_with fail
      refine h4.lenX.mono ?_
      rintro e w5 ⟨rfl, rfl⟩
      have cP := h4.pushY (by omega) r
      rw [← htk] at cP
      clear htk hln h4
      go_wp2_with fail
      refine cP.mono ?_
      rintro e w5 ⟨rfl, h5⟩
      clear cP
      go_wp2_with fail
      refine h5.overY.mono ?_
      rintro e w5 ⟨rfl, rfl⟩
      have cL := h5.lenY ((i : Int) + 1) (by rw [List.length_take]; omega)
      go_wp2_with fail
      refine cL.mono ?_
      rintro e w5 ⟨rfl, rfl⟩
      clear cL
      go_wp2_with fail
      refine h5.popX.mono ?_
      rintro e w5 ⟨rfl, rfl⟩
      go_wp2_with fail
      go_roundw
      case rel => exact ⟨i + 1, true, hlt, by go_num, h5⟩
      case measure => simp [intOf]; omega
    · have hi1 : ¬ (i : Int) < (zs.length : Int) := by omega
      obtain rfl : i = zs.length := by omega
      rw [List.take_length] at h1
      clear hlt hi hi0
      go_wp2_with fail
      refine h1.settleX.mono ?_
      rintro e w4 ⟨rfl, h4⟩
      clear h1
      go_wp2_with fail
      refine h4.overX.mono ?_
      rintro e w5 ⟨rfl, rfl⟩
      go_wp2_with fail
      refine (h4.lenY (zs.length : Int) rfl).mono ?_
      rintro e w5 ⟨rfl, rfl⟩
      have hbl := h4.below
      clear h4
      go_wp2_with fail
      go_ret
      exact ⟨rfl, hbl⟩
end Go.Proofs.Ytgpeppakohnmjaa
