/- GreyAgain, walked, at this seat's numbers. -/
import Derived.Test.YtgpeppakohnmjaaGrC
import Derived.Test.YtgpeppakohnmjaaArgsG
namespace Go.Proofs.Ytgpeppakohnmjaa
open Go Go.RowKit
set_option linter.unusedSimpArgs false
set_option linter.unusedVariables false
attribute [local go_sem] Oper.semAt_some

theorem u8_natG {a : Int} (h : (Lit.int .u8 a).wf = true) : ∃ n : Nat, a = (n : Int) ∧ n < 256 := by
  have h2 : 0 ≤ a ∧ a ≤ 255 := by
    simp [Lit.wf, IntKind.min, IntKind.max, IntKind.signed, IntKind.bits] at h
    omega
  exact ⟨a.toNat, by omega, by omega⟩
def FillA (B s n : Nat) (wb : World) (v25 : Value) (wr : World) : Prop :=
  ∃ i : Nat, i ≤ n ∧ v25 = .int .i64 (i : Int) ∧ ∃ st : List Int, st.length = i ∧ GrIn B (fun _ => False) s (n : Int) st false wb wr
def AgainA (B s n len : Nat) (wb : World) (v33 : Value) (wr : World) : Prop :=
  ∃ i : Nat, i ≤ len ∧ v33 = .int .i64 (i : Int) ∧ ∃ (q : List Int) (x : Int), q.length + 1 = n ∧ GrIn B (fun _ => False) s (n : Int) (q ++ [x]) false wb wr

set_option maxRecDepth 100000 in
set_option maxHeartbeats 4000000 in
theorem again_true (lv : Nat) (hlv : lv < 256) (a0 : Option Addr) (zs : List Int) (cap : Nat) (w : World) (_ : zs.length ≤ 9223372036854775807) (hZ : RefsAtW w a0 zs) :
    Calls Try.prog 5 #[.int .u8 (lv : Int), .slice a0 zs.length cap] w fun e w' => e = .returned (.bool true) ∧ Below w.heap.size w w' := by
  have HZ := Lib.hid hZ
  clear hZ
  have hf := grfit_true w
  obtain ⟨m, hm⟩ : ∃ m, m = lv % 10 := ⟨_, rfl⟩
  have hmt : (lv : Int).tmod 10 = (m : Int) := by rw [Int.tmod_eq_emod_of_nonneg (by omega)]; omega
  have hm10 : m < 10 := by omega
  have hwu : IntKind.u8.wrap (m : Int) = (m : Int) := by simp [IntKind.wrap, IntKind.bits, IntKind.signed]; omega
  obtain ⟨n, hn⟩ : ∃ n : Nat, n = m + 1 := ⟨_, rfl⟩
  have h1m : 1 + (m : Int) = (n : Int) := by omega
  have hn1 : 1 ≤ n ∧ n ≤ 10 := by omega
  clear hm hn
  have HN := Lib.hid hn1
  clear hn1
  go_enter Try.func5, Try.ntmps5
  go_wp2_with fail
  refine hf.mono ?_
  rintro e w1 ⟨rfl, hB⟩
  clear hf
  by_cases hbig : 60 < (zs.length : Int)
  · go_wp2_with fail
    go_ret
    exact ⟨rfl, hB⟩
  go_wp2_with fail
  refine (grIn_new (B := w.heap.size) (F := fun _ => False) (wb := w) (wr := w1) (n : Int) (fun _ h => h.elim) hB (Nat.le_refl _)).mono ?_
  rintro e w2 ⟨s, rfl, h2, _⟩
  clear hB
  go_wp2_with fail
  go_loopw [25] (fun v25 wr => FillA w.heap.size s n w v25 wr) (fun v25 _ => n - (intOf v25).toNat)
  case atStart => exact ⟨0, Nat.zero_le _, rfl, [], rfl, h2⟩
  case round =>
    clear h2
    obtain ⟨i, hi, rfl, st, hst, h1⟩ := hrel
    have hi0 : (0 : Int) ≤ (i : Int) := by omega
    by_cases hlt : i < n
    · have hi1 : (i : Int) < (n : Int) := by omega
      have cP := h1.push (by omega) (by have := HN.out; omega) 1
      have HL := Lib.hid hst
      clear hst h1
      go_wp2_with fail
      refine cP.mono ?_
      rintro e w4 ⟨rfl, h4, _⟩
      clear cP
      go_wp2_with fail
      go_roundw
      case rel => exact ⟨i + 1, hlt, by go_num, st ++ [1], by have := HL.out; simp; omega, h4⟩
      case measure => simp [intOf]; omega
    · have hi1 : ¬ (i : Int) < (n : Int) := by omega
      obtain rfl : i = n := by omega
      obtain ⟨q0, x0, rfl⟩ : ∃ (q : List Int) (x : Int), st = q ++ [x] := by
        have hne : st ≠ [] := by intro e; rw [e] at hst; have := HN.out; simp at hst; omega
        exact ⟨st.dropLast, st.getLast hne, (List.dropLast_concat_getLast hne).symm⟩
      have hq0 : q0.length + 1 = i := by rw [List.length_append] at hst; simpa using hst
      have HQ := Lib.hid hq0
      clear hst hq0 hlt hi hi0
      go_wp2_with fail
      go_loopw [33] (fun v33 wr => AgainA w.heap.size s i zs.length w v33 wr) (fun v33 _ => zs.length - (intOf v33).toNat)
      case atStart => exact ⟨0, Nat.zero_le _, rfl, q0, x0, HQ.out, h1⟩
      case round =>
        clear h1 HQ
        obtain ⟨j, hj, rfl, q, x, hq, h1⟩ := hrel
        have hj0 : (0 : Int) ≤ (j : Int) := by omega
        have HQ := Lib.hid hq
        clear hq
        by_cases hlt : j < zs.length
        · have hj1 : (j : Int) < (zs.length : Int) := by omega
          obtain ⟨bk, off, rfl, hbk, hc0, hwf⟩ := HZ.out j hlt
          have hc := (h1.below.cell (p := ⟨bk, off + j, none⟩) hbk).trans hc0
          generalize zs.getD j 0 = r at *
          clear hc0 hwf
          have cP := h1.pushNo (by have := HQ.out; rw [List.length_append]; simp; omega) r
          clear h1
          go_wp2_with fail
          refine cP.mono ?_
          rintro e w4 ⟨rfl, h4, _⟩
          clear cP hc
          go_wp2_with fail
          refine h4.over.mono ?_
          rintro e w5 ⟨rfl, rfl⟩
          go_wp2_with fail
          refine h4.settle.mono ?_
          rintro e w5 ⟨rfl, h5, _⟩
          clear h4
          go_wp2_with fail
          refine (h5.pop (by have := HQ.out; have := HN.out; omega)).mono ?_
          rintro e w6 ⟨rfl, h6, _⟩
          clear h5
          by_cases hx : x = 0
          · subst hx
            by_cases hr : r = 0
            · subst hr
              have cP := h6.push (by have := HQ.out; omega) (by have := HQ.out; have := HN.out; omega) 0
              clear h6
              go_wp2_with fail
              refine cP.mono ?_
              rintro e w7 ⟨rfl, h7, _⟩
              clear cP
              go_wp2_with fail
              refine h7.over.mono ?_
              rintro e w8 ⟨rfl, rfl⟩
              have cL := h7.len (i : Int) (by have := HQ.out; rw [List.length_append]; simp; omega)
              go_wp2_with fail
              refine cL.mono ?_
              rintro e w8 ⟨rfl, rfl⟩
              clear cL
              go_wp2_with fail
              refine (h7.pop (by have := HQ.out; have := HN.out; omega)).mono ?_
              rintro e w8 ⟨rfl, h8, _⟩
              clear h7
              have cP := h8.push (by have := HQ.out; omega) (by have := HQ.out; have := HN.out; omega) 0
              clear h8
              go_wp2_with fail
              refine cP.mono ?_
              rintro e w9 ⟨rfl, h9, _⟩
              clear cP
              go_wp2_with fail
              go_roundw
              case rel => exact ⟨j + 1, hlt, by go_num, q, 0, HQ.out, h9⟩
              case measure => simp [intOf]; omega
            · have cL := h6.len ((i : Int) - 1) (by have := HQ.out; omega)
              go_wp2_with fail
              refine cL.mono ?_
              rintro e w7 ⟨rfl, rfl⟩
              clear cL
              have cP := h6.push (by have := HQ.out; omega) (by have := HQ.out; have := HN.out; omega) r
              clear h6
              go_wp2_with fail
              refine cP.mono ?_
              rintro e w7 ⟨rfl, h7, _⟩
              clear cP
              go_wp2_with fail
              refine h7.over.mono ?_
              rintro e w8 ⟨rfl, rfl⟩
              have cL := h7.len (i : Int) (by have := HQ.out; rw [List.length_append]; simp; omega)
              go_wp2_with fail
              refine cL.mono ?_
              rintro e w8 ⟨rfl, rfl⟩
              clear cL
              go_wp2_with fail
              refine (h7.pop (by have := HQ.out; have := HN.out; omega)).mono ?_
              rintro e w8 ⟨rfl, h8, _⟩
              clear h7
              have cP := h8.push (by have := HQ.out; omega) (by have := HQ.out; have := HN.out; omega) r
              clear h8
              go_wp2_with fail
              refine cP.mono ?_
              rintro e w9 ⟨rfl, h9, _⟩
              clear cP
              go_wp2_with fail
              go_roundw
              case rel => exact ⟨j + 1, hlt, by go_num, q, r, HQ.out, h9⟩
              case measure => simp [intOf]; omega
          · have cP := h6.push (by have := HQ.out; omega) (by have := HQ.out; have := HN.out; omega) r
            clear h6
            go_wp2_with fail
            refine cP.mono ?_
            rintro e w7 ⟨rfl, h7, _⟩
            clear cP
            go_wp2_with fail
            refine h7.over.mono ?_
            rintro e w8 ⟨rfl, rfl⟩
            have cL := h7.len (i : Int) (by have := HQ.out; rw [List.length_append]; simp; omega)
            go_wp2_with fail
            refine cL.mono ?_
            rintro e w8 ⟨rfl, rfl⟩
            clear cL
            go_wp2_with fail
            refine (h7.pop (by have := HQ.out; have := HN.out; omega)).mono ?_
            rintro e w8 ⟨rfl, h8, _⟩
            clear h7
            have cP := h8.push (by have := HQ.out; omega) (by have := HQ.out; have := HN.out; omega) r
            clear h8
            go_wp2_with fail
            refine cP.mono ?_
            rintro e w9 ⟨rfl, h9, _⟩
            clear cP
            go_wp2_with fail
            go_roundw
            case rel => exact ⟨j + 1, hlt, by go_num, q, r, HQ.out, h9⟩
            case measure => simp [intOf]; omega
        · have hj1 : ¬ (j : Int) < (zs.length : Int) := by omega
          clear hlt hj hj0
          have cL := h1.len (i : Int) (by have := HQ.out; rw [List.length_append]; simp; omega)
          have hbl := h1.below
          go_wp2_with fail
          refine cL.mono ?_
          rintro e w8 ⟨rfl, rfl⟩
          clear cL h1
          go_wp2_with fail
          go_ret
          exact ⟨rfl, hbl⟩
theorem again_frame (lv : Int) (h : (Lit.int .u8 lv).wf = true) (a0 : Option Addr) (zs : List Int) (cap : Nat) (w : World) (hl : zs.length ≤ 9223372036854775807) (hZ : RefsAtW w a0 zs) :
    Calls Try.prog 5 #[.int .u8 lv, .slice a0 zs.length cap] w fun e w' => e = .returned (.bool true) ∧ Below w.heap.size w w' := by
  obtain ⟨n, rfl, hn⟩ := u8_natG h
  exact again_true n hn a0 zs cap w hl hZ
end Go.Proofs.Ytgpeppakohnmjaa
