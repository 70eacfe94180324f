/- BitsNear, walked, at this seat's numbers. -/
import Derived.Test.YtcpmookpjpjgjaaBitsL
namespace Go.Proofs.Ytcpmookpjpjgjaa
open Go.RowKit Go.MuLone Go.RwLone

/-- The numbers below k that are even as i is, or odd. -/
def parTo (i k : Nat) : Nat → Bool := fun j => decide (j < k) && decide (j % 2 = i % 2)
theorem parTo_zero (i : Nat) : parTo i 0 = fun _ => false := by funext j; simp [parTo]
theorem parTo_yes (i k : Nat) (h : k % 2 = i % 2) : parTo i (k + 1) = fun j => parTo i k j || decide (j = k) := by
  funext j
  by_cases e : j = k
  · subst e; simp [parTo, h]
  · have e2 : decide (j < k + 1) = decide (j < k) := by rw [Bool.eq_iff_iff]; simp; omega
    simp [parTo, e, e2]
theorem parTo_no (i k : Nat) (h : ¬ k % 2 = i % 2) : parTo i (k + 1) = parTo i k := by
  funext j
  by_cases e : j = k
  · subst e; simp [parTo, h]
  · have e2 : decide (j < k + 1) = decide (j < k) := by rw [Bool.eq_iff_iff]; simp; omega
    simp [parTo, e2]

/-- What holds at the head of the first loop. -/
def NearRel1 (w : World) (b m i : Nat) (c : Value) (wr : World) : Prop :=
  ∃ (j : Nat) (lo : Option Nat), j ≤ m ∧ c = .int .i64 (j : Int) ∧ SetAt wr b lo m (parTo i j) ∧ OwnSet w.heap.size b lo ∧ Below w.heap.size w wr
/-- What holds at the head of the second loop. -/
def NearRel2 (w : World) (b m i : Nat) (c : Value) (wr : World) : Prop :=
  ∃ (j : Nat) (lo : Option Nat), j ≤ m ∧ c = .int .i64 (j : Int) ∧ SetAt wr b lo m (fun x => parTo i m x && !decide (x = i)) ∧ OwnSet w.heap.size b lo ∧ Below w.heap.size w wr

set_option maxRecDepth 100000 in
set_option maxHeartbeats 4000000 in
theorem near_true (n i : Int) (w : World) : Calls Try.prog 4 #[.int .i64 n, .int .i64 i] w fun e w' => e = .returned (.bool true) ∧ Below w.heap.size w w' := by
  obtain ⟨r, _, he⟩ := i64_and_mask i 65535 (by decide)
  replace he : bits .and .i64 i 65535 = (r : Int) := he
  go_enter Try.func4, Try.ntmps4
  go_wp2_with fail
  refine (fit_true _).mono ?_
  rintro e w1 ⟨rfl, hB⟩
  go_wp2_with fail
  refine (size_any n _).mono ?_
  rintro e w' ⟨m, hm, rfl, rfl⟩
  go_wp2_with fail
  rw [show (1 + (m : Int)) = ((m + 1 : Nat) : Int) by omega, ← Int.natCast_emod]
  have hq : r % (m + 1) < m + 1 := Nat.mod_lt _ (by omega)
  have hm1 : m + 1 ≤ 301 := by omega
  generalize r % (m + 1) = q at *
  generalize m + 1 = M at *
  clear he hm
  refine (new_at _ (by omega) _ M (by omega)).mono ?_
  rintro e w2 ⟨b, ha, rfl, hA, hT⟩
  have hs := hB.size
  have ho : OwnSet w.heap.size b none := ⟨by omega, fun l e => (by cases e)⟩
  replace hB := hB.trans (hT.below w.heap.size (by omega) (fun _ _ h => h))
  clear hT ha hs
  go_wp2_with fail
  go_loopw [21] (fun c wr => NearRel1 w b M q c wr) (fun c _ => M - (intOf c).toNat)
  case atStart => exact ⟨0, none, Nat.zero_le _, rfl, by rw [parTo_zero]; exact hA, ho, hB⟩
  case round =>
    clear hA ho hB
    obtain ⟨j, lo, hj, rfl, hA, ho, hB⟩ := hrel
    have hs := hB.size
    by_cases hlt : j < M
    · by_cases hp : j % 2 = q % 2
      · have hpi : (((j : Int) % 2) == ((q : Int) % 2)) = true := by rw [beq_iff_eq]; omega
        go_wp2_with fail
        refine (put_at b lo M _ (parTo q (j + 1)) true j _ hlt hA (by simp [parTo]) (parTo_yes q j hp)).mono ?_
        intro e w4 hP
        obtain ⟨la4, rfl, hA4, ho4, hB4, _⟩ := hP.open ho hs
        clear hP hA ho
        replace hB := hB.trans hB4
        clear hB4
        go_wp2_with fail
        go_roundw
        case rel => exact ⟨j + 1, la4, by omega, by go_num, hA4, ho4, hB⟩
        case measure => simp [intOf]; omega
      · have hpi : (((j : Int) % 2) == ((q : Int) % 2)) = false := by rw [beq_eq_false_iff_ne]; omega
        go_wp2_with fail
        go_roundw
        case rel => exact ⟨j + 1, lo, by omega, by go_num, by rw [parTo_no q j hp]; exact hA, ho, hB⟩
        case measure => simp [intOf]; omega
    · obtain rfl : j = M := by omega
      obtain ⟨c, hc⟩ : ∃ c, c = card (parTo q j) := ⟨_, rfl⟩
      have hc4 : c ≤ 4096 := by rw [hc]; exact cnt_le _ _ _
      have hq1 : parTo q j q = true := by simp [parTo, hq]
      have hcd := card_drop (parTo q j) q (by omega) hq1
      rw [← hc] at hcd
      have HC : Hid (c = card (parTo q j)) := hc
      have HD : Hid (c = card (fun x => parTo q j x && !decide (x = q)) + 1) := hcd
      have hc1 : 1 ≤ c := by omega
      clear hc hcd
      have hm301 := hm1
      go_wp2_with fail
      refine (count_at b lo j _ c _ hA (by rw [HC.out])).mono ?_
      intro e w4 hP
      obtain ⟨rfl, hA4, hB4, _⟩ := hP.open ho hs
      clear hP hA
      replace hB := hB.trans hB4
      replace hs := hB.size
      clear hB4
      go_wp2_with fail
      refine (drop_at b lo j _ (fun x => parTo q j x && !decide (x = q)) true q _ hq hA4 hq1.symm rfl).mono ?_
      intro e w5 hP
      obtain ⟨lo5, rfl, hA5, ho5, hB5, _⟩ := hP.open ho hs
      clear hP hA4 ho
      replace hB := hB.trans hB5
      replace hs := hB.size
      clear hB5
      go_wp2_with fail
      refine (count_at b lo5 j _ ((c : Int) - 1) _ hA5 (by have := HD.out; omega)).mono ?_
      intro e w6 hP
      obtain ⟨rfl, hA6, hB6, _⟩ := hP.open ho5 hs
      clear hP hA5
      replace hB := hB.trans hB6
      replace hs := hB.size
      clear hB6
      go_wp2_with fail
      go_loopw [47] (fun c wr => NearRel2 w b j q c wr) (fun c _ => j - (intOf c).toNat)
      case atStart => exact ⟨0, lo5, Nat.zero_le _, rfl, hA6, ho5, hB⟩
      case round =>
        clear hA6 ho5 hB
        obtain ⟨x, lo, hx, rfl, hA, ho, hB⟩ := hrel
        replace hs := hB.size
        by_cases hlt2 : x < j
        · by_cases hp : x % 2 = q % 2
          · have hpi : (((x : Int) % 2) == ((q : Int) % 2)) = true := by rw [beq_iff_eq]; omega
            by_cases hxq : x = q
            · have hxi : (((x : Int)) != (q : Int)) = false := by rw [bne_eq_false_iff_eq]; omega
              have hv : Hid (false = (fun y => parTo q j y && !decide (y = q)) x) := by show _ = _; subst hxq; simp
              clear hp hxq
              go_wp2_with fail
              refine (has_at b lo j _ false x _ hlt2 hA (Hid.out hv)).mono ?_
              intro e w7 hP
              obtain ⟨lo7, rfl, hA7, ho7, hB7, _⟩ := hP.open ho hs
              clear hP hA ho
              replace hB := hB.trans hB7
              clear hB7 hs
              go_wp2_with fail
              go_roundw
              case rel => exact ⟨x + 1, lo7, by omega, by go_num, hA7, ho7, hB⟩
              case measure => simp [intOf]; omega
            · have hxi : (((x : Int)) != (q : Int)) = true := by rw [bne_iff_ne]; omega
              have hv : Hid (true = (fun y => parTo q j y && !decide (y = q)) x) := by show _ = _; simp [parTo, hlt2, hp, hxq]
              clear hp hxq
              go_wp2_with fail
              refine (has_at b lo j _ true x _ hlt2 hA (Hid.out hv)).mono ?_
              intro e w7 hP
              obtain ⟨lo7, rfl, hA7, ho7, hB7, _⟩ := hP.open ho hs
              clear hP hA ho
              replace hB := hB.trans hB7
              clear hB7 hs
              go_wp2_with fail
              go_roundw
              case rel => exact ⟨x + 1, lo7, by omega, by go_num, hA7, ho7, hB⟩
              case measure => simp [intOf]; omega
          · have hpi : (((x : Int) % 2) == ((q : Int) % 2)) = false := by rw [beq_eq_false_iff_ne]; omega
            have hv : Hid (false = (fun y => parTo q j y && !decide (y = q)) x) := by show _ = _; simp [parTo, hp]
            clear hp
            go_wp2_with fail
            refine (has_at b lo j _ false x _ hlt2 hA (Hid.out hv)).mono ?_
            intro e w7 hP
            obtain ⟨lo7, rfl, hA7, ho7, hB7, _⟩ := hP.open ho hs
            clear hP hA ho
            replace hB := hB.trans hB7
            clear hB7 hs
            go_wp2_with fail
            go_roundw
            case rel => exact ⟨x + 1, lo7, by omega, by go_num, hA7, ho7, hB⟩
            case measure => simp [intOf]; omega
        · obtain rfl : x = j := by omega
          go_wp2_with fail
          refine (put_at b lo x _ (parTo q x) true q _ hq hA (by simp) (by
            funext y
            by_cases e : y = q
            · subst e; simp [hq1]
            · simp [e])).mono ?_
          intro e w7 hP
          obtain ⟨lo7, rfl, hA7, ho7, hB7, _⟩ := hP.open ho hs
          clear hP hA ho
          replace hB := hB.trans hB7
          replace hs := hB.size
          clear hB7
          go_wp2_with fail
          refine (count_at b lo7 x _ c _ hA7 (by rw [HC.out])).mono ?_
          intro e w8 hP
          obtain ⟨rfl, _, hB8, _⟩ := hP.open ho7 hs
          replace hB := hB.trans hB8
          clear hP hB8 hA7
          go_wp2_with fail
          go_ret
          exact ⟨rfl, hB⟩
end Go.Proofs.Ytcpmookpjpjgjaa
