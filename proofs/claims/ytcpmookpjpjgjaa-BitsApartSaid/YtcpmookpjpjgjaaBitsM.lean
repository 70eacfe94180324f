/- BitsApart and BitsNear, walked, at this seat's numbers. -/
import Derived.Test.YtcpmookpjpjgjaaBitsL
namespace Go.Proofs.Ytcpmookpjpjgjaa
open Go.RowKit Go.MuLone Go.RwLone

/-- The numbers below k. -/
def upTo (k : Nat) : Nat → Bool := fun j => decide (j < k)
theorem upTo_zero : upTo 0 = fun _ => false := by funext j; simp [upTo]
theorem upTo_succ (k : Nat) : upTo (k + 1) = fun j => upTo k j || decide (j = k) := by
  funext j
  by_cases h : j = k
  · subst h; simp [upTo]
  · have e : decide (j < k + 1) = decide (j < k) := by rw [Bool.eq_iff_iff]; simp; omega
    simp [upTo, h, e]
theorem upTo_at (k : Nat) : upTo k k = false := by simp [upTo]
theorem card_upTo (k : Nat) (hk : k ≤ 4096) : card (upTo k) = k := by
  induction k with
  | zero => rw [upTo_zero]; exact card_none _ (fun _ => rfl)
  | succ k ih => rw [upTo_succ, card_put _ _ (by omega) (upTo_at k), ih (by omega)]

/-- What holds at the head of BitsApart's loop. -/
def ApartRel (w : World) (a b m : Nat) (c : Value) (wr : World) : Prop :=
  ∃ (j : Nat) (la lb : Option Nat), j ≤ m ∧ c = .int .i64 (j : Int) ∧ SetAt wr a la m (upTo j) ∧ SetAt wr b lb m (fun _ => false) ∧ OwnSet w.heap.size a la ∧ OwnSet w.heap.size b lb ∧ Sep a la b lb ∧ Below w.heap.size w wr

set_option maxRecDepth 100000 in
set_option maxHeartbeats 4000000 in
theorem apart_true (n k : Int) (w : World) : Calls Try.prog 3 #[.int .i64 n, .int .i64 k] w fun e w' => e = .returned (.bool true) ∧ Below w.heap.size w w' := by
  go_enter Try.func3, Try.ntmps3
  go_wp2_with fail
  refine (fit_true _).mono ?_
  rintro e w1 ⟨rfl, hB⟩
  go_wp2_with fail
  refine (size_any n _).mono ?_
  rintro e w' ⟨m, hm, rfl, rfl⟩
  go_wp2_with fail
  refine (new_at _ (by omega) _ m (by omega)).mono ?_
  rintro e w2 ⟨a, ha, rfl, hA, hT⟩
  have hs := hB.size
  have ho : OwnSet w.heap.size a none := ⟨by omega, fun l e => (by cases e)⟩
  replace hB := hB.trans (hT.below w.heap.size (by omega) (fun _ _ h => h))
  clear hT
  replace hs := hB.size
  go_wp2_with fail
  refine (new_at _ (by omega) _ m (by omega)).mono ?_
  rintro e w3 ⟨b, hb, rfl, hA2, hT⟩
  have ho2 : OwnSet w.heap.size b none := ⟨by omega, fun l e => (by cases e)⟩
  have hsep : Sep a none b none := ⟨by have := hA.lt.1; omega, fun l e => (by cases e), fun l e => (by cases e), fun l e => (by cases e)⟩
  replace hA := hA.turn hT (fun h => h) (fun _ _ h => h)
  replace hB := hB.trans (hT.below w.heap.size (by omega) (fun _ _ h => h))
  clear hT hs ha hb
  go_wp2_with fail
  go_loopw [17] (fun c wr => ApartRel w a b m c wr) (fun c _ => m - (intOf c).toNat)
  case atStart => exact ⟨0, none, none, Nat.zero_le _, rfl, by rw [upTo_zero]; exact hA, hA2, ho, ho2, hsep, hB⟩
  case round =>
    clear hA hA2 ho ho2 hsep hB
    obtain ⟨j, la, lb, hj, rfl, hA, hA2, ho, ho2, hsep, hB⟩ := hrel
    have hs := hB.size
    by_cases hlt : j < m
    · have hm1 := hm
      go_wp2_with fail
      refine (put_at a la m _ (upTo (j + 1)) true j _ hlt hA (by rw [upTo_at]; rfl) (upTo_succ j)).mono ?_
      intro e w4 hP
      obtain ⟨la4, rfl, hA4, ho4, hB4, hoth⟩ := hP.open ho hs
      obtain ⟨hA5, hsep4⟩ := hoth b lb m _ hA2 hsep
      clear hP hoth hA hA2 hsep ho
      replace hB := hB.trans hB4
      replace hs := hB.size
      clear hB4
      go_wp2_with fail
      refine (has_at b lb m _ false j _ hlt hA5 rfl).mono ?_
      intro e w5 hP
      obtain ⟨lb5, rfl, hA6, ho5, hB5, hoth⟩ := hP.open ho2 hs
      obtain ⟨hA7, hsep5⟩ := hoth a la4 m _ hA4 hsep4.symm
      clear hP hoth hA4 hA5 hsep4 ho2
      replace hB := hB.trans hB5
      replace hs := hB.size
      clear hB5
      go_wp2_with fail
      go_roundw
      case rel => exact ⟨j + 1, la4, lb5, by omega, by go_num, hA7, hA6, ho4, ho5, hsep5.symm, hB⟩
      case measure => simp [intOf]; omega
    · obtain rfl : j = m := by omega
      have hcard := card_upTo j (by omega)
      go_wp2_with fail
      refine (count_at a la j _ j _ hA (by rw [hcard])).mono ?_
      intro e w4 hP
      obtain ⟨rfl, hA4, hB4, hoth⟩ := hP.open ho hs
      have hA5 := hoth b lb j _ hA2 hsep
      clear hP hoth hA hA2
      replace hB := hB.trans hB4
      replace hs := hB.size
      clear hB4
      go_wp2_with fail
      refine (count_at b lb j _ 0 _ hA5 (by rw [card_none _ (fun _ => rfl)]; rfl)).mono ?_
      intro e w5 hP
      obtain ⟨rfl, hA6, hB5, hoth⟩ := hP.open ho2 hs
      have hA7 := hoth a la j _ hA4 hsep.symm
      clear hP hoth hA4 hA5
      replace hB := hB.trans hB5
      replace hs := hB.size
      clear hB5
      by_cases h0 : j = 0
      · have e0 : ((j : Int) == 0) = true := by rw [beq_iff_eq]; omega
        go_wp2_with fail
        refine (count_at a la j _ 0 _ hA7 (by rw [hcard]; omega)).mono ?_
        intro e w6 hP
        obtain ⟨rfl, _, hB6, _⟩ := hP.open ho hs
        replace hB := hB.trans hB6
        clear hP hB6 hA6 hA7
        go_wp2_with fail
        go_ret
        exact ⟨rfl, hB⟩
      · have e0 : ((j : Int) == 0) = false := by rw [beq_eq_false_iff_ne]; omega
        obtain ⟨r, hr, he⟩ := i64_and_mask k 65535 (by decide)
        replace he : bits .and .i64 k 65535 = (r : Int) := he
        have hlt : r % j < j := Nat.mod_lt _ (by omega)
        have hcd := card_drop (upTo j) (r % j) (by omega) (by simp [upTo, hlt])
        rw [hcard] at hcd
        have HCD : Hid (j = card (fun i => upTo j i && !decide (i = r % j)) + 1) := hcd
        clear hcd hcard
        go_wp2_with fail
        rw [← Int.natCast_emod]
        generalize r % j = q at *
        clear he hr
        refine (drop_at a la j _ (fun i => upTo j i && !decide (i = q)) true q _ hlt hA7 (by simp [upTo, hlt]) rfl).mono ?_
        intro e w6 hP
        obtain ⟨la6, rfl, hA8, ho6, hB6, hoth⟩ := hP.open ho hs
        obtain ⟨hA9, hsep6⟩ := hoth b lb j _ hA6 hsep
        clear hP hoth hA7 hA6 ho hsep
        replace hB := hB.trans hB6
        replace hs := hB.size
        clear hB6
        go_wp2_with fail
        refine (has_at a la6 j _ false q _ hlt hA8 (by simp)).mono ?_
        intro e w7 hP
        obtain ⟨la7, rfl, hA10, ho7, hB7, hoth⟩ := hP.open ho6 hs
        obtain ⟨hA11, hsep7⟩ := hoth b lb j _ hA9 hsep6
        clear hP hoth hA8 hA9 ho6 hsep6
        replace hB := hB.trans hB7
        replace hs := hB.size
        clear hB7
        go_wp2_with fail
        refine (count_at a la7 j _ ((j : Int) - 1) _ hA10 (by have := HCD.out; omega)).mono ?_
        intro e w8 hP
        obtain ⟨rfl, hA12, hB8, hoth⟩ := hP.open ho7 hs
        have hA13 := hoth b lb j _ hA11 hsep7
        clear hP hoth hA10 hA11 hA12
        replace hB := hB.trans hB8
        replace hs := hB.size
        clear hB8 HCD
        go_wp2_with fail
        refine (put_at b lb j _ (fun i => decide (i = q)) true q _ hlt hA13 rfl (by funext i; simp)).mono ?_
        intro e w9 hP
        obtain ⟨lb9, rfl, hA14, ho9, hB9, _⟩ := hP.open ho2 hs
        clear hP hA13 ho2
        replace hB := hB.trans hB9
        replace hs := hB.size
        clear hB9
        go_wp2_with fail
        refine (count_at b lb9 j _ 1 _ hA14 (by rw [card_one q (by omega)]; rfl)).mono ?_
        intro e w10 hP
        obtain ⟨rfl, _, hB10, _⟩ := hP.open ho9 hs
        replace hB := hB.trans hB10
        clear hP hB10 hA14
        go_wp2_with fail
        go_ret
        exact ⟨rfl, hB⟩
end Go.Proofs.Ytcpmookpjpjgjaa
