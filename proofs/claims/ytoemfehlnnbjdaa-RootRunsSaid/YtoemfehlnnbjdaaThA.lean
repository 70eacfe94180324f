/- A thread: its blocks; find by halving; at this seat's numbers. -/
import Derived.Test.YtoemfehlnnbjdaaThM
import Derived.Test.YtoemfehlnnbjdaaProg
import Derived.WalkKit
import Derived.IntWalk
import Derived.Lib.Hide
import Derived.Deep.LoopGhost
namespace Go.Proofs.Ytoemfehlnnbjdaa
open Go Go.RowKit
set_option linter.unusedSimpArgs false
set_option linter.unusedVariables false

theorem isNaN_no (a : Int) (w : World) : Calls Try.prog 45 #[.int .i64 a] w fun e w' => e = .returned (.bool false) ∧ w = w' := by
  go_enter Try.func45, Try.ntmps45
  go_wp2_with fail
  go_ret
  exact ⟨rfl, rfl⟩
def cmpI (a b : Int) : Int := if a < b then -1 else if b < a then 1 else 0
theorem compare_any (a b : Int) (w : World) : Calls Try.prog 42 #[.int .i64 a, .int .i64 b] w fun e w' => e = .returned (.int .i64 (cmpI a b)) ∧ w = w' := by
  have h1 := isNaN_no a w
  have h2 := isNaN_no b w
  unfold cmpI
  by_cases hab : a < b
  · rw [if_pos hab]
    go_enter Try.func42, Try.ntmps42
    go_wp2_with fail
    refine h1.mono ?_
    rintro e w1 ⟨rfl, rfl⟩
    go_wp2_with fail
    refine h2.mono ?_
    rintro e w1 ⟨rfl, rfl⟩
    clear h1 h2
    go_wp2_with fail
    go_ret
    exact ⟨rfl, rfl⟩
  · rw [if_neg hab]
    by_cases hba : b < a
    · rw [if_pos hba]
      go_enter Try.func42, Try.ntmps42
      go_wp2_with fail
      refine h1.mono ?_
      rintro e w1 ⟨rfl, rfl⟩
      go_wp2_with fail
      refine h2.mono ?_
      rintro e w1 ⟨rfl, rfl⟩
      clear h1 h2
      go_wp2_with fail
      go_ret
      exact ⟨rfl, rfl⟩
    · rw [if_neg hba]
      go_enter Try.func42, Try.ntmps42
      go_wp2_with fail
      refine h1.mono ?_
      rintro e w1 ⟨rfl, rfl⟩
      go_wp2_with fail
      refine h2.mono ?_
      rintro e w1 ⟨rfl, rfl⟩
      clear h1 h2
      go_wp2_with fail
      go_ret
      exact ⟨rfl, rfl⟩
theorem cmpReg (n r i : Int) (w : World) : Calls Try.prog 41 #[.agg #[.int .i64 n, .int .i64 r], .int .i64 i] w fun e w' => e = .returned (.int .i64 (cmpI n i)) ∧ Below w.heap.size w w' := by
  have h1 := compare_any n i (w.alloc (.cells #[.int .i64 n, .int .i64 r] 67))
  have hB := (Below.refl w.heap.size w).alloc (Nat.le_refl _) (.cells #[.int .i64 n, .int .i64 r] 67)
  go_enter Try.func41, Try.ntmps41
  go_wp2_with fail
  refine h1.mono ?_
  rintro e w1 ⟨rfl, rfl⟩
  clear h1
  go_wp2_with fail
  go_ret
  exact ⟨rfl, hB⟩

/-- A row of registers in the heap. -/
def RegRow (w : World) (v : Value) (L : List (Nat × Int)) : Prop := w.ownsRow 0 67 2 v L.length (regCells L)
theorem RegRow.is {w : World} {v : Value} {L : List (Nat × Int)} (h : RegRow w v L) : (v = .slice none 0 0 ∧ L = []) ∨ ∃ g cap cur, v = .slice (some ⟨g, 0, none⟩) L.length cap ∧ Blk w g cur 67 ∧ L.length ≤ cap ∧ cap ≤ 9223372036854775807 ∧ cur.size = cap * 2 ∧
    ∀ t p, L[t]? = some p → w.cell? ⟨g, t * 2, none⟩ = some (.int .i64 (p.1 : Int)) ∧ w.cell? ⟨g, t * 2 + 1, none⟩ = some (.int .i64 p.2) := by
  have h0 := h
  rcases h.2 with ⟨h1, h2⟩ | ⟨g, cap, cur, rfl, _, hg, hn, hm, hs, ht⟩
  · exact .inl ⟨h1, List.length_eq_zero_iff.1 h2⟩
  · refine .inr ⟨g, cap, cur, rfl, hg, hn, hm, hs, fun t p hp => ?_⟩
    have hc := World.ownsRow.cells h0 (g := g) rfl
    obtain ⟨a1, a2⟩ := regCells_get L t p hp
    have b1 := hc _ _ a1
    have b2 := hc _ _ a2
    rw [Addr.add_lit] at b1 b2
    simp only [Nat.zero_add] at b1 b2
    exact ⟨b1, b2⟩
theorem RegRow.own {w : World} {v : Value} {L : List (Nat × Int)} (h : RegRow w v L) {k : Nat} (hk : v.ownBlock = some k) : ∃ cur, Blk w k cur 67 := by
  rcases h.is with ⟨rfl, _⟩ | ⟨g, cap, cur, rfl, hg, _⟩
  · cases hk
  · have : g = k := by simpa [Value.ownBlock] using hk
    subst this
    exact ⟨cur, hg⟩
theorem RegRow.turn {M : Nat → Prop} {w w' : World} {v : Value} {L : List (Nat × Int)} (h : RegRow w v L) (hT : Turn M w w') (hn : ∀ k, v.ownBlock = some k → ¬ M k) : RegRow w' v L := by
  refine ⟨h.1, ?_⟩
  rcases h.2 with h1 | ⟨g, cap, cur, rfl, hb, hg, rest⟩
  · exact .inl h1
  · exact .inr ⟨g, cap, cur, rfl, hb, (hT.block g (Array.getElem?_eq_some_iff.1 hg).1 (hn g rfl)).trans hg, rest⟩
theorem RegRow.lenRun {w : World} {v : Value} {L : List (Nat × Int)} (h : RegRow w v L) (ty : TypeId) (W : World) : (Builtin.len_ #[64] ty #[v]).run Try.prog W = .ok (.int .i64 (L.length : Int)) W := by
  rcases h.is with ⟨rfl, rfl⟩ | ⟨g, cap, cur, rfl, _⟩
  · kernel_rfl
  · simp [go_sem, Builtin.len_]

/-- Halving. -/
theorem halve (L : List (Nat × Int)) (i K : Nat) (hK : K ≤ L.length) (hlo : ∀ t (ht : t < L.length), t < K → L[t].1 < i) (hhi : ∀ t (ht : t < L.length), K ≤ t → i ≤ L[t].1) (hL : L.length ≤ 100000)
    (v : Value) (w : World) (hv : RegRow w v L) (q : Bool) (hq : (decide (K < L.length) && decide ((L.getD K (0, 0)).1 = i)) = q) :
    Calls Try.prog 40 #[v, .int .i64 (i : Int), .func (.func 41) #[] #[]] w fun e w' =>
      e = .returned (.tuple #[.int .i64 (K : Int), .bool q]) ∧ Below w.heap.size w w' := by
  rcases hv.is with ⟨rfl, rfl⟩ | ⟨g, cap, cur, rfl, hg, _, _, _, hc⟩
  · obtain rfl : K = 0 := by simpa using hK
    have e : q = false := by rw [← hq]; rfl
    subst e
    clear hlo hhi hv hq
    go_enter Try.func40, Try.ntmps40
    go_wp2_with fail
    go_loopw [9, 10] (fun v9 v10 wr => v9 = .int .i64 0 ∧ v10 = .int .i64 0 ∧ w = wr) (fun _ _ _ => 0)
    case atStart => exact ⟨rfl, rfl, rfl⟩
    case round =>
      obtain ⟨rfl, rfl, rfl⟩ := hrel
      go_wp2_with fail
      go_ret2
      exact ⟨rfl, Below.refl _ _⟩
  · have hgl := hg.lt
    have HC := Lib.hid hc
    have HLO := Lib.hid hlo
    have HHI := Lib.hid hhi
    have HQ := Lib.hid hq
    clear hc hlo hhi hv hq
    go_enter Try.func40, Try.ntmps40
    go_wp2_with fail
    go_loopw [9, 10] (fun v9 v10 wr => ∃ lo hi : Nat, v9 = .int .i64 (lo : Int) ∧ v10 = .int .i64 (hi : Int) ∧ lo ≤ K ∧ K ≤ hi ∧ hi ≤ L.length ∧ Below w.heap.size w wr) (fun v9 v10 _ => (intOf v10).toNat - (intOf v9).toNat)
    case atStart => exact ⟨0, L.length, rfl, rfl, Nat.zero_le _, hK, Nat.le_refl _, Below.refl _ _⟩
    case round =>
      obtain ⟨lo, hi, rfl, rfl, h1, h2, h3, hB⟩ := hrel
      by_cases hlt : lo < hi
      · have hhl : (lo + hi) / 2 < L.length := by omega
        obtain ⟨p, hp⟩ : ∃ p, L[(lo + hi) / 2]? = some p := ⟨_, List.getElem?_eq_getElem hhl⟩
        have hpe : L[(lo + hi) / 2] = p := by rw [List.getElem?_eq_getElem hhl] at hp; exact Option.some.inj hp
        obtain ⟨c0, c1⟩ := HC.out _ p hp
        replace c0 := (hB.cell (p := ⟨g, (lo + hi) / 2 * 2, none⟩) hgl).trans c0
        replace c1 := (hB.cell (p := ⟨g, (lo + hi) / 2 * 2 + 1, none⟩) hgl).trans c1
        have hI : (lo : Int) < (hi : Int) := by omega
        have cm := cmpReg (p.1 : Int) p.2 (i : Int) wr
        by_cases hpi : p.1 < i
        · have e2 : cmpI (p.1 : Int) (i : Int) = -1 := by unfold cmpI; rw [if_pos (by omega)]
          have HK1 : Hid ((lo + hi) / 2 < K) := Lib.hid (by
            apply Decidable.byContradiction
            intro hn
            have := HHI.out _ hhl (by omega)
            rw [hpe] at this
            omega)
          rw [e2] at cm
          clear hp hpe e2 hpi
          go_wp2_with fail
          refine cm.mono ?_
          rintro e w1 ⟨rfl, hB1⟩
          clear cm c0 c1
          go_wp2_with fail
          go_roundw
          case rel => exact ⟨(lo + hi) / 2 + 1, hi, by go_num, rfl, by have := HK1.out; omega, h2, h3, hB.trans (hB1.mono hB.size)⟩
          case measure => simp [intOf]; omega
        · have e2 : ¬ cmpI (p.1 : Int) (i : Int) < 0 := by unfold cmpI; rw [if_neg (by omega)]; split <;> omega
          have HK1 : Hid (K ≤ (lo + hi) / 2) := Lib.hid (by
            apply Decidable.byContradiction
            intro hn
            have := HLO.out _ hhl (by omega)
            rw [hpe] at this
            omega)
          generalize cmpI (p.1 : Int) (i : Int) = cc at *
          clear hp hpe hpi
          go_wp2_with fail
          refine cm.mono ?_
          rintro e w1 ⟨rfl, hB1⟩
          clear cm c0 c1
          go_wp2_with fail
          go_roundw
          case rel => exact ⟨lo, (lo + hi) / 2, rfl, by go_num, h1, by have := HK1.out; omega, by omega, hB.trans (hB1.mono hB.size)⟩
          case measure => simp [intOf]; omega
      · obtain rfl : lo = K := by omega
        obtain rfl : hi = lo := by omega
        by_cases hn : hi < L.length
        · obtain ⟨p, hp⟩ : ∃ p, L[hi]? = some p := ⟨_, List.getElem?_eq_getElem hn⟩
          obtain ⟨c0, c1⟩ := HC.out _ p hp
          replace c0 := (hB.cell (p := ⟨g, hi * 2, none⟩) hgl).trans c0
          replace c1 := (hB.cell (p := ⟨g, hi * 2 + 1, none⟩) hgl).trans c1
          have cm := cmpReg (p.1 : Int) p.2 (i : Int) wr
          have hIn : (hi : Int) < (L.length : Int) := by omega
          have eq : (cmpI (p.1 : Int) (i : Int) == 0) = q := by
            rw [← HQ.out, decide_eq_true hn]
            have e2 : L.getD hi (0, 0) = p := by simp [List.getD, hp]
            rw [e2]
            unfold cmpI
            split
            · rw [decide_eq_false (by omega)]; rfl
            · split
              · rw [decide_eq_false (by omega)]; rfl
              · rw [decide_eq_true (by omega)]; rfl
          generalize cmpI (p.1 : Int) (i : Int) = cc at *
          clear hp
          go_wp2_with fail
          refine cm.mono ?_
          rintro e w1 ⟨rfl, hB1⟩
          clear cm c0 c1
          go_wp2_with fail
          go_ret2
          exact ⟨by simp, hB.trans (hB1.mono hB.size)⟩
        · have hIn : ¬ (hi : Int) < (L.length : Int) := by omega
          have e : q = false := by rw [← HQ.out, decide_eq_false hn]; rfl
          subst e
          go_wp2_with fail
          go_ret2
          exact ⟨rfl, hB⟩
end Go.Proofs.Ytoemfehlnnbjdaa
