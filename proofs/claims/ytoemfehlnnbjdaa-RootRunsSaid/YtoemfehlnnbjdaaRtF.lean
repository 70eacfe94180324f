/- How many threads live; configurations; fit; at this seat's numbers. -/
import Derived.Test.YtoemfehlnnbjdaaRtC
import Derived.Test.YtoemfehlnnbjdaaRtN
import Derived.Test.YtoemfehlnnbjdaaGrow
namespace Go.Proofs.Ytoemfehlnnbjdaa
open Go Go.RowKit Go.Shelf
set_option linter.unusedSimpArgs false
set_option linter.unusedVariables false
attribute [local go_sem] Oper.semAt_some

set_option maxRecDepth 100000 in
set_option maxHeartbeats 4000000 in
theorem RtIn.count {B t N : Nat} {F : Nat → Prop} {regs stk : Int} {gl : List Int} {th : Nat → Option TM} {wb w : World} (h : RtIn B F t N regs stk gl th wb w) (c : Nat) (hc : (liveT th 4).length = c) : Calls Try.prog 16 #[.pointer (some ⟨t, 0, none⟩)] w fun e w' =>
    e = .returned (.int .i64 (c : Int)) ∧ Below w.heap.size w w' := by
  obtain ⟨R, rfl, hA, _⟩ := h.ex
  obtain ⟨M, hM⟩ : ∃ M : Nat, 8 ≤ M := ⟨8, Nat.le_refl _⟩
  have hc4 : c ≤ 4 := by rw [← hc]; exact liveT_length th 4
  have HC := Lib.hid hc
  clear h hc
  refine calls_of_wp_marks Try.func16 rfl M ?_
  simp only [Try.ntmps16, List.size_toArray, List.length_cons, List.length_nil, Nat.reduceAdd, Nat.reduceSub, Array.replicate_succ, Array.replicate_zero, List.push_toArray, List.append_toArray, List.nil_append, List.cons_append]
  have hB1 := (Below.refl w.heap.size w).alloc (Nat.le_refl _) (.cells #[.int .i64 0] 3)
  have hB2 := hB1.alloc (by simp) (.cells #[.pointer (some ⟨R.t, 0, none⟩)] 27)
  have hA2 := hA.below hB2
  have hk := (Blk.new w #[.int .i64 0] 3).alloc (.cells #[.pointer (some ⟨R.t, 0, none⟩)] 27)
  have hx := (Blk.new (w.alloc (.cells #[.int .i64 0] 3)) #[.pointer (some ⟨R.t, 0, none⟩)] 27).cell 0
  have hs1 : (w.alloc (.cells #[.int .i64 0] 3)).heap.size = w.heap.size + 1 := by simp
  have hs2 : ((w.alloc (.cells #[.int .i64 0] 3)).alloc (.cells #[.pointer (some ⟨R.t, 0, none⟩)] 27)).heap.size = w.heap.size + 2 := by simp
  rw [hs1] at hx
  have HS2 := Lib.hid hs2
  have HX := Lib.hid hx
  clear hs1 hs2 hx
  gi_wp2_with fail
  refine ⟨trivial, fun h => (by cases h), ?_⟩
  refine (callsIn_wide.2 (threadsfn_any R.t _)).mono ?_
  rintro e w' ⟨rfl, rfl⟩
  gi_wp2_with fail
  have hs2 := HS2.out
  have hx := HX.out
  clear HS2 HX
  generalize (w.alloc (.cells #[.int .i64 0] 3)).alloc (.cells #[.pointer (some ⟨R.t, 0, none⟩)] 27) = V7 at *
  have hlt7 := hA2.lt
  have hAlt := hA.lt
  refine wpIn_rangeFunc_ownF rfl (by omega) (gf := 34) (lb := #[.pointer (some ⟨w.heap.size + 1, 0, none⟩)]) rfl trivial (enters_of Try.func34 (by kernel_rfl) rfl)
    (threads_stops (M - 1) (w.heap.size + 1) V7 hA2 hx) KpRt.trans (fun W l o o' hl ho hc _ => KpRt.putObj hlt7 (by omega) W l o o' hl ho hc) (Below.refl _ _) (fun _ => rfl)
    (fun (pre : List (LiveOf th)) V => Blk V w.heap.size #[.int .i64 (pre.length : Int)] 3 ∧ Below w.heap.size w V ∧ V7.heap.size ≤ V.heap.size)
    (fun c (pre : List (LiveOf th)) V => False)
    (fun s V V' row hs hg hr => ⟨hs.1.keptT hg (fun r e => (hr r e).2), (ownFrom_below (β := Unit) (Nat.le_refl _) (by omega)) () V V' row hs.2.1 hg hr, Nat.le_trans hs.2.2 hg.size⟩)
    (fun c s V V' row hs hg hr => hs)
    ⟨hk, hB2, Nat.le_refl _⟩ ?a1 ?assign ?body ?done ?stop
  case assign =>
    intro l0 x W K hK
    gi_wp2
    exact hK
  case body =>
    rintro l0 pre x V ⟨hk, hbl, hVs⟩ hpl
    have ck := hk.cell 0
    have zk := hk.free 0
    simp only [List.getElem?_toArray, List.getElem?_cons_zero] at ck
    have hT : Turn (fun k => k = w.heap.size) V (V.setCell ⟨w.heap.size, 0, none⟩ (.int .i64 ((pre.length : Int) + 1))) := (Turn.refl _ V).set _ _ (.inr rfl)
    have hkp : KpRt R th (w.heap.size + 1) V7.heap.size V (V.setCell ⟨w.heap.size, 0, none⟩ (.int .i64 ((pre.length : Int) + 1))) := KpRt.ofTurn (fun k hk => by have := hlt7 k hk; omega) (by omega) hT (fun k hk e => by have := hAlt k hk; have e2 : k = w.heap.size := e; omega) (fun e => by have e2 : w.heap.size + 1 = w.heap.size := e; omega) (fun k hk e => by have e2 : k = w.heap.size := e; omega)
    have hbl2 := hbl.setCell (p := ⟨w.heap.size, 0, none⟩) (Nat.le_refl _) (.int .i64 ((pre.length : Int) + 1))
    have hk2 : Blk (V.setCell ⟨w.heap.size, 0, none⟩ (.int .i64 ((pre.length : Int) + 1))) w.heap.size #[.int .i64 ((pre ++ [x]).length : Int)] 3 := by
      refine (hk.setAt 0 _).is ?_
      have e : (((pre ++ [x]).length : Nat) : Int) = (pre.length : Int) + 1 := by simp
      rw [e]; simp
    have HG := Lib.hid (And.intro hk2 (And.intro hbl2 (show V7.heap.size ≤ (V.setCell ⟨w.heap.size, 0, none⟩ (.int .i64 ((pre.length : Int) + 1))).heap.size by simpa using hVs)))
    have HKP := Lib.hid hkp
    have hpl2 : (pre.length : Int) ≤ 100 := by omega
    clear hT hkp hbl2 hk2 hk
    gi_wp2_with fail
    exact ⟨KeepsOthers.setCell _ _ _, HKP.out, HG.out⟩
  case done =>
    rintro D xs V hD hxs ⟨hk, hbl, hVs⟩ hK
    have ck := hk.cell 0
    simp only [List.getElem?_toArray, List.getElem?_cons_zero] at ck
    have hlen : xs.length = c := by
      have h1 : xs.map Subtype.val = liveT th 4 := hxs
      rw [← HC.out, ← h1, List.length_map]
    rw [hlen] at ck
    have hDl : D < V.heap.size := (Array.getElem?_eq_some_iff.mp hK).1
    clear hxs hlen hk HC
    gi_wp2_with fail
    refine leavesP_marks (B := w.heap.size) (hi := D + 1) ⟨D, rfl, by omega, by omega, hK, trivial⟩ (by omega) fun w' hb _ _ => ?_
    exact ⟨_, by simp [results, Try.f16, go_sem], rfl, hbl.trans hb⟩
  case stop =>
    rintro D c pre V hD _ h
    exact h.elim

theorem config_any (a b : Int) (x y : Nat) (hx3 : x ≤ 3) (hy3 : y ≤ 3) (hx : bits .and .i64 a 3 = (x : Int)) (hy : bits .and .i64 b 3 = (y : Int)) (w : World) : Calls Try.prog 9 #[.int .i64 a, .int .i64 b] w fun e w' =>
    e = .returned (.agg #[.int .i64 0, .bool false, .int .i64 0, .int .i64 ((1 + x : Nat) : Int), .int .i64 2, .int .i64 2, .int .i64 (y : Int), .int .i64 0, .int .i64 0, .int .i64 0, .int .i64 0]) ∧ Below w.heap.size w w' := by
  have hB := (Below.refl w.heap.size w).alloc (Nat.le_refl _) (.cells #[.int .i64 0, .bool false, .int .i64 0, .int .i64 0, .int .i64 0, .int .i64 0, .int .i64 0, .int .i64 0, .int .i64 0, .int .i64 0, .int .i64 0] 25)
  have hxI : (x : Int) ≤ 3 := by omega
  have hx0 : (0 : Int) ≤ (x : Int) := by omega
  rw [show (((1 + x : Nat)) : Int) = 1 + (x : Int) by omega]
  go_enter Try.func9, Try.ntmps9
  go_wp2_with fail
  refine bodyPost_ret (v := .agg #[.int .i64 0, .bool false, .int .i64 0, .int .i64 (1 + (x : Int)), .int .i64 2, .int .i64 2, .int .i64 (y : Int), .int .i64 0, .int .i64 0, .int .i64 0, .int .i64 0]) ?_ rfl ⟨rfl, (Below.refl w.heap.size w).alloc (Nat.le_refl _) _⟩
  simp [results, Try.f9, go_sem]
end Go.Proofs.Ytoemfehlnnbjdaa
