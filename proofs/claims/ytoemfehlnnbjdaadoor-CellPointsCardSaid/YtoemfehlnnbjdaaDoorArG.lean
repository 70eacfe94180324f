/- used, Give, at this seat's numbers. -/
import Derived.Test.YtoemfehlnnbjdaaDoorArF
namespace Go.Proofs.YtoemfehlnnbjdaaDoor
open Go Go.RowKit Go.Shelf Go.MuLone Go.RwLone
set_option linter.unusedSimpArgs false
set_option linter.unusedVariables false
attribute [local go_sem] Oper.semAt_some

def cellArgs (p : Nat) (x : Fin 32) : Array Value := #[.int .i64 ((32 * p + x.val + 1 : Nat) : Int)]

/-- The iterator over a page's cells. -/
theorem cells_stops (n : Nat) {X : ArB} {s : ArS} (B p : Nat) (hp : p < s.P) (w : World) (hA : ArMem w X s) (hB0 : w.cell? ⟨B, 0, none⟩ = some (.pointer (some ⟨X.a, 0, none⟩))) (hB1 : w.cell? ⟨B + 1, 0, none⟩ = some (.int .i64 (p : Int))) :
    SeqStopsK Fence.wide n Tryd.prog 111 #[.pointer (some ⟨B, 0, none⟩), .pointer (some ⟨B + 1, 0, none⟩)] (cellArgs p) (KpAr X B)
      (fun xs => xs.map Fin.val = elems (inPage s.S p) 32) (fun pre => ∃ j, inPage s.S p j = true ∧ pre.map Fin.val = elems (inPage s.S p) (j + 1)) 32 w := fun l J Jx W hW hJa _ hY h0 =>
  cells1_in n B l p hp J Jx W hJa hY (hA.below hW) ((hW.cell (p := ⟨B, 0, none⟩) (World.block_lt_of_cell? w _ hB0)).trans hB0) ((hW.cell (p := ⟨B + 1, 0, none⟩) (World.block_lt_of_cell? w _ hB1)).trans hB1) h0

/-- The iterator over the cells of a page that there is not. -/
theorem cells_stops_no (n : Nat) {X : ArB} {s : ArS} (B : Nat) (p : Int) (hp : ¬ (0 ≤ p ∧ p < s.P)) (w : World) (hA : ArMem w X s) (hB0 : w.cell? ⟨B, 0, none⟩ = some (.pointer (some ⟨X.a, 0, none⟩))) (hB1 : w.cell? ⟨B + 1, 0, none⟩ = some (.int .i64 p)) :
    SeqStopsK Fence.wide n Tryd.prog 111 #[.pointer (some ⟨B, 0, none⟩), .pointer (some ⟨B + 1, 0, none⟩)] (cellArgs 0) (KpAr X B)
      (fun xs => xs = []) (fun _ => False) 32 w := fun l J Jx W hW hJa _ hY h0 => by
  replace hA := hA.below hW
  replace hB0 := (hW.cell (p := ⟨B, 0, none⟩) (World.block_lt_of_cell? w _ hB0)).trans hB0
  replace hB1 := (hW.cell (p := ⟨B + 1, 0, none⟩) (World.block_lt_of_cell? w _ hB1)).trans hB1
  refine callsIn_of_wp Tryd.func111 rfl (by trivial) ?_ rfl
  simp only [Tryd.ntmps111, List.size_toArray, List.length_cons, List.length_nil, Nat.reduceAdd, Nat.reduceSub, Array.replicate_succ, Array.replicate_zero, List.push_toArray, List.append_toArray, List.nil_append, List.cons_append]
  have cK := knowsP_any hA p
  rw [decide_eq_false hp] at cK
  gi_wp2_with fail
  refine ⟨trivial, fun h => (by cases h), ?_⟩
  refine (callsIn_wide.2 cK).mono ?_
  rintro e w' ⟨rfl, rfl⟩
  clear cK
  gi_wp2_with fail
  refine bodyPost_ret (results_none rfl _ _ _) rfl ?_
  exact ⟨⟨_, rfl⟩, .inl ⟨[], rfl, h0⟩⟩

theorem used_elems (S : Nat → Bool) (p : Nat) : usedIn S p = true ↔ elems (inPage S p) 32 ≠ [] := by
  rw [usedIn_yes]
  constructor
  · rintro ⟨k, hk, h⟩ e
    have : k ∈ elems (inPage S p) 32 := by unfold elems; simp [hk, inPage, h]
    rw [e] at this; cases this
  · intro h
    obtain ⟨k, hk⟩ := List.exists_mem_of_ne_nil _ h
    unfold elems at hk
    simp [inPage] at hk
    exact ⟨k, hk.1, hk.2⟩

/-- The end of a body whose result lies in a box. -/
theorem take_end {V : World} {D : Nat} (hK : V.heap[D]? = some (.deferred (some []))) {w : World} {B : Nat} (hD : B ≤ D) (hb : Below B w V) : Below B w (V.putObj D (.deferred none)) :=
  ⟨hb.os, hb.tape, hb.output, by have := hb.size; simp; omega, fun k hk => by rw [World.putObj_heap_other (by omega), hb.block k hk]⟩

set_option maxRecDepth 100000 in
set_option maxHeartbeats 4000000 in
theorem used_any {w : World} {X : ArB} {s : ArS} (h : ArMem w X s) (p : Nat) (hp : p < s.P) :
    Calls Tryd.prog 54 #[.pointer (some ⟨X.a, 0, none⟩), .int .i64 (p : Int)] w fun e w' => e = .returned (.bool (usedIn s.S p)) ∧ Below w.heap.size w w' := by
  obtain ⟨N, h1⟩ : ∃ N : Nat, 6 ≤ N := ⟨6, Nat.le_refl _⟩
  refine calls_of_wp_marks Tryd.func54 rfl N ?_
  simp only [Tryd.ntmps54, List.size_toArray, List.length_cons, List.length_nil, Nat.reduceAdd, Nat.reduceSub, Array.replicate_succ, Array.replicate_zero, List.push_toArray, List.append_toArray, List.nil_append, List.cons_append]
  gi_wp2_with fail
  refine ⟨trivial, fun h => (by cases h), ?_⟩
  refine (callsIn_wide.2 (cellsfn_any X.a (p : Int) _)).mono ?_
  rintro e w' ⟨rfl, rfl⟩
  have hR : Blk (((w.alloc (.cells #[.bool false] 4)).alloc (.cells #[.pointer (some ⟨X.a, 0, none⟩)] 24)).alloc (.cells #[.int .i64 p] 3)) w.heap.size #[.bool false] 4 := ((Blk.new w _ _).alloc _).alloc _
  have hM := ((h.turn ((Turn.refl (fun _ => False) w).alloc (.cells #[.bool false] 4)) (fun _ _ h => h)).turn ((Turn.refl (fun _ => False) _).alloc (.cells #[.pointer (some ⟨X.a, 0, none⟩)] 24)) (fun _ _ h => h)).turn ((Turn.refl (fun _ => False) _).alloc (.cells #[.int .i64 p] 3)) (fun _ _ h => h)
  have b0 : (((w.alloc (.cells #[.bool false] 4)).alloc (.cells #[.pointer (some ⟨X.a, 0, none⟩)] 24)).alloc (.cells #[.int .i64 p] 3)).cell? ⟨w.heap.size + 1, 0, none⟩ = some (.pointer (some ⟨X.a, 0, none⟩)) := by
    have := ((Blk.new (w.alloc (.cells #[.bool false] 4)) #[.pointer (some ⟨X.a, 0, none⟩)] 24).alloc (.cells #[.int .i64 p] 3)).cell 0
    simpa using this
  have b1 : (((w.alloc (.cells #[.bool false] 4)).alloc (.cells #[.pointer (some ⟨X.a, 0, none⟩)] 24)).alloc (.cells #[.int .i64 p] 3)).cell? ⟨w.heap.size + 1 + 1, 0, none⟩ = some (.int .i64 p) := by
    have := (Blk.new ((w.alloc (.cells #[.bool false] 4)).alloc (.cells #[.pointer (some ⟨X.a, 0, none⟩)] 24)) #[.int .i64 p] 3).cell 0
    simpa using this
  have hBb := (((Below.refl w.heap.size w).alloc (Nat.le_refl _) (.cells #[.bool false] 4)).alloc (by simp) (.cells #[.pointer (some ⟨X.a, 0, none⟩)] 24)).alloc (by simp; omega) (.cells #[.int .i64 p] 3)
  have hs6 : (((w.alloc (.cells #[.bool false] 4)).alloc (.cells #[.pointer (some ⟨X.a, 0, none⟩)] 24)).alloc (.cells #[.int .i64 p] 3)).heap.size = w.heap.size + 3 := by simp
  have hlt := h.lt
  gi_wp2_with fail
  generalize ((w.alloc (.cells #[.bool false] 4)).alloc (.cells #[.pointer (some ⟨X.a, 0, none⟩)] 24)).alloc (.cells #[.int .i64 p] 3) = W6 at *
  refine wpIn_rangeFunc_ownF rfl (by omega) (gf := 111) (lb := #[.pointer (some ⟨w.heap.size + 1, 0, none⟩), .pointer (some ⟨w.heap.size + 1 + 1, 0, none⟩)]) rfl trivial (enters_of Tryd.func111 (by kernel_rfl) rfl)
    (cells_stops (N - 1) (w.heap.size + 1) p hp W6 hM b0 b1) KpAr.trans (fun W l o o' hl _ _ _ => KpAr.putObj (n0 := W6.heap.size) (fun k hk => by have := hlt k hk; omega) (by omega) W l o' hl) (Below.refl _ _) (fun _ => rfl)
    (fun pre W => pre = [] ∧ Below W6.heap.size W6 W) (fun c pre W => (c = .ret ∧ (∃ q x, pre = q ++ [x]) ∧ W.cell? ⟨w.heap.size, 0, none⟩ = some (.bool true)) ∧ Below w.heap.size w W)
    (OwnFrom.and (Own.from (fun s A B row hs hg hr => hs) _) (ownFrom_below (Nat.le_refl _) (Nat.le_refl _)))
    (fun c => OwnFrom.and (Own.from (fun s A B row hs hg hr => ⟨hs.1, hs.2.1, cell_kept hs.2.2 hg hr⟩) _) (ownFrom_below (by omega) (by omega)))
    ⟨rfl, Below.refl _ _⟩ ?a1 ?assign ?body ?done ?stop
  case assign =>
    intro l0 x W K hK
    unfold cellArgs
    gi_wp2
    exact hK
  case body =>
    rintro l0 pre x W ⟨rfl, hI⟩ _
    have hRW : W.cell? ⟨w.heap.size, 0, none⟩ = some (.bool false) := (hI.cell (p := ⟨w.heap.size, 0, none⟩) hR.lt).trans (hR.cell 0)
    have hZW : W.frozen? ⟨w.heap.size, 0, none⟩ = false := (hI.frozen (p := ⟨w.heap.size, 0, none⟩) hR.lt).trans (hR.free 0)
    gi_wp2
    refine ⟨KeepsOthers.setCell _ _ _, ⟨rfl, ⟨[], x, rfl⟩, World.cell?_setCell_same _ _ _ hRW⟩, (hBb.trans (hI.mono (by omega))).setCell (p := ⟨w.heap.size, 0, none⟩) (Nat.le_refl _) _⟩
  case done =>
    rintro D xs W hD hxs ⟨rfl, hI⟩ hK
    have hU : usedIn s.S p = false := by
      cases e : usedIn s.S p with
      | false => rfl
      | true => exact absurd hxs.symm ((used_elems _ _).1 e)
    have HU := Lib.hid hU
    have hRW : W.cell? ⟨w.heap.size, 0, none⟩ = some (.bool false) := (hI.cell (p := ⟨w.heap.size, 0, none⟩) hR.lt).trans (hR.cell 0)
    have hZW : W.frozen? ⟨w.heap.size, 0, none⟩ = false := (hI.frozen (p := ⟨w.heap.size, 0, none⟩) hR.lt).trans (hR.free 0)
    have hBW := hBb.trans (hI.mono (by omega))
    clear hU hxs
    gi_wp2_with fail
    have hK9 := (KeepsOthers.setCell W ⟨w.heap.size, 0, none⟩ (.bool false)).same D _ hK rfl
    have hR9 : (W.setCell ⟨w.heap.size, 0, none⟩ (.bool false)).cell? ⟨w.heap.size, 0, none⟩ = some (.bool false) := World.cell?_setCell_same _ _ _ hRW
    have hB9 := hBW.setCell (p := ⟨w.heap.size, 0, none⟩) (Nat.le_refl _) (.bool false)
    generalize W.setCell ⟨w.heap.size, 0, none⟩ (.bool false) = V at *
    refine ⟨by simp, .inl ⟨D, _, rfl, run_takeDeferred hK9, ?_⟩⟩
    have hRF : (V.putObj D (.deferred none)).cell? ⟨w.heap.size, 0, none⟩ = some (.bool false) := (World.cell?_of_block (w := V) (World.putObj_heap_other (by simp; omega))).trans hR9
    have hBF := take_end hK9 (by omega) hB9
    generalize V.putObj D (.deferred none) = V2 at *
    refine ⟨.bool false, ?_, ret_bool HU.out.symm, hBF⟩
    simp [results, Tryd.f54, go_sem, hRF]
  case stop =>
    rintro D c pre W hD ⟨j, hj, hpre⟩ ⟨⟨rfl, _, hR9⟩, hB9⟩ hK9
    have hU : usedIn s.S p = true := by
      refine usedIn_yes.2 ?_
      by_cases hj32 : j < 32
      · exact ⟨j, hj32, hj⟩
      · exfalso
        have hx : ∀ x ∈ pre.map Fin.val, x < 32 := fun x hx => by
          obtain ⟨y, _, rfl⟩ := List.mem_map.1 hx
          exact y.isLt
        have : j < 32 := hx j (by rw [hpre, elems_yes hj]; simp)
        omega
    have HU := Lib.hid hU
    clear hU hpre hj
    gi_wp2_with fail
    refine ⟨by simp, .inl ⟨D, _, rfl, run_takeDeferred hK9, ?_⟩⟩
    have hRF : (W.putObj D (.deferred none)).cell? ⟨w.heap.size, 0, none⟩ = some (.bool true) := (World.cell?_of_block (w := W) (World.putObj_heap_other (by simp; omega))).trans hR9
    have hBF := take_end hK9 (by omega) hB9
    generalize W.putObj D (.deferred none) = V2 at *
    refine ⟨.bool true, ?_, ret_bool HU.out.symm, hBF⟩
    simp [results, Tryd.f54, go_sem, hRF]

/-- A cell is given, whatever the Ref is. -/
def ArS.giveI (s : ArS) (r : Int) : ArS := if inS s.S r = true then s.give r.toNat else s
theorem giveI_no {s : ArS} {r : Int} (h : inS s.S r = false) : s.giveI r = s := by unfold ArS.giveI; rw [if_neg (by rw [h]; decide)]
theorem giveI_nat {s : ArS} {r : Nat} (h : s.S r = true) : s.giveI (r : Int) = { s with cls := giveCls s r, S := dropN s.S r } := by
  unfold ArS.giveI
  rw [if_pos (by rw [inS_nat]; exact h), Int.toNat_natCast]
  unfold ArS.give
  rw [if_pos h]
theorem Fits.giveI {s : ArS} (h : Fits s) (r : Int) : Fits (s.giveI r) := by
  unfold ArS.giveI
  split
  · exact h.give _
  · exact h

theorem give_no {w : World} {X : ArB} {s : ArS} (h : ArAt w X s) (r : Int) (hr : inS s.S r = false) :
    Calls Tryd.prog 23 #[.pointer (some ⟨X.a, 0, none⟩), .int .i64 r] w (ArPost X (.bool false) s w) := by
  have c1 := h.c1
  have cD := drop_x X.b X.lo (32 * s.P + 1) s.S r w h.set
  rw [may_in h.toArMem r, hr] at cD
  have hS : dropS s.S r = s.S := by
    funext j
    by_cases e : (j : Int) = r
    · subst e
      rw [inS_nat] at hr
      simp [dropS, hr]
    · simp [dropS, e]
  rw [hS] at cD
  clear hr hS
  go_enter Tryd.func23, Tryd.ntmps23
  go_wp2_with fail
  refine cD.mono ?_
  intro e w2 hP
  obtain ⟨lo2, rfl, hlo, hTn, b1, b2, b3, b4, b5⟩ := h.toArMem.turned hP
  have hA : ArAt w2 (X.with lo2) s := ⟨⟨b1, b2, b3, b4, b5, h.p64⟩, h.fits⟩
  clear hP cD c1
  go_wp2_with fail
  go_ret
  exact ⟨lo2, rfl, hA, hlo, hTn⟩

set_option maxRecDepth 100000 in
set_option maxHeartbeats 4000000 in
theorem give_yes {w : World} {X : ArB} {s : ArS} (h : ArAt w X s) (r : Nat) (hr : s.S r = true) :
    Calls Tryd.prog 23 #[.pointer (some ⟨X.a, 0, none⟩), .int .i64 r] w (ArPost X (.bool true) { s with cls := giveCls s r, S := dropN s.S r } w) := by
  have c1 := h.c1
  obtain ⟨a1, a2, a3, a4⟩ := h.fits.at_ r hr
  have hF := h.fits.giveI (r : Int)
  rw [giveI_nat hr] at hF
  have hp := h.p64
  have cD : Calls Tryd.prog 52 #[.pointer (some ⟨X.b, 0, none⟩), .int .i64 r] w (TurnPost X.b X.lo (32 * s.P + 1) true (dropN s.S r) w) := drop_at X.b X.lo (32 * s.P + 1) s.S (dropN s.S r) true r w (by omega) h.set hr.symm rfl
  have HF := Lib.hid hF
  clear hF hr a3 a4
  have hpg : pg r < s.P := by unfold pg; omega
  go_enter Tryd.func23, Tryd.ntmps23
  go_wp2_with fail
  refine cD.mono ?_
  intro e w2 hP
  obtain ⟨lo2, rfl, hlo, hTn, b1, b2, b3, b4, b5⟩ := h.toArMem.turned hP
  have hM : ArMem w2 (X.with lo2) { s with S := dropN s.S r } := ⟨b1, b2, b3, b4, b5, h.p64⟩
  have hSt : ArStep X w (X.with lo2) w2 := ⟨hlo, rfl, hTn⟩
  have cP : Calls Tryd.prog 43 #[.pointer (some ⟨X.a, 0, none⟩), .int .i64 r] w2 fun e w' => e = .returned (.int .i64 ((pg r : Nat) : Int)) ∧ w2 = w' := page_yes hM r a1 a2
  have cU : Calls Tryd.prog 54 #[.pointer (some ⟨X.a, 0, none⟩), .int .i64 ((pg r : Nat) : Int)] w2 fun e w' => e = .returned (.bool (usedIn (dropN s.S r) (pg r))) ∧ Below w2.heap.size w2 w' := used_any hM (pg r) hpg
  clear hP cD c1 b1 b2 b3 b4 b5 hlo hTn a1 a2
  go_wp2_with fail
  refine cP.mono ?_
  rintro e w' ⟨rfl, rfl⟩
  clear cP
  go_wp2_with fail
  cases hU : usedIn (dropN s.S r) (pg r) with
  | true =>
    rw [hU] at cU
    have HG : Hid (giveCls s r = s.cls) := Lib.hid (by unfold giveCls; rw [if_pos hU])
    clear hU
    refine cU.mono ?_
    rintro e w3 ⟨rfl, hB⟩
    clear cU
    have hM3 := hM.below hB
    have hS3 := hSt.trans (ArStep.ofBelow _ hB hM.lt)
    have hA : ArAt w3 (X.with lo2) { s with cls := giveCls s r, S := dropN s.S r } := ⟨⟨hM3.head, by
      have := hM3.page
      show Blk w3 _ (row s.P (giveCls s r)) _
      rw [HG.out]; exact this, hM3.word, hM3.set, hM3.ne, hp⟩, HF.out⟩
    clear hM hM3 hSt hB HF HG
    go_wp2_with fail
    go_ret
    exact hS3.post rfl hA
  | false =>
    rw [hU] at cU
    have HG : Hid (giveCls s r = upd s.cls (pg r) (-1)) := Lib.hid (by unfold giveCls; rw [if_neg (by rw [hU]; decide)])
    clear hU
    refine cU.mono ?_
    rintro e w3 ⟨rfl, hB⟩
    clear cU
    have hM3 := hM.below hB
    have hS3 := hSt.trans (ArStep.ofBelow _ hB hM.lt)
    have k0 : w3.cell? ⟨X.a, 0, none⟩ = some (.slice (some ⟨X.c, 0, none⟩) s.P s.P) := hM3.c0
    have k1 : w3.cell? ⟨X.c, pg r, none⟩ = some (.int .i64 (s.cls (pg r))) := cell_row hM3.page hpg
    have k2 : w3.frozen? ⟨X.c, pg r, none⟩ = false := hM3.page.free _
    have k3 : ((pg r : Nat) : Int) < s.P := by omega
    have hTt : Turn (fun k => k = X.c) w3 (w3.setCell ⟨X.c, pg r, none⟩ (.int .i64 (-1))) := (Turn.refl _ w3).set _ _ (.inr rfl)
    have hA : ArAt (w3.setCell ⟨X.c, pg r, none⟩ (.int .i64 (-1))) (X.with lo2) { s with cls := giveCls s r, S := dropN s.S r } := ⟨⟨hM3.head.turn hTt hM3.ne.ac, by
      have := hM3.page.setAt (pg r) (.int .i64 (-1))
      show Blk _ _ (row s.P (giveCls s r)) _
      rw [HG.out, ← row_set _ _ hpg]; exact this, hM3.word.turn hTt (fun e => hM3.ne.cw e.symm), hM3.set.turn hTt (fun e => hM3.ne.cb e.symm) (fun l hl e => hM3.ne.lc (by rw [hl, e]; rfl)), hM3.ne, hp⟩, HF.out⟩
    have hS4 : ArStep X w (X.with lo2) (w3.setCell ⟨X.c, pg r, none⟩ (.int .i64 (-1))) := ⟨hS3.lo, rfl, hS3.turn.set _ _ (.inr (.inr (.inl rfl)))⟩
    clear hM hM3 hSt hB HF HG hS3 hTt
    go_wp2_with fail
    go_ret
    exact hS4.post rfl hA

theorem give_any {w : World} {X : ArB} {s : ArS} (h : ArAt w X s) (r : Int) :
    Calls Tryd.prog 23 #[.pointer (some ⟨X.a, 0, none⟩), .int .i64 r] w (ArPost X (.bool (inS s.S r)) (s.giveI r) w) := by
  cases hr : inS s.S r with
  | false => rw [giveI_no hr]; exact give_no h r hr
  | true =>
    have h0 : 0 ≤ r ∧ s.S r.toNat = true := by simpa [inS] using hr
    obtain ⟨n, rfl⟩ : ∃ n : Nat, r = n := ⟨r.toNat, by omega⟩
    rw [inS_nat] at hr
    rw [giveI_nat hr]
    exact give_yes h n hr
end Go.Proofs.YtoemfehlnnbjdaaDoor
