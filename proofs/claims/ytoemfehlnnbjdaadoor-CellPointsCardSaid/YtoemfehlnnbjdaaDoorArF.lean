/- Take at any class; Cells, at this seat's numbers. -/
import Derived.Test.YtoemfehlnnbjdaaDoorArE
namespace Go.Proofs.YtoemfehlnnbjdaaDoor
open Go Go.RowKit Go.Shelf Go.MuLone Go.RwLone
set_option linter.unusedSimpArgs false
set_option linter.unusedVariables false
attribute [local go_sem] Oper.semAt_some

theorem wN_pos {c : Int} (hc : okC c = true) : (wN c = 2 ∨ wN c = 4 ∨ wN c = 8) ∧ wordsOf c = (wN c : Nat) := by
  rcases okC_cases hc with rfl | rfl | rfl <;> simp [wN, wordsOf]

theorem take_any {w : World} {X : ArB} {s : ArS} (h : ArAt w X s) (hT : TableAt w) (c : Int) :
    Calls Tryd.prog 26 #[.pointer (some ⟨X.a, 0, none⟩), .int .i64 c] w (ArPost X (.tuple #[.int .i64 ((seekF s c : Nat) : Int), .bool (decide (seekF s c ≠ 0))]) (s.take c) w) := by
  by_cases h0 : seekF s c = 0
  · rw [take_none h0, h0]; exact take_no h hT c h0
  · obtain ⟨hc, h1, h2, h3, h4, h5, h6⟩ := seekF_is h.fits h0
    obtain ⟨hw, hw2⟩ := wN_pos hc
    rw [decide_eq_true h0]
    have hr : (seekF s c - 1) % 32 + wN c ≤ 32 := by rcases hw with e | e | e <;> rw [e] at h5 ⊢ <;> omega
    exact take_yes h hT c (seekF s c) (wN c) rfl h1 (by omega) h4 hw2 (by omega) (by omega) (h.fits.take c) (take_some h0)

theorem ArMem.same {w w' : World} {X : ArB} {s : ArS} (h : ArMem w X s) (hk : ∀ k, X.has k → w'.heap[k]? = w.heap[k]?) : ArMem w' X s := by
  have hb := hk X.b (.inr (.inr (.inr (.inl rfl))))
  refine ⟨(hk _ (.inl rfl)).trans h.head, (hk _ (.inr (.inl rfl))).trans h.page, (hk _ (.inr (.inr (.inl rfl)))).trans h.word, ?_, h.ne, h.p64⟩
  obtain ⟨h1, h2, h3⟩ := h.set
  refine ⟨h1, h2, ?_⟩
  have hl : ∀ l, X.lo = some l → w'.heap[l]? = w.heap[l]? := fun l e => hk l (.inr (.inr (.inr (.inr e))))
  generalize X.lo = lo at *
  cases lo with
  | none => exact ⟨hb.trans h3.1, h3.2⟩
  | some l =>
    obtain ⟨h4, h5, ws, h6, h7⟩ := h3
    exact ⟨hb.trans h4, h5, ws, (hl l rfl).trans h6, h7⟩

theorem ArAt.same {w w' : World} {X : ArB} {s : ArS} (h : ArAt w X s) (hk : ∀ k, X.has k → w'.heap[k]? = w.heap[k]?) : ArAt w' X s := ⟨h.toArMem.same hk, h.fits⟩

/-- Which cells of a page are taken, by where they begin. -/
def inPage (S : Nat → Bool) (p : Nat) : Nat → Bool := fun o => S (32 * p + o + 1)
theorem elems_yes {T : Nat → Bool} {j : Nat} (h : T j = true) : elems T (j + 1) = elems T j ++ [j] := by
  unfold elems; rw [List.range_succ, List.filter_append]; simp [h]
theorem elems_no {T : Nat → Bool} {j : Nat} (h : T j = false) : elems T (j + 1) = elems T j := by
  unfold elems; rw [List.range_succ, List.filter_append]; simp [h]

/-- What a round over a page's cells keeps: the arena, the closure's boxes. -/
def KpAr (X : ArB) (B : Nat) (W W' : World) : Prop :=
  (∀ k, X.has k → W'.heap[k]? = W.heap[k]?) ∧ W'.heap[B]? = W.heap[B]? ∧ W'.heap[B + 1]? = W.heap[B + 1]?
theorem KpAr.trans {X : ArB} {B : Nat} {A C D : World} (h : KpAr X B A C) (k : KpAr X B C D) : KpAr X B A D :=
  ⟨fun i hi => (k.1 i hi).trans (h.1 i hi), k.2.1.trans h.2.1, k.2.2.trans h.2.2⟩
theorem KpAr.putObj {X : ArB} {B : Nat} {n0 : Nat} (hX : ∀ k, X.has k → k < n0) (hB : B + 1 < n0) (W : World) (l : Nat) (o : Obj) (h : n0 ≤ l) : KpAr X B W (W.putObj l o) :=
  ⟨fun k hk => World.putObj_heap_other (by have := hX k hk; omega), World.putObj_heap_other (by omega), World.putObj_heap_other (by omega)⟩
theorem KpAr.ofBelow {X : ArB} {B : Nat} {n0 : Nat} {W W' : World} (h : Below n0 W W') (hX : ∀ k, X.has k → k < n0) (hB : B + 1 < n0) : KpAr X B W W' :=
  ⟨fun k hk => h.block k (hX k hk), h.block _ (by omega), h.block _ hB⟩

theorem cellsfn_any (a : Nat) (p : Int) (w : World) :
    Calls Tryd.prog 89 #[.pointer (some ⟨a, 0, none⟩), .int .i64 p] w fun e w' => e = .returned (.func (.func 111) #[] #[.pointer (some ⟨w.heap.size, 0, none⟩), .pointer (some ⟨w.heap.size + 1, 0, none⟩)]) ∧ (w.alloc (.cells #[.pointer (some ⟨a, 0, none⟩)] 24)).alloc (.cells #[.int .i64 p] 3) = w' := by
  go_enter Tryd.func89, Tryd.ntmps89
  go_wp2_with fail
  go_ret
  exact ⟨rfl, rfl⟩

/-- What holds between two places of a page. -/
def CellRel (X : ArB) (s : ArS) (B p : Nat) (J : List (Fin 32) → World → Prop) (v10 : Value) (W : World) : Prop :=
  ArMem W X s ∧ W.cell? ⟨B, 0, none⟩ = some (.pointer (some ⟨X.a, 0, none⟩)) ∧ W.cell? ⟨B + 1, 0, none⟩ = some (.int .i64 (p : Int)) ∧
    ∃ j : Nat, j ≤ 32 ∧ v10 = .int .i64 (j : Int) ∧ ∃ q : List (Fin 32), q.map Fin.val = elems (inPage s.S p) j ∧ J q W

theorem abides_below {β : Type} {n0 : Nat} {J : β → World → Prop} (hJ : AbidesFrom n0 J) {x : β} {W W' : World} (h : J x W) (hB : Below W.heap.size W W') : J x W' :=
  hJ _ _ _ none h ⟨hB.os, hB.tape, hB.output, hB.size, fun k hk _ => hB.block k hk⟩ (fun r e => by cases e)

set_option maxRecDepth 100000 in
set_option maxHeartbeats 4000000 in
theorem cells1_in (n : Nat) {X : ArB} {s : ArS} (B l p : Nat) (hp : p < s.P) (J Jx : List (Fin 32) → World → Prop) (W : World) (hJa : AbidesFrom W.heap.size J)
    (hY : ∀ pre (x : Fin 32) W1, J pre W1 → pre.length < 32 → YieldAt Fence.wide (n - 1) Tryd.prog l #[.int .i64 ((32 * p + x.val + 1 : Nat) : Int)] W1 fun e W' =>
      (e = .returned (.bool true) ∧ J (pre ++ [x]) W' ∧ KpAr X B W1 W') ∨ (e = .returned (.bool false) ∧ Jx (pre ++ [x]) W'))
    (hA : ArMem W X s) (hB0 : W.cell? ⟨B, 0, none⟩ = some (.pointer (some ⟨X.a, 0, none⟩))) (hB1 : W.cell? ⟨B + 1, 0, none⟩ = some (.int .i64 (p : Int))) (h0 : J [] W) :
    CallsIn Fence.wide n Tryd.prog 111 #[.func (.yield l) #[] #[], .pointer (some ⟨B, 0, none⟩), .pointer (some ⟨B + 1, 0, none⟩)] W fun e W' => (∃ v, e = .returned v) ∧
      ((∃ xs : List (Fin 32), xs.map Fin.val = elems (inPage s.S p) 32 ∧ J xs W') ∨ (∃ pre : List (Fin 32), (∃ j, inPage s.S p j = true ∧ pre.map Fin.val = elems (inPage s.S p) (j + 1)) ∧ Jx pre W')) := by
  have hp64 := hA.p64
  refine callsIn_of_wp Tryd.func111 rfl (by trivial) ?_ rfl
  simp only [Tryd.ntmps111, List.size_toArray, List.length_cons, List.length_nil, Nat.reduceAdd, Nat.reduceSub, Array.replicate_succ, Array.replicate_zero, List.push_toArray, List.append_toArray, List.nil_append, List.cons_append]
  have cK := knowsP_any hA (p : Int)
  rw [decide_eq_true (by omega)] at cK
  gi_wp2_with fail
  refine ⟨trivial, fun h => (by cases h), ?_⟩
  refine (callsIn_wide.2 cK).mono ?_
  rintro e w' ⟨rfl, rfl⟩
  clear cK
  gi_wp2_with fail
  gi_loopw [10] (fun v10 wr => CellRel X s B p J v10 wr) (fun v10 _ => 32 - (intOf v10).toNat)
  case atStart => exact ⟨hA, hB0, hB1, 0, by omega, rfl, [], rfl, h0⟩
  case round =>
    clear hA hB0 hB1
    obtain ⟨hA, hB0, hB1, j, hj, rfl, q, hq, hJ⟩ := hrel
    have HQ := Lib.hid hq
    clear hq
    by_cases hlt : j < 32
    · have hJ1 : (j : Int) < 32 := by omega
      have cR := ref_any (w := wr) (p : Int) (j : Int) (by omega) (by omega) (by omega) (by omega)
      gi_wp2_with fail
      refine ⟨trivial, fun h => (by cases h), ?_⟩
      refine (callsIn_wide.2 cR).mono ?_
      rintro e w' ⟨rfl, rfl⟩
      clear cR
      gi_wp2_with fail
      refine ⟨trivial, fun h => (by cases h), ?_⟩
      cases hS : s.S (32 * p + j + 1) with
      | false =>
        have HS := Lib.hid hS
        clear hS
        refine (callsIn_wide.2 (hasW hA (32 * p + j + 1) _ false (by omega) HS.out)).mono ?_
        rintro e w4 ⟨rfl, hBl⟩
        have hA4 := hA.below hBl
        have hB04 : w4.cell? ⟨B, 0, none⟩ = some (.pointer (some ⟨X.a, 0, none⟩)) := (hBl.cell (p := ⟨B, 0, none⟩) (World.block_lt_of_cell? wr _ hB0)).trans hB0
        have hB14 : w4.cell? ⟨B + 1, 0, none⟩ = some (.int .i64 (p : Int)) := (hBl.cell (p := ⟨B + 1, 0, none⟩) (World.block_lt_of_cell? wr _ hB1)).trans hB1
        have hJ4 := abides_below hJa hJ hBl
        clear hA hB0 hB1 hJ
        gi_wp2_with fail
        refine ⟨fun f h => (by cases h), ?_⟩
        gi_wp2_with fail
        go_roundw
        case rel => exact ⟨hA4, hB04, hB14, j + 1, by omega, by go_num, q, by rw [elems_no (T := inPage s.S p) HS.out]; exact HQ.out, hJ4⟩
        case measure => simp [intOf]; omega
      | true =>
        have HS := Lib.hid hS
        clear hS
        refine (callsIn_wide.2 (hasW hA (32 * p + j + 1) _ true (by omega) HS.out)).mono ?_
        rintro e w4 ⟨rfl, hBl⟩
        have hA4 := hA.below hBl
        have hB04 : w4.cell? ⟨B, 0, none⟩ = some (.pointer (some ⟨X.a, 0, none⟩)) := (hBl.cell (p := ⟨B, 0, none⟩) (World.block_lt_of_cell? wr _ hB0)).trans hB0
        have hB14 : w4.cell? ⟨B + 1, 0, none⟩ = some (.int .i64 (p : Int)) := (hBl.cell (p := ⟨B + 1, 0, none⟩) (World.block_lt_of_cell? wr _ hB1)).trans hB1
        have hJ4 := abides_below hJa hJ hBl
        have hlen : q.length < 32 := by
          have h1 := congrArg List.length HQ.out
          rw [List.length_map] at h1
          have h2 := elems_length (inPage s.S p) j
          omega
        have hY' := hY q ⟨j, hlt⟩ w4 hJ4 hlen
        rw [show ((32 * p + (⟨j, hlt⟩ : Fin 32).val + 1 : Nat) : Int) = (p : Int) * 32 + (j : Int) + 1 by show ((32 * p + j + 1 : Nat) : Int) = _; omega] at hY'
        obtain ⟨fn, tmps, assign, body, hy, hY2⟩ := hY'
        clear hA hB0 hB1 hJ hJ4 hBl
        gi_wp2_with fail
        refine ⟨fun h => (by cases h), ?_⟩
        refine hY2.mono ?_
        rintro e W3 (⟨rfl, hJ3, hk3⟩ | ⟨rfl, hJx3⟩)
        · have hA3 := hA4.same hk3.1
          have hB03 : W3.cell? ⟨B, 0, none⟩ = some (.pointer (some ⟨X.a, 0, none⟩)) := (World.cell?_of_block (w := w4) (a := ⟨B, 0, none⟩) hk3.2.1).trans hB04
          have hB13 : W3.cell? ⟨B + 1, 0, none⟩ = some (.int .i64 (p : Int)) := (World.cell?_of_block (w := w4) (a := ⟨B + 1, 0, none⟩) hk3.2.2).trans hB14
          clear hA4 hB04 hB14 hk3 hy hY2
          gi_wp2_with fail
          go_roundw
          case rel => exact ⟨hA3, hB03, hB13, j + 1, by omega, by go_num, _, by rw [elems_yes (T := inPage s.S p) HS.out, List.map_append, HQ.out]; rfl, hJ3⟩
          case measure => simp [intOf]; omega
        · gi_wp2_with fail
          refine bodyPost_ret (results_none rfl _ _ _) rfl ?_
          exact ⟨⟨_, rfl⟩, .inr ⟨_, ⟨j, HS.out, by rw [elems_yes (T := inPage s.S p) HS.out, List.map_append, HQ.out]; rfl⟩, hJx3⟩⟩
    · obtain rfl : j = 32 := by omega
      gi_wp2_with fail
      go_end0
      exact ⟨⟨_, rfl⟩, .inl ⟨q, HQ.out, hJ⟩⟩
end Go.Proofs.YtoemfehlnnbjdaaDoor
