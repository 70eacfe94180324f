/- A table's calls: New, Of, Live, Spawn, Exit, Global, SetGlobal; at this seat's numbers. -/
import Derived.Test.YtoemfehlnnbjdaaRtM
import Derived.Deep.RegionHeld3
namespace Go.Proofs.Ytoemfehlnnbjdaa
open Go Go.RowKit Go.Shelf
set_option linter.unusedSimpArgs false
set_option linter.unusedVariables false
attribute [local go_sem] Oper.semAt_some

section
variable {w w' : World} {R : RtB} {N : Nat} {regs stk : Int} {gl : List Int} {th : Nat → Option TM}
theorem RtAt.hasNumber (h : RtAt w R N regs stk gl th) (i : Int) (q : Bool) (hq : decide (0 ≤ i ∧ i < (N : Int)) = q) : Calls Try.prog 26 #[.pointer (some ⟨R.t, 0, none⟩), .int .i64 i] w fun e w' => e = .returned (.bool q) ∧ w = w' := by
  have c5 := h.c5
  by_cases h0 : 0 ≤ i
  · by_cases h1 : i < (N : Int)
    · have e : q = true := by rw [← hq]; exact decide_eq_true ⟨h0, h1⟩
      subst e
      clear hq
      go_enter Try.func26, Try.ntmps26
      go_wp2_with fail
      go_ret
      exact ⟨rfl, rfl⟩
    · have e : q = false := by rw [← hq]; exact decide_eq_false (fun h => h1 h.2)
      subst e
      clear hq
      go_enter Try.func26, Try.ntmps26
      go_wp2_with fail
      go_ret
      exact ⟨rfl, rfl⟩
  · have e : q = false := by rw [← hq]; exact decide_eq_false (fun h => h0 h.1)
    subst e
    clear hq
    go_enter Try.func26, Try.ntmps26
    go_wp2_with fail
    go_ret
    exact ⟨rfl, rfl⟩
theorem RtAt.hasGlobal (h : RtAt w R N regs stk gl th) (i : Int) (q : Bool) (hq : decide (0 ≤ i ∧ i < (gl.length : Int)) = q) : Calls Try.prog 32 #[.pointer (some ⟨R.t, 0, none⟩), .int .i64 i] w fun e w' => e = .returned (.bool q) ∧ w = w' := by
  have c5 := h.c0
  by_cases h0 : 0 ≤ i
  · by_cases h1 : i < (gl.length : Int)
    · have e : q = true := by rw [← hq]; exact decide_eq_true ⟨h0, h1⟩
      subst e
      clear hq
      go_enter Try.func32, Try.ntmps32
      go_wp2_with fail
      go_ret
      exact ⟨rfl, rfl⟩
    · have e : q = false := by rw [← hq]; exact decide_eq_false (fun h => h1 h.2)
      subst e
      clear hq
      go_enter Try.func32, Try.ntmps32
      go_wp2_with fail
      go_ret
      exact ⟨rfl, rfl⟩
  · have e : q = false := by rw [← hq]; exact decide_eq_false (fun h => h0 h.1)
    subst e
    clear hq
    go_enter Try.func32, Try.ntmps32
    go_wp2_with fail
    go_ret
    exact ⟨rfl, rfl⟩
theorem RtAt.of (h : RtAt w R N regs stk gl th) (i : Nat) (hi : i < N) (x : Int) (hx : x = i) : Calls Try.prog 13 #[.pointer (some ⟨R.t, 0, none⟩), .int .i64 x] w fun e w' => e = .returned (ptrV (th i)) ∧ w = w' := by
  subst hx
  have cH := h.hasNumber (i : Int) true (decide_eq_true ⟨by omega, by omega⟩)
  have cT := h.cT i (by have := h.few; omega)
  have hi4 : (i : Int) < 4 := by have := h.few; omega
  have hi0 : (0 : Int) ≤ (i : Int) := by omega
  go_enter Try.func13, Try.ntmps13
  go_wp2_with fail
  refine cH.mono ?_
  rintro e w1 ⟨rfl, rfl⟩
  clear cH
  go_wp2_with fail
  go_ret
  exact ⟨rfl, rfl⟩
theorem RtAt.ofNo (h : RtAt w R N regs stk gl th) (i : Int) (hi : ¬ (0 ≤ i ∧ i < (N : Int))) : Calls Try.prog 13 #[.pointer (some ⟨R.t, 0, none⟩), .int .i64 i] w fun e w' => e = .returned (.pointer none) ∧ w = w' := by
  have cH := h.hasNumber i false (decide_eq_false hi)
  go_enter Try.func13, Try.ntmps13
  go_wp2_with fail
  refine cH.mono ?_
  rintro e w1 ⟨rfl, rfl⟩
  clear cH
  go_wp2_with fail
  go_ret
  exact ⟨rfl, rfl⟩
/-- Whom a number is of. -/
def atI (th : Nat → Option TM) (i : Int) : Option TM := if 0 ≤ i then th i.toNat else none
theorem atI_nat (th : Nat → Option TM) (i : Nat) : atI th (i : Int) = th i := by unfold atI; rw [if_pos (by omega)]; rfl
theorem RtAt.atI_some (h : RtAt w R N regs stk gl th) {i : Int} {m : TM} (e : atI th i = some m) : ∃ k : Nat, i = (k : Int) ∧ k < N ∧ th k = some m := by
  unfold atI at e
  by_cases h0 : 0 ≤ i
  · rw [if_pos h0] at e
    exact ⟨i.toNat, by omega, h.live _ _ e, e⟩
  · rw [if_neg h0] at e; cases e
theorem RtAt.ofI (h : RtAt w R N regs stk gl th) (i : Int) : Calls Try.prog 13 #[.pointer (some ⟨R.t, 0, none⟩), .int .i64 i] w fun e w' => e = .returned (ptrV (atI th i)) ∧ w = w' := by
  by_cases hi : 0 ≤ i ∧ i < (N : Int)
  · have := h.of i.toNat (by omega) i (by omega)
    unfold atI; rw [if_pos hi.1]; exact this
  · have e : atI th i = none := by
      cases e : atI th i with
      | none => rfl
      | some m => obtain ⟨k, rfl, hk, _⟩ := h.atI_some e; exact absurd ⟨by omega, by omega⟩ hi
    rw [e]; exact h.ofNo i hi
theorem RtAt.liveI (h : RtAt w R N regs stk gl th) (i : Int) (q : Bool) (hq : (atI th i).isSome = q) : Calls Try.prog 18 #[.pointer (some ⟨R.t, 0, none⟩), .int .i64 i] w fun e w' => e = .returned (.bool q) ∧ w = w' := by
  have cO := h.ofI i
  cases e : atI th i with
  | none =>
    rw [e] at hq cO
    subst hq
    have cO2 : Calls Try.prog 13 #[.pointer (some ⟨R.t, 0, none⟩), .int .i64 i] w fun e w' => e = .returned (.pointer none) ∧ w = w' := cO
    clear cO e
    go_enter Try.func18, Try.ntmps18
    go_wp2_with fail
    refine cO2.mono ?_
    rintro e w1 ⟨rfl, rfl⟩
    clear cO2
    go_wp2_with fail
    go_ret
    exact ⟨rfl, rfl⟩
  | some m =>
    rw [e] at hq cO
    subst hq
    have cO2 : Calls Try.prog 13 #[.pointer (some ⟨R.t, 0, none⟩), .int .i64 i] w fun e w' => e = .returned (.pointer (some ⟨m.t, 0, none⟩)) ∧ w = w' := cO
    clear cO e
    go_enter Try.func18, Try.ntmps18
    go_wp2_with fail
    refine cO2.mono ?_
    rintro e w1 ⟨rfl, rfl⟩
    clear cO2
    go_wp2_with fail
    go_ret
    exact ⟨rfl, rfl⟩
end

section
variable {B t N : Nat} {F : Nat → Prop} {regs stk : Int} {gl : List Int} {th : Nat → Option TM} {wb wr w' : World}
theorem RtIn.of (h : RtIn B F t N regs stk gl th wb wr) (i : Int) : Calls Try.prog 13 #[.pointer (some ⟨t, 0, none⟩), .int .i64 i] wr fun e w' => e = .returned (ptrV (atI th i)) ∧ wr = w' := by
  obtain ⟨R, rfl, hA, hF⟩ := h.ex
  exact hA.ofI i
theorem RtIn.live (h : RtIn B F t N regs stk gl th wb wr) (i : Int) (q : Bool) (hq : (atI th i).isSome = q) : Calls Try.prog 18 #[.pointer (some ⟨t, 0, none⟩), .int .i64 i] wr fun e w' => e = .returned (.bool q) ∧ wr = w' := by
  obtain ⟨R, rfl, hA, hF⟩ := h.ex
  exact hA.liveI i q hq
theorem RtIn.ltN (h : RtIn B F t N regs stk gl th wb wr) {i : Nat} {m : TM} (hi : th i = some m) : i < N := by
  obtain ⟨R, rfl, hA, hF⟩ := h.ex
  exact hA.live i m hi
theorem RtIn.few (h : RtIn B F t N regs stk gl th wb wr) : N ≤ 4 := by
  obtain ⟨R, rfl, hA, hF⟩ := h.ex
  exact hA.few
theorem RtIn.gfew (h : RtIn B F t N regs stk gl th wb wr) : gl.length ≤ 4 := by
  obtain ⟨R, rfl, hA, hF⟩ := h.ex
  exact hA.gfew
theorem RtIn.global (h : RtIn B F t N regs stk gl th wb wr) (i : Nat) (hi : i < gl.length) (x r : Int) (hx : x = i) (hr : gl.getD i 0 = r) : Calls Try.prog 17 #[.pointer (some ⟨t, 0, none⟩), .int .i64 x] wr fun e w' => e = .returned (.tuple #[.int .i64 r, .int .i64 0]) ∧ wr = w' := by
  obtain ⟨R, rfl, hA, hF⟩ := h.ex
  subst hx; subst hr
  have cH := hA.hasGlobal (i : Int) true (decide_eq_true ⟨by omega, by omega⟩)
  have c0 := hA.c0
  have cG := hA.cG i hi
  have hi1 : (i : Int) < (gl.length : Int) := by omega
  have hi0 : (0 : Int) ≤ (i : Int) := by omega
  generalize gl.getD i 0 = r at *
  go_enter Try.func17, Try.ntmps17
  go_wp2_with fail
  refine cH.mono ?_
  rintro e w1 ⟨rfl, rfl⟩
  clear cH
  go_wp2_with fail
  go_ret2
  exact ⟨rfl, rfl⟩
theorem RtIn.globalNo (h : RtIn B F t N regs stk gl th wb wr) (i : Int) (hi : ¬ (0 ≤ i ∧ i < (gl.length : Int))) : Calls Try.prog 17 #[.pointer (some ⟨t, 0, none⟩), .int .i64 i] wr fun e w' => e = .returned (.tuple #[.int .i64 0, .int .i64 5]) ∧ wr = w' := by
  obtain ⟨R, rfl, hA, hF⟩ := h.ex
  have cH := hA.hasGlobal i false (decide_eq_false hi)
  go_enter Try.func17, Try.ntmps17
  go_wp2_with fail
  refine cH.mono ?_
  rintro e w1 ⟨rfl, rfl⟩
  clear cH
  go_wp2_with fail
  go_ret2
  exact ⟨rfl, rfl⟩
theorem RtIn.setGlobal (h : RtIn B F t N regs stk gl th wb wr) (i : Nat) (hi : i < gl.length) (x r : Int) (hx : x = i) : Calls Try.prog 15 #[.pointer (some ⟨t, 0, none⟩), .int .i64 x, .int .i64 r] wr fun e w' =>
    e = .returned (.int .i64 0) ∧ RtIn B F t N regs stk (gl.set i r) th wb w' ∧ Keep F wr w' := by
  have hs := h.size
  obtain ⟨R, rfl, hA, hF⟩ := h.ex
  subst hx
  have cH := hA.hasGlobal (i : Int) true (decide_eq_true ⟨by omega, by omega⟩)
  have c0 := hA.c0
  have cG := hA.cG i hi
  have fG := hA.glob.free i
  have hi1 : (i : Int) < (gl.length : Int) := by omega
  have hi0 : (0 : Int) ≤ (i : Int) := by omega
  have hT : Turn (fun k => k = R.g) wr (wr.setCell ⟨R.g, i, none⟩ (.int .i64 r)) := (Turn.refl _ wr).set _ _ (.inr rfl)
  have hg := hF R.g (.inr (.inl rfl))
  have fin : RtIn B F R.t N regs stk (gl.set i r) th wb (wr.setCell ⟨R.g, i, none⟩ (.int .i64 r)) ∧ Keep F wr (wr.setCell ⟨R.g, i, none⟩ (.int .i64 r)) := by
    refine ⟨⟨⟨R, rfl, ⟨?_, (hA.glob.setAt i _).is (by simp [refV, List.map_set]), fun j m hj => ⟨(hA.thr j m hj).1, (hA.thr j m hj).2.turn hT (fun k hk e => (hA.own j m hj k hk).2 e)⟩, hA.own, hA.apart, hA.tg, hA.live, hA.few, by simpa using hA.gfew, hA.rfew, hA.sfew⟩, hF⟩, fun k hk => Nat.lt_of_lt_of_le (h.low k hk) hT.size, h.below.trans (hT.below B hs fun k hk e => by have e2 : k = R.g := e; omega), h.base⟩, hT.size, fun k hk => hT.block k (h.low k hk) (fun e => hg.2 ((show k = R.g from e) ▸ hk))⟩
    have := hA.head.turn hT hA.tg
    rw [List.length_set]; exact this
  generalize gl.getD i 0 = r0 at *
  go_enter Try.func15, Try.ntmps15
  go_wp2_with fail
  refine cH.mono ?_
  rintro e w1 ⟨rfl, rfl⟩
  clear cH
  go_wp2_with fail
  go_ret
  exact ⟨rfl, fin⟩
theorem RtIn.setGlobalNo (h : RtIn B F t N regs stk gl th wb wr) (i : Int) (hi : ¬ (0 ≤ i ∧ i < (gl.length : Int))) (r : Int) : Calls Try.prog 15 #[.pointer (some ⟨t, 0, none⟩), .int .i64 i, .int .i64 r] wr fun e w' => e = .returned (.int .i64 5) ∧ wr = w' := by
  obtain ⟨R, rfl, hA, hF⟩ := h.ex
  have cH := hA.hasGlobal i false (decide_eq_false hi)
  go_enter Try.func15, Try.ntmps15
  go_wp2_with fail
  refine cH.mono ?_
  rintro e w1 ⟨rfl, rfl⟩
  clear cH
  go_wp2_with fail
  go_ret
  exact ⟨rfl, rfl⟩
/-- A thread comes, or goes. -/
theorem RtIn.put {R : RtB} (hA : RtAt wr R N regs stk gl th) (hF : ∀ k, R.has th k → B ≤ k ∧ ¬ F k) (low : ∀ k, F k → k < wr.heap.size) (below : Below B wb wr) (base : B ≤ wb.heap.size) {i : Nat} (hi : i < 4) {m : Option TM} (T : ThB) (hm : ∀ x, m = some x → T.t = x.t ∧ ThAt wr T regs stk x.f x.st ∧ i < N ∧ ∀ k, T.has k → B ≤ k ∧ ¬ F k ∧ ¬ R.has th k) :
    RtIn B F R.t N regs stk gl (updT th i m) wb (wr.setCell ⟨R.t, 1 + i, none⟩ (ptrV m)) ∧ Keep F wr (wr.setCell ⟨R.t, 1 + i, none⟩ (ptrV m)) := by
  have hs : B ≤ wr.heap.size := Nat.le_trans base below.size
  have ht := hF R.t (.inl rfl)
  have hT : Turn (fun k => k = R.t) wr (wr.setCell ⟨R.t, 1 + i, none⟩ (ptrV m)) := (Turn.refl _ wr).set _ _ (.inr rfl)
  have eX : ∀ j, j ≠ i → (if j = i then T else R.X j) = R.X j := fun j hj => if_neg hj
  have eI : (if i = i then T else R.X i) = T := if_pos rfl
  have hold : ∀ j m', j ≠ i → updT th i m j = some m' → th j = some m' := fun j m' hj e2 => by rwa [updT_ne _ _ hj] at e2
  have hnew : ∀ m', updT th i m i = some m' → m = some m' := fun m' e => by rwa [updT_at] at e
  refine ⟨⟨⟨⟨R.t, R.g, fun j => if j = i then T else R.X j⟩, rfl, ⟨?_, hA.glob.turn hT (fun e => hA.tg e.symm), ?_, ?_, ?_, hA.tg, ?_, hA.few, hA.gfew, hA.rfew, hA.sfew⟩, ?_⟩, fun k hk => Nat.lt_of_lt_of_le (low k hk) hT.size, below.trans (hT.below B hs fun k hk e => by have e2 : k = R.t := e; omega), base⟩, hT.size, fun k hk => hT.block k (low k hk) (fun e => ht.2 ((show k = R.t from e) ▸ hk))⟩
  · have := hA.head.setAt (1 + i) (ptrV m)
    rw [headV_set _ _ _ _ _ _ _ hi] at this
    exact this
  · intro j m' e2
    by_cases hj : j = i
    · subst hj
      obtain ⟨h1, h2, _, h3⟩ := hm m' (hnew m' e2)
      simp only [eI]
      exact ⟨h1, h2.turn hT (fun k hk e => (h3 k hk).2.2 (.inl e))⟩
    · simp only [eX j hj]
      have e3 := hold j m' hj e2
      exact ⟨(hA.thr j m' e3).1, (hA.thr j m' e3).2.turn hT (fun k hk e => (hA.own j m' e3 k hk).1 e)⟩
  · intro j m' e2 k hk
    by_cases hj : j = i
    · subst hj
      obtain ⟨_, _, _, h3⟩ := hm m' (hnew m' e2)
      simp only [eI] at hk
      exact ⟨fun e => (h3 k hk).2.2 (.inl e), fun e => (h3 k hk).2.2 (.inr (.inl e))⟩
    · simp only [eX j hj] at hk
      exact hA.own j m' (hold j m' hj e2) k hk
  · intro a b ma mb ea eb hab k hka hkb
    by_cases hj : a = i
    · subst hj
      obtain ⟨_, _, _, h3⟩ := hm ma (hnew ma ea)
      simp only [eI] at hka
      have hb : b ≠ a := fun e => hab e.symm
      simp only [eX b hb] at hkb
      exact (h3 k hka).2.2 (.inr (.inr ⟨b, mb, hold b mb hb eb, hkb⟩))
    · simp only [eX a hj] at hka
      by_cases hj2 : b = i
      · subst hj2
        obtain ⟨_, _, _, h3⟩ := hm mb (hnew mb eb)
        simp only [eI] at hkb
        exact (h3 k hkb).2.2 (.inr (.inr ⟨a, ma, hold a ma hj ea, hka⟩))
      · simp only [eX b hj2] at hkb
        exact hA.apart a b ma mb (hold a ma hj ea) (hold b mb hj2 eb) hab k hka hkb
  · intro j m' e2
    by_cases hj : j = i
    · subst hj; exact (hm m' (hnew m' e2)).2.2.1
    · exact hA.live j m' (hold j m' hj e2)
  · rintro k (e2 | e2 | ⟨j, m', e2, hk⟩)
    · exact hF k (.inl e2)
    · exact hF k (.inr (.inl e2))
    · by_cases hj : j = i
      · subst hj
        simp only [eI] at hk
        obtain ⟨_, _, _, h3⟩ := hm m' (hnew m' e2)
        exact ⟨(h3 k hk).1, (h3 k hk).2.1⟩
      · simp only [eX j hj] at hk
        exact hF k (.inr (.inr ⟨j, m', hold j m' hj e2, hk⟩))
theorem RtIn.spawn (h : RtIn B F t N regs stk gl th wb wr) (i : Nat) (hi : i < N) (hn : th i = none) (x : Int) (hx : x = i) : Calls Try.prog 11 #[.pointer (some ⟨t, 0, none⟩), .int .i64 x] wr fun e w' =>
    e = .returned (.int .i64 0) ∧ (∃ u, RtIn B F t N regs stk gl (updT th i (some ⟨u, fun _ => 0, []⟩)) wb w') ∧ Keep F wr w' := by
  subst hx
  have hs := h.size
  have hlive := h.live (i : Int) false (by rw [atI_nat, hn]; rfl)
  have h4 := h.few
  obtain ⟨R, rfl, hA, hF⟩ := h.ex
  have cH := hA.hasNumber (i : Int) true (decide_eq_true ⟨by omega, by omega⟩)
  have c6 := hA.c6
  have c7 := hA.c7
  have hi4 : (i : Int) < 4 := by omega
  have hi0 : (0 : Int) ≤ (i : Int) := by omega
  go_enter Try.func11, Try.ntmps11
  go_wp2_with fail
  refine cH.mono ?_
  rintro e w1 ⟨rfl, rfl⟩
  clear cH
  go_wp2_with fail
  refine hlive.mono ?_
  rintro e w1 ⟨rfl, rfl⟩
  clear hlive
  go_wp2_with fail
  have hi4' : i < 4 := by omega
  have hrf := hA.rfew
  have hsf := hA.sfew
  go_region_held3 (fun w' => w'.cell? ⟨R.t, 6, none⟩ = some (.int .i64 regs) ∧ w'.cell? ⟨R.t, 7, none⟩ = some (.int .i64 stk)) (first | exact ⟨c6, c7⟩ | exact hk7 | exact hk8)
    (first
      | (go_at_call 27; refine (thNew regs stk hrf hsf _).mono ?_; rintro e w1 ⟨T, rfl, hT, hlow, hB0⟩; have hB : Below wr.heap.size wr w1 := (Below.refl _ wr).drew.trans hB0; have hA1 := hA.below hB; have c1 : w1.cell? ⟨R.t, 1 + i, none⟩ = some (.pointer none) := (by have h9 := hA1.cT i hi4'; rw [hn] at h9; exact h9); have f1 := hA1.head.free (1 + i); have hk7 : w1.cell? ⟨R.t, 6, none⟩ = some (.int .i64 regs) ∧ w1.cell? ⟨R.t, 7, none⟩ = some (.int .i64 stk) := ⟨hA1.c6, hA1.c7⟩; have hb8 := (hA1.head.setAt (1 + i) (ptrV (some ⟨T.t, fun _ => 0, []⟩))).is (headV_set _ _ _ _ _ th i hi4' _); have hk8 : (w1.setCell ⟨R.t, 1 + i, none⟩ (.pointer (some ⟨T.t, 0, none⟩))).cell? ⟨R.t, 6, none⟩ = some (.int .i64 regs) ∧ (w1.setCell ⟨R.t, 1 + i, none⟩ (.pointer (some ⟨T.t, 0, none⟩))).cell? ⟨R.t, 7, none⟩ = some (.int .i64 stk) := ⟨hb8.cell 6, hb8.cell 7⟩))
  have h1 := h.ask hB
  have hfin := RtIn.put (m := some ⟨T.t, fun _ => 0, []⟩) hA1 hF h1.low h1.below h1.base (i := i) (by omega) T (fun x e => by
    cases e
    exact ⟨rfl, hT, hi, fun k hk => ⟨by have : wr.heap.size ≤ k := hlow k hk; omega, fun e => by have : wr.heap.size ≤ k := hlow k hk; have := h.low k e; omega, fun e => by have : wr.heap.size ≤ k := hlow k hk; have := hA.lt k e; omega⟩⟩)
  go_wp2_with fail
  go_ret
  exact ⟨rfl, ⟨T.t, hfin.1⟩, ⟨Nat.le_trans hB.size hfin.2.size, fun k hk => (hfin.2.block k hk).trans (hB.block k (h.low k hk))⟩⟩
theorem RtIn.spawnNo (h : RtIn B F t N regs stk gl th wb wr) (i : Int) (hi : ¬ (0 ≤ i ∧ i < (N : Int)) ∨ (atI th i).isSome = true) : Calls Try.prog 11 #[.pointer (some ⟨t, 0, none⟩), .int .i64 i] wr fun e w' => e = .returned (.int .i64 2) ∧ wr = w' := by
  have cL := fun hq => h.live i true hq
  obtain ⟨R, rfl, hA, hF⟩ := h.ex
  by_cases hin : 0 ≤ i ∧ i < (N : Int)
  · have hq : (atI th i).isSome = true := by
      rcases hi with e | e
      · exact absurd hin e
      · exact e
    have cH := hA.hasNumber i true (decide_eq_true hin)
    have cL2 := cL hq
    clear cL hi hin hq
    go_enter Try.func11, Try.ntmps11
    go_wp2_with fail
    refine cH.mono ?_
    rintro e w1 ⟨rfl, rfl⟩
    clear cH
    go_wp2_with fail
    refine cL2.mono ?_
    rintro e w1 ⟨rfl, rfl⟩
    clear cL2
    go_wp2_with fail
    go_ret
    exact ⟨rfl, rfl⟩
  · have cH := hA.hasNumber i false (decide_eq_false hin)
    clear cL hi hin
    go_enter Try.func11, Try.ntmps11
    go_wp2_with fail
    refine cH.mono ?_
    rintro e w1 ⟨rfl, rfl⟩
    clear cH
    go_wp2_with fail
    go_ret
    exact ⟨rfl, rfl⟩
theorem RtIn.exitNo (h : RtIn B F t N regs stk gl th wb wr) (i : Int) (hi : (atI th i).isSome = false) : Calls Try.prog 12 #[.pointer (some ⟨t, 0, none⟩), .int .i64 i] wr fun e w' => e = .returned (.int .i64 2) ∧ wr = w' := by
  have cL := h.live i false hi
  go_enter Try.func12, Try.ntmps12
  go_wp2_with fail
  refine cL.mono ?_
  rintro e w1 ⟨rfl, rfl⟩
  clear cL
  go_wp2_with fail
  go_ret
  exact ⟨rfl, rfl⟩
theorem RtIn.exit (h : RtIn B F t N regs stk gl th wb wr) (i : Nat) {m : TM} (hi : th i = some m) (x : Int) (hx : x = i) : Calls Try.prog 12 #[.pointer (some ⟨t, 0, none⟩), .int .i64 x] wr fun e w' =>
    e = .returned (.int .i64 0) ∧ RtIn B F t N regs stk gl (updT th i none) wb w' ∧ Keep F wr w' := by
  subst hx
  have cL := h.live (i : Int) true (by rw [atI_nat, hi]; rfl)
  have hN := h.ltN hi
  have h4 := h.few
  obtain ⟨R, rfl, hA, hF⟩ := h.ex
  have hfin := RtIn.put (m := none) hA hF h.low h.below h.base (i := i) (by omega) (R.X i) (fun x e => by cases e)
  have hi4 : (i : Int) < 4 := by omega
  have hi0 : (0 : Int) ≤ (i : Int) := by omega
  have c1 := hA.cT i (by omega)
  have f1 := hA.head.free (1 + i)
  generalize ptrV (th i) = p0 at *
  go_enter Try.func12, Try.ntmps12
  go_wp2_with fail
  refine cL.mono ?_
  rintro e w1 ⟨rfl, rfl⟩
  clear cL
  go_wp2_with fail
  go_ret
  exact ⟨rfl, hfin⟩
end
end Go.Proofs.Ytoemfehlnnbjdaa
