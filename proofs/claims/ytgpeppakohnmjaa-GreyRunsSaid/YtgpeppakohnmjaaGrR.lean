/- GreyRuns, walked, at this seat's numbers. -/
import Derived.Test.YtgpeppakohnmjaaGrC
import Derived.Test.YtgpeppakohnmjaaArgsG
namespace Go.Proofs.Ytgpeppakohnmjaa
open Go Go.RowKit
set_option linter.unusedSimpArgs false
set_option linter.unusedVariables false
attribute [local go_sem] Oper.semAt_some

/-- A stack, and a row that holds what it holds; blocks G that neither has. -/
structure Rg (B : Nat) (G : Nat → Prop) (s : Nat) (room : Int) (st : List Int) (ov : Bool) (vo : Value) (wb wr : World) : Prop where
  gr : GrIn B (fun k => vo.ownBlock = some k ∨ G k) s room st ov wb wr
  own : RefRow wr vo st
  low : ∀ k, vo.ownBlock = some k → B ≤ k
  gap : ∀ k, G k → B ≤ k ∧ vo.ownBlock ≠ some k
section
variable {B s : Nat} {G : Nat → Prop} {room : Int} {st st' l : List Int} {ov ov' : Bool} {vo vo' : Value} {wb wr w' : World}
theorem Rg.ask (h : Rg B G s room st ov vo wb wr) (hB : Below wr.heap.size wr w') : Rg B G s room st ov vo wb w' :=
  ⟨h.gr.ask hB, h.own.turn (Turn.ofBelow hB) (fun k e e2 => by have := h.own.lt e; omega), h.low, h.gap⟩
/-- What stands between the stack's call and the row's. -/
structure Rh (B : Nat) (G : Nat → Prop) (s : Nat) (room : Int) (st l : List Int) (ov : Bool) (vo : Value) (wb wr : World) : Prop where
  gr : GrIn B (fun k => vo.ownBlock = some k ∨ G k) s room st ov wb wr
  own : RefRow wr vo l
  low : ∀ k, vo.ownBlock = some k → B ≤ k
  gap : ∀ k, G k → B ≤ k ∧ vo.ownBlock ≠ some k
theorem Rh.same (h : Rh B G s room st st ov vo wb wr) : Rg B G s room st ov vo wb wr := ⟨h.gr, h.own, h.low, h.gap⟩
theorem Rg.step {P : Program} {fn : FuncId} {args : Array Value} {Re : Ending → Prop} (h : Rg B G s room st ov vo wb wr)
    (op : ∀ F : Nat → Prop, GrIn B F s room st ov wb wr → Calls P fn args wr fun e w' => Re e ∧ GrIn B F s room st' ov' wb w' ∧ Keep F wr w') :
    Calls P fn args wr fun e w' => Re e ∧ Rh B G s room st' st ov' vo wb w' ∧ ∀ k, G k → w'.heap[k]? = wr.heap[k]? := by
  refine (op _ h.gr).mono ?_
  rintro e w' ⟨hR, hN, hK⟩
  refine ⟨hR, ⟨hN, ?_, h.low, h.gap⟩, fun k hk => hK.block k (.inr hk)⟩
  refine ⟨h.own.1, ?_⟩
  rcases h.own.2 with h1 | ⟨g, cap, cur, rfl, hb, hg, rest⟩
  · exact .inl h1
  · exact .inr ⟨g, cap, cur, rfl, hb, (hK.block g (.inl rfl)).trans hg, rest⟩
theorem Rg.box (h : Rg B (fun _ => False) s room st ov vo wb wr) (o : Obj) : Rg B (fun k => k = wr.heap.size) s room st ov vo wb (wr.alloc o) := by
  have hB := (Below.refl _ wr).alloc (Nat.le_refl _) o
  have h1 := h.ask hB
  refine ⟨h.gr.add hB (fun k hk => ?_), h1.own, h.low, fun k e => ?_⟩
  · rcases hk with hk | hk
    · exact .inl (.inl hk)
    · exact .inr ⟨Nat.le_of_eq hk.symm, by rw [hk]; simp⟩
  · have e2 : k = wr.heap.size := e
    refine ⟨by have := h.gr.size; omega, fun e3 => by have := h.own.lt e3; omega⟩
theorem Rg.unbox (h : Rg B G s room st ov vo wb wr) : Rg B (fun _ => False) s room st ov vo wb wr :=
  ⟨h.gr.add (Below.refl _ _) (fun k hk => by rcases hk with hk | hk; exact .inl (.inl hk); exact hk.elim), h.own, h.low, fun k hk => hk.elim⟩
/-- The row is another one, in the same block. -/
theorem Rh.swap (h : Rh B G s room st l ov vo wb wr) (e : vo'.ownBlock = vo.ownBlock) (hR : RefRow wr vo' st) : Rg B G s room st ov vo' wb wr :=
  ⟨by rw [e]; exact h.gr, hR, by rw [e]; exact h.low, by rw [e]; exact h.gap⟩
theorem Rh.emptied (h : Rh B G s room [] l ov vo wb wr) : Rg B (fun _ => False) s room [] ov (.slice none 0 0) wb wr :=
  ⟨h.gr.add (Below.refl _ _) (fun k hk => by rcases hk with hk | hk; cases hk; exact hk.elim), World.ownsRow_nil _ _ _ _, (fun k e => by cases e), fun k hk => hk.elim⟩
/-- .. in a block that is its old one or a new one. -/
theorem Rh.push {g n cap : Nat} (h : Rh B G s room st l ov vo wb wr) (hR : RefRow w' (.slice (some ⟨g, 0, none⟩) n cap) st) (hT : Turn (fun k => vo.ownBlock = some k) wr w') (hg : vo.ownBlock = some g ∨ wr.heap.size ≤ g) :
    Rg B (fun _ => False) s room st ov (.slice (some ⟨g, 0, none⟩) n cap) wb w' := by
  have h1 := h.gr.turned hT (fun k e => ⟨.inl e, h.low k e⟩)
  have hgs := hR.lt (k := g) rfl
  have hsz := h.gr.size
  have hgB : B ≤ g := by
    rcases hg with e | e
    · exact h.low g e
    · omega
  obtain ⟨T, e, hA, hF⟩ := h.gr.ex
  have hAlt := hA.lt
  refine ⟨⟨⟨T, e, hA.turn hT (fun k hk e2 => (hF k hk).2 (.inl e2)), fun k hk => ⟨(hF k hk).1, fun hx => ?_⟩⟩, fun k hk => ?_, h1.below, h1.base⟩, hR, fun k e2 => ?_, fun k hk => hk.elim⟩
  · rcases hx with hx | hx
    · have e3 := own_slice hx
      subst e3
      rcases hg with e4 | e4
      · exact (hF _ hk).2 (.inl e4)
      · have := hAlt _ hk; omega
    · exact hx
  · rcases hk with hk | hk
    · have := own_slice hk; omega
    · exact hk.elim
  · have := own_slice e2; omega
theorem Rh.alloc (h : Rh B G s room st l ov vo wb wr) (o : Obj) : Rh B G s room st l ov vo wb (wr.alloc o) := by
  have hB := (Below.refl _ wr).alloc (Nat.le_refl _) o
  exact ⟨h.gr.ask hB, h.own.turn (Turn.ofBelow hB) (fun k e e2 => by have := h.own.lt e; omega), h.low, h.gap⟩
end
def RunG (B s : Nat) (room : Int) (len : Nat) (wb : World) (v6 v7 v26 : Value) (wr : World) : Prop :=
  ∃ (i : Nat) (st : List Int) (ov : Bool), i ≤ len ∧ v7 = .bool ov ∧ v26 = .int .i64 (i : Int) ∧ ((st.length : Int) ≤ room ∨ st = []) ∧ Rg B (fun _ => False) s room st ov v6 wb wr

set_option maxRecDepth 100000 in
set_option maxHeartbeats 8000000 in
theorem runs_true (pr : Int) (a0 : Option Addr) (len cap : Nat) (K N : Nat → Int) (w : World) (_ : len ≤ 9223372036854775807) (hZ : CallsAt w a0 len K N) :
    Calls Try.prog 3 #[.int .i64 pr, .slice a0 len cap] w fun e w' => e = .returned (.bool true) ∧ Below w.heap.size w w' := by
  have HZ := Lib.hid hZ
  clear hZ
  have hf := grfit_true w
  obtain ⟨R, hR15, hRe⟩ := i64_and_mask pr 15 (by decide)
  replace hRe : bits .and .i64 pr 15 = (R : Int) := hRe
  obtain ⟨M, hM⟩ : ∃ M : Int, (R : Int) - 2 = M := ⟨_, rfl⟩
  have hM1 : -2 ≤ M := by omega
  have hM2 : M ≤ 13 := by omega
  go_enter Try.func3, Try.ntmps3
  go_wp2_with fail
  refine hf.mono ?_
  rintro e w1 ⟨rfl, hB⟩
  clear hf
  by_cases hbig : 100 < (len : Int)
  · go_wp2_with fail
    go_ret
    exact ⟨rfl, hB⟩
  go_wp2_with fail
  refine (grIn_new (B := w.heap.size) (F := fun _ => False) (wb := w) (wr := w1) M (fun _ h => h.elim) hB (Nat.le_refl _)).mono ?_
  rintro e w2 ⟨s, rfl, h2, _⟩
  have h3 : Rg w.heap.size (fun _ => False) s M [] false (.slice none 0 0) w w2 := ⟨h2.add (Below.refl _ _) (fun k hk => by rcases hk with hk | hk; cases hk; exact hk.elim), World.ownsRow_nil _ _ _ _, (fun k e => by cases e), fun k hk => hk.elim⟩
  clear hB h2 hRe hM hR15
  go_wp2_with fail
  go_loopw [6, 7, 26] (fun v6 v7 v26 wr => RunG w.heap.size s M len w v6 v7 v26 wr) (fun _ _ v26 _ => len - (intOf v26).toNat)
  case atStart => exact ⟨0, [], false, Nat.zero_le _, rfl, rfl, .inr rfl, h3⟩
  case round =>
    clear h3
    obtain ⟨i, st, ov, hi, rfl, rfl, hst, h1⟩ := hrel
    have hi0 : (0 : Int) ≤ (i : Int) := by omega
    have HST := Lib.hid hst
    clear hst
    by_cases hlt : i < len
    · have hi1 : (i : Int) < (len : Int) := by omega
      obtain ⟨bk, off, rfl, hbk, hq0, hq1, hw0, hw1⟩ := HZ.out i hlt
      have hc0 := (h1.gr.below.cell (p := ⟨bk, off + i * 2, none⟩) hbk).trans hq0
      have hc1 := (h1.gr.below.cell (p := ⟨bk, off + i * 2 + 1, none⟩) hbk).trans hq1
      generalize K i = kd at *
      generalize N i = rd at *
      clear hq0 hq1 hw0 hw1
      obtain ⟨a, ha, hae⟩ := i64_and_mask kd 7 (by decide)
      replace hae : bits .and .i64 kd 7 = (a : Int) := hae
      have h2 := h1.box (.cells #[.int .i64 kd, .int .i64 rd] 29)
      have hbx := Blk.new wr #[.int .i64 kd, .int .i64 rd] 29
      have hbx0 := hbx.cell 0
      have hbx1 := hbx.cell 1
      simp only [List.getElem?_toArray, List.getElem?_cons_zero, List.getElem?_cons_succ] at hbx0 hbx1
      have hlr := h1.own.lenRun
      clear h1 hbk
      have ha8 : a = 0 ∨ a = 1 ∨ a = 2 ∨ a = 3 ∨ a = 4 ∨ a = 5 ∨ a = 6 ∨ a = 7 := by omega
      rcases ha8 with rfl | rfl | rfl | rfl | rfl | rfl | rfl | rfl
      · as_aux_lemma =>
          have hae2 : bits .and .i64 kd 7 = 0 := hae
          clear hae ha
          by_cases hroom : (st.length : Int) < M
          · have cS := h2.step (st' := st ++ [rd]) (ov' := ov) (Re := fun e => e = .returned (.bool true)) (fun F hN => hN.push hroom (by omega) rd)
            clear h2
            go_wp2_with fail
            refine cS.mono ?_
            rintro e w5 ⟨rfl, h5, hG5⟩
            have hb5 : Blk w5 wr.heap.size #[.int .i64 kd, .int .i64 rd] 29 := (hG5 _ rfl).trans hbx
            have hb51 := hb5.cell 1
            simp only [List.getElem?_toArray, List.getElem?_cons_zero, List.getElem?_cons_succ] at hb51
            clear cS hG5 hb5
            have hlr5 := h5.own.lenRun
            have h5a := h5.alloc (.cells #[.int .i64 rd] 27)
            have hs9 : (((st ++ [rd]).length : Nat) : Int) ≤ M ∨ (st ++ [rd]) = [] := .inl (by rw [List.length_append, List.length_singleton]; omega)
            have HS9 := Lib.hid hs9
            clear hs9
            clear hbx hbx0 hbx1 hlr h5
            go_wp2_with (at_builtin; refine wpList_pushT rfl _ _ rfl h5a.own (by omega) w5.heap.size 1 rd ((Blk.new w5 _ _).cell 0) rfl rfl ?_; intro g ng cg w6 hR6 hT6 hN6; have h9 := h5a.push hR6 hT6 hN6; clear h5a hR6 hT6 hN6 hlr5 hb51; have hlr9 := h9.own.lenRun)
            refine (h9.gr.len ((st ++ [rd]).length : Int) rfl).mono ?_
            rintro e w10 ⟨rfl, rfl⟩
            go_wp2_with fail
            refine h9.gr.over.mono ?_
            rintro e w11 ⟨rfl, rfl⟩
            clear hlr9
            go_wp2_with fail
            go_roundw
            case rel => exact ⟨i + 1, st ++ [rd], ov, hlt, rfl, by go_num, HS9.out, h9.unbox⟩
            case measure => simp [intOf]; omega
          · have cS := h2.step (st' := st) (ov' := true) (Re := fun e => e = .returned (.bool false)) (fun F hN => hN.pushNo (by omega) rd)
            clear h2
            go_wp2_with fail
            refine cS.mono ?_
            rintro e w5 ⟨rfl, h5, hG5⟩
            have hb5 : Blk w5 wr.heap.size #[.int .i64 kd, .int .i64 rd] 29 := (hG5 _ rfl).trans hbx
            have hb51 := hb5.cell 1
            simp only [List.getElem?_toArray, List.getElem?_cons_zero, List.getElem?_cons_succ] at hb51
            clear cS hG5 hb5
            have h9 := h5.same
            have hlr9 := h9.own.lenRun
            have HS9 := HST
            clear hbx hbx0 hbx1 hlr h5 hb51
            go_wp2_with fail
            refine (h9.gr.len ((st).length : Int) rfl).mono ?_
            rintro e w10 ⟨rfl, rfl⟩
            go_wp2_with fail
            refine h9.gr.over.mono ?_
            rintro e w11 ⟨rfl, rfl⟩
            clear hlr9
            go_wp2_with fail
            go_roundw
            case rel => exact ⟨i + 1, st, true, hlt, rfl, by go_num, HS9.out, h9.unbox⟩
            case measure => simp [intOf]; omega
      · as_aux_lemma =>
          have hae2 : bits .and .i64 kd 7 = 1 := hae
          clear hae ha
          by_cases hroom : (st.length : Int) < M
          · have cS := h2.step (st' := st ++ [rd]) (ov' := ov) (Re := fun e => e = .returned (.bool true)) (fun F hN => hN.push hroom (by omega) rd)
            clear h2
            go_wp2_with fail
            refine cS.mono ?_
            rintro e w5 ⟨rfl, h5, hG5⟩
            have hb5 : Blk w5 wr.heap.size #[.int .i64 kd, .int .i64 rd] 29 := (hG5 _ rfl).trans hbx
            have hb51 := hb5.cell 1
            simp only [List.getElem?_toArray, List.getElem?_cons_zero, List.getElem?_cons_succ] at hb51
            clear cS hG5 hb5
            have hlr5 := h5.own.lenRun
            have h5a := h5.alloc (.cells #[.int .i64 rd] 27)
            have hs9 : (((st ++ [rd]).length : Nat) : Int) ≤ M ∨ (st ++ [rd]) = [] := .inl (by rw [List.length_append, List.length_singleton]; omega)
            have HS9 := Lib.hid hs9
            clear hs9
            clear hbx hbx0 hbx1 hlr h5
            go_wp2_with (at_builtin; refine wpList_pushT rfl _ _ rfl h5a.own (by omega) w5.heap.size 1 rd ((Blk.new w5 _ _).cell 0) rfl rfl ?_; intro g ng cg w6 hR6 hT6 hN6; have h9 := h5a.push hR6 hT6 hN6; clear h5a hR6 hT6 hN6 hlr5 hb51; have hlr9 := h9.own.lenRun)
            refine (h9.gr.len ((st ++ [rd]).length : Int) rfl).mono ?_
            rintro e w10 ⟨rfl, rfl⟩
            go_wp2_with fail
            refine h9.gr.over.mono ?_
            rintro e w11 ⟨rfl, rfl⟩
            clear hlr9
            go_wp2_with fail
            go_roundw
            case rel => exact ⟨i + 1, st ++ [rd], ov, hlt, rfl, by go_num, HS9.out, h9.unbox⟩
            case measure => simp [intOf]; omega
          · have cS := h2.step (st' := st) (ov' := true) (Re := fun e => e = .returned (.bool false)) (fun F hN => hN.pushNo (by omega) rd)
            clear h2
            go_wp2_with fail
            refine cS.mono ?_
            rintro e w5 ⟨rfl, h5, hG5⟩
            have hb5 : Blk w5 wr.heap.size #[.int .i64 kd, .int .i64 rd] 29 := (hG5 _ rfl).trans hbx
            have hb51 := hb5.cell 1
            simp only [List.getElem?_toArray, List.getElem?_cons_zero, List.getElem?_cons_succ] at hb51
            clear cS hG5 hb5
            have h9 := h5.same
            have hlr9 := h9.own.lenRun
            have HS9 := HST
            clear hbx hbx0 hbx1 hlr h5 hb51
            go_wp2_with fail
            refine (h9.gr.len ((st).length : Int) rfl).mono ?_
            rintro e w10 ⟨rfl, rfl⟩
            go_wp2_with fail
            refine h9.gr.over.mono ?_
            rintro e w11 ⟨rfl, rfl⟩
            clear hlr9
            go_wp2_with fail
            go_roundw
            case rel => exact ⟨i + 1, st, true, hlt, rfl, by go_num, HS9.out, h9.unbox⟩
            case measure => simp [intOf]; omega
      · as_aux_lemma =>
          have hae2 : bits .and .i64 kd 7 = 2 := hae
          clear hae ha
          by_cases hroom : (st.length : Int) < M
          · have cS := h2.step (st' := st ++ [rd]) (ov' := ov) (Re := fun e => e = .returned (.bool true)) (fun F hN => hN.push hroom (by omega) rd)
            clear h2
            go_wp2_with fail
            refine cS.mono ?_
            rintro e w5 ⟨rfl, h5, hG5⟩
            have hb5 : Blk w5 wr.heap.size #[.int .i64 kd, .int .i64 rd] 29 := (hG5 _ rfl).trans hbx
            have hb51 := hb5.cell 1
            simp only [List.getElem?_toArray, List.getElem?_cons_zero, List.getElem?_cons_succ] at hb51
            clear cS hG5 hb5
            have hlr5 := h5.own.lenRun
            have h5a := h5.alloc (.cells #[.int .i64 rd] 27)
            have hs9 : (((st ++ [rd]).length : Nat) : Int) ≤ M ∨ (st ++ [rd]) = [] := .inl (by rw [List.length_append, List.length_singleton]; omega)
            have HS9 := Lib.hid hs9
            clear hs9
            clear hbx hbx0 hbx1 hlr h5
            go_wp2_with (at_builtin; refine wpList_pushT rfl _ _ rfl h5a.own (by omega) w5.heap.size 1 rd ((Blk.new w5 _ _).cell 0) rfl rfl ?_; intro g ng cg w6 hR6 hT6 hN6; have h9 := h5a.push hR6 hT6 hN6; clear h5a hR6 hT6 hN6 hlr5 hb51; have hlr9 := h9.own.lenRun)
            refine (h9.gr.len ((st ++ [rd]).length : Int) rfl).mono ?_
            rintro e w10 ⟨rfl, rfl⟩
            go_wp2_with fail
            refine h9.gr.over.mono ?_
            rintro e w11 ⟨rfl, rfl⟩
            clear hlr9
            go_wp2_with fail
            go_roundw
            case rel => exact ⟨i + 1, st ++ [rd], ov, hlt, rfl, by go_num, HS9.out, h9.unbox⟩
            case measure => simp [intOf]; omega
          · have cS := h2.step (st' := st) (ov' := true) (Re := fun e => e = .returned (.bool false)) (fun F hN => hN.pushNo (by omega) rd)
            clear h2
            go_wp2_with fail
            refine cS.mono ?_
            rintro e w5 ⟨rfl, h5, hG5⟩
            have hb5 : Blk w5 wr.heap.size #[.int .i64 kd, .int .i64 rd] 29 := (hG5 _ rfl).trans hbx
            have hb51 := hb5.cell 1
            simp only [List.getElem?_toArray, List.getElem?_cons_zero, List.getElem?_cons_succ] at hb51
            clear cS hG5 hb5
            have h9 := h5.same
            have hlr9 := h9.own.lenRun
            have HS9 := HST
            clear hbx hbx0 hbx1 hlr h5 hb51
            go_wp2_with fail
            refine (h9.gr.len ((st).length : Int) rfl).mono ?_
            rintro e w10 ⟨rfl, rfl⟩
            go_wp2_with fail
            refine h9.gr.over.mono ?_
            rintro e w11 ⟨rfl, rfl⟩
            clear hlr9
            go_wp2_with fail
            go_roundw
            case rel => exact ⟨i + 1, st, true, hlt, rfl, by go_num, HS9.out, h9.unbox⟩
            case measure => simp [intOf]; omega
      · as_aux_lemma =>
          have hae2 : bits .and .i64 kd 7 = 3 := hae
          clear hae ha
          by_cases hroom : (st.length : Int) < M
          · have cS := h2.step (st' := st ++ [rd]) (ov' := ov) (Re := fun e => e = .returned (.bool true)) (fun F hN => hN.push hroom (by omega) rd)
            clear h2
            go_wp2_with fail
            refine cS.mono ?_
            rintro e w5 ⟨rfl, h5, hG5⟩
            have hb5 : Blk w5 wr.heap.size #[.int .i64 kd, .int .i64 rd] 29 := (hG5 _ rfl).trans hbx
            have hb51 := hb5.cell 1
            simp only [List.getElem?_toArray, List.getElem?_cons_zero, List.getElem?_cons_succ] at hb51
            clear cS hG5 hb5
            have hlr5 := h5.own.lenRun
            have h5a := h5.alloc (.cells #[.int .i64 rd] 27)
            have hs9 : (((st ++ [rd]).length : Nat) : Int) ≤ M ∨ (st ++ [rd]) = [] := .inl (by rw [List.length_append, List.length_singleton]; omega)
            have HS9 := Lib.hid hs9
            clear hs9
            clear hbx hbx0 hbx1 hlr h5
            go_wp2_with (at_builtin; refine wpList_pushT rfl _ _ rfl h5a.own (by omega) w5.heap.size 1 rd ((Blk.new w5 _ _).cell 0) rfl rfl ?_; intro g ng cg w6 hR6 hT6 hN6; have h9 := h5a.push hR6 hT6 hN6; clear h5a hR6 hT6 hN6 hlr5 hb51; have hlr9 := h9.own.lenRun)
            refine (h9.gr.len ((st ++ [rd]).length : Int) rfl).mono ?_
            rintro e w10 ⟨rfl, rfl⟩
            go_wp2_with fail
            refine h9.gr.over.mono ?_
            rintro e w11 ⟨rfl, rfl⟩
            clear hlr9
            go_wp2_with fail
            go_roundw
            case rel => exact ⟨i + 1, st ++ [rd], ov, hlt, rfl, by go_num, HS9.out, h9.unbox⟩
            case measure => simp [intOf]; omega
          · have cS := h2.step (st' := st) (ov' := true) (Re := fun e => e = .returned (.bool false)) (fun F hN => hN.pushNo (by omega) rd)
            clear h2
            go_wp2_with fail
            refine cS.mono ?_
            rintro e w5 ⟨rfl, h5, hG5⟩
            have hb5 : Blk w5 wr.heap.size #[.int .i64 kd, .int .i64 rd] 29 := (hG5 _ rfl).trans hbx
            have hb51 := hb5.cell 1
            simp only [List.getElem?_toArray, List.getElem?_cons_zero, List.getElem?_cons_succ] at hb51
            clear cS hG5 hb5
            have h9 := h5.same
            have hlr9 := h9.own.lenRun
            have HS9 := HST
            clear hbx hbx0 hbx1 hlr h5 hb51
            go_wp2_with fail
            refine (h9.gr.len ((st).length : Int) rfl).mono ?_
            rintro e w10 ⟨rfl, rfl⟩
            go_wp2_with fail
            refine h9.gr.over.mono ?_
            rintro e w11 ⟨rfl, rfl⟩
            clear hlr9
            go_wp2_with fail
            go_roundw
            case rel => exact ⟨i + 1, st, true, hlt, rfl, by go_num, HS9.out, h9.unbox⟩
            case measure => simp [intOf]; omega
      · as_aux_lemma =>
          have hae2 : bits .and .i64 kd 7 = 4 := hae
          clear hae ha
          rcases List.eq_nil_or_concat st with rfl | ⟨q, y, rfl⟩
          · have cS := h2.step (st' := []) (ov' := ov) (Re := fun e => e = .returned (.tuple #[.int .i64 0, .bool false])) (fun F hN => hN.popNo.mono fun e w' ⟨he, hw⟩ => ⟨he, hw ▸ hN, hw ▸ ⟨Nat.le_refl _, fun _ _ => rfl⟩⟩)
            clear h2
            go_wp2_with fail
            refine cS.mono ?_
            rintro e w5 ⟨rfl, h5, hG5⟩
            have hb5 : Blk w5 wr.heap.size #[.int .i64 kd, .int .i64 rd] 29 := (hG5 _ rfl).trans hbx
            have hb51 := hb5.cell 1
            simp only [List.getElem?_toArray, List.getElem?_cons_zero, List.getElem?_cons_succ] at hb51
            clear cS hG5 hb5
            have h9 := h5.same
            have hlr9 := h9.own.lenRun
            have HS9 := HST
            clear hbx hbx0 hbx1 hlr h5 hb51
            simp only [List.length_nil] at hlr9
            go_wp2_with fail
            refine (h9.gr.len 0 rfl).mono ?_
            rintro e w10 ⟨rfl, rfl⟩
            go_wp2_with fail
            refine h9.gr.over.mono ?_
            rintro e w11 ⟨rfl, rfl⟩
            clear hlr9
            go_wp2_with fail
            go_roundw
            case rel => exact ⟨i + 1, ([] : List Int), ov, hlt, rfl, by go_num, .inr rfl, h9.unbox⟩
            case measure => simp [intOf]; omega
          · rw [List.concat_eq_append] at h2 HST hlr
            have cS := h2.step (st' := q) (ov' := ov) (Re := fun e => e = .returned (.tuple #[.int .i64 y, .bool true])) (fun F hN => hN.pop (by have := HST.out; simp at this; omega))
            clear h2
            go_wp2_with fail
            refine cS.mono ?_
            rintro e w5 ⟨rfl, h5, hG5⟩
            have hb5 : Blk w5 wr.heap.size #[.int .i64 kd, .int .i64 rd] 29 := (hG5 _ rfl).trans hbx
            have hb51 := hb5.cell 1
            simp only [List.getElem?_toArray, List.getElem?_cons_zero, List.getElem?_cons_succ] at hb51
            clear cS hG5 hb5
            rcases h5.own.is with ⟨_, e⟩ | ⟨g, cap5, cur, rfl, hg, hlc, hcm, hcs, hcl⟩
            · simp at e
            have hy := hcl q.length (by simp)
            rw [List.getElem_append_right (Nat.le_refl _)] at hy
            simp only [Nat.sub_self, List.getElem_singleton] at hy
            have hpl := h5.own
            rw [List.length_append, List.length_singleton] at hlc hpl
            have h9 := h5.swap (vo' := .slice (some ⟨g, 0, none⟩) q.length cap5) rfl hpl.less
            have hlr9 := h9.own.lenRun
            have e1 : (((q ++ [y]).length : Nat) : Int) = (q.length : Int) + 1 := by simp
            have hq0 : (0 : Int) ≤ (q.length : Int) := by omega
            have hq1 : (q.length : Int) < (cap5 : Int) := by omega
            have hyy : (y == y) = true := by simp
            have hs9 : (q.length : Int) ≤ M ∨ q = [] := by have := HST.out; simp at this; omega
            have HS9 := Lib.hid hs9
            clear hs9
            clear hbx hbx0 hbx1 hlr hb51 h5 hpl hcl hcs HST hg
            go_wp2_with fail
            clear hy hyy e1
            refine (h9.gr.len ((q).length : Int) rfl).mono ?_
            rintro e w10 ⟨rfl, rfl⟩
            go_wp2_with fail
            refine h9.gr.over.mono ?_
            rintro e w11 ⟨rfl, rfl⟩
            clear hlr9
            go_wp2_with fail
            go_roundw
            case rel => exact ⟨i + 1, q, ov, hlt, rfl, by go_num, HS9.out, h9.unbox⟩
            case measure => simp [intOf]; omega
      · as_aux_lemma =>
          have hae2 : bits .and .i64 kd 7 = 5 := hae
          clear hae ha
          rcases List.eq_nil_or_concat st with rfl | ⟨q, y, rfl⟩
          · have cS := h2.step (st' := []) (ov' := ov) (Re := fun e => e = .returned (.tuple #[.int .i64 0, .bool false])) (fun F hN => hN.popNo.mono fun e w' ⟨he, hw⟩ => ⟨he, hw ▸ hN, hw ▸ ⟨Nat.le_refl _, fun _ _ => rfl⟩⟩)
            clear h2
            go_wp2_with fail
            refine cS.mono ?_
            rintro e w5 ⟨rfl, h5, hG5⟩
            have hb5 : Blk w5 wr.heap.size #[.int .i64 kd, .int .i64 rd] 29 := (hG5 _ rfl).trans hbx
            have hb51 := hb5.cell 1
            simp only [List.getElem?_toArray, List.getElem?_cons_zero, List.getElem?_cons_succ] at hb51
            clear cS hG5 hb5
            have h9 := h5.same
            have hlr9 := h9.own.lenRun
            have HS9 := HST
            clear hbx hbx0 hbx1 hlr h5 hb51
            simp only [List.length_nil] at hlr9
            go_wp2_with fail
            refine (h9.gr.len 0 rfl).mono ?_
            rintro e w10 ⟨rfl, rfl⟩
            go_wp2_with fail
            refine h9.gr.over.mono ?_
            rintro e w11 ⟨rfl, rfl⟩
            clear hlr9
            go_wp2_with fail
            go_roundw
            case rel => exact ⟨i + 1, ([] : List Int), ov, hlt, rfl, by go_num, .inr rfl, h9.unbox⟩
            case measure => simp [intOf]; omega
          · rw [List.concat_eq_append] at h2 HST hlr
            have cS := h2.step (st' := q) (ov' := ov) (Re := fun e => e = .returned (.tuple #[.int .i64 y, .bool true])) (fun F hN => hN.pop (by have := HST.out; simp at this; omega))
            clear h2
            go_wp2_with fail
            refine cS.mono ?_
            rintro e w5 ⟨rfl, h5, hG5⟩
            have hb5 : Blk w5 wr.heap.size #[.int .i64 kd, .int .i64 rd] 29 := (hG5 _ rfl).trans hbx
            have hb51 := hb5.cell 1
            simp only [List.getElem?_toArray, List.getElem?_cons_zero, List.getElem?_cons_succ] at hb51
            clear cS hG5 hb5
            rcases h5.own.is with ⟨_, e⟩ | ⟨g, cap5, cur, rfl, hg, hlc, hcm, hcs, hcl⟩
            · simp at e
            have hy := hcl q.length (by simp)
            rw [List.getElem_append_right (Nat.le_refl _)] at hy
            simp only [Nat.sub_self, List.getElem_singleton] at hy
            have hpl := h5.own
            rw [List.length_append, List.length_singleton] at hlc hpl
            have h9 := h5.swap (vo' := .slice (some ⟨g, 0, none⟩) q.length cap5) rfl hpl.less
            have hlr9 := h9.own.lenRun
            have e1 : (((q ++ [y]).length : Nat) : Int) = (q.length : Int) + 1 := by simp
            have hq0 : (0 : Int) ≤ (q.length : Int) := by omega
            have hq1 : (q.length : Int) < (cap5 : Int) := by omega
            have hyy : (y == y) = true := by simp
            have hs9 : (q.length : Int) ≤ M ∨ q = [] := by have := HST.out; simp at this; omega
            have HS9 := Lib.hid hs9
            clear hs9
            clear hbx hbx0 hbx1 hlr hb51 h5 hpl hcl hcs HST hg
            go_wp2_with fail
            clear hy hyy e1
            refine (h9.gr.len ((q).length : Int) rfl).mono ?_
            rintro e w10 ⟨rfl, rfl⟩
            go_wp2_with fail
            refine h9.gr.over.mono ?_
            rintro e w11 ⟨rfl, rfl⟩
            clear hlr9
            go_wp2_with fail
            go_roundw
            case rel => exact ⟨i + 1, q, ov, hlt, rfl, by go_num, HS9.out, h9.unbox⟩
            case measure => simp [intOf]; omega
      · as_aux_lemma =>
          have hae2 : bits .and .i64 kd 7 = 6 := hae
          clear hae ha
          have cS := h2.step (st' := st) (ov' := false) (Re := fun e => e = .returned (.tuple #[])) (fun F hN => hN.settle)
          clear h2
          go_wp2_with fail
          refine cS.mono ?_
          rintro e w5 ⟨rfl, h5, hG5⟩
          have hb5 : Blk w5 wr.heap.size #[.int .i64 kd, .int .i64 rd] 29 := (hG5 _ rfl).trans hbx
          have hb51 := hb5.cell 1
          simp only [List.getElem?_toArray, List.getElem?_cons_zero, List.getElem?_cons_succ] at hb51
          clear cS hG5 hb5
          have h9 := h5.same
          have hlr9 := h9.own.lenRun
          have HS9 := HST
          clear hbx hbx0 hbx1 hlr h5 hb51
          go_wp2_with fail
          refine (h9.gr.len ((st).length : Int) rfl).mono ?_
          rintro e w10 ⟨rfl, rfl⟩
          go_wp2_with fail
          refine h9.gr.over.mono ?_
          rintro e w11 ⟨rfl, rfl⟩
          clear hlr9
          go_wp2_with fail
          go_roundw
          case rel => exact ⟨i + 1, st, false, hlt, rfl, by go_num, HS9.out, h9.unbox⟩
          case measure => simp [intOf]; omega
      · as_aux_lemma =>
          have hae2 : bits .and .i64 kd 7 = 7 := hae
          clear hae ha
          have cS := h2.step (st' := []) (ov' := false) (Re := fun e => e = .returned (.tuple #[])) (fun F hN => hN.reset)
          clear h2
          go_wp2_with fail
          refine cS.mono ?_
          rintro e w5 ⟨rfl, h5, hG5⟩
          have hb5 : Blk w5 wr.heap.size #[.int .i64 kd, .int .i64 rd] 29 := (hG5 _ rfl).trans hbx
          have hb51 := hb5.cell 1
          simp only [List.getElem?_toArray, List.getElem?_cons_zero, List.getElem?_cons_succ] at hb51
          clear cS hG5 hb5
          have h9 := h5.emptied
          have hlr9 := h9.own.lenRun
          have hs9 : ((([] : List Int)).length : Int) ≤ M ∨ ([] : List Int) = [] := .inr rfl
          have HS9 := Lib.hid hs9
          clear hs9
          clear hbx hbx0 hbx1 hlr h5 hb51
          simp only [List.length_nil] at hlr9
          go_wp2_with fail
          refine (h9.gr.len 0 rfl).mono ?_
          rintro e w10 ⟨rfl, rfl⟩
          go_wp2_with fail
          refine h9.gr.over.mono ?_
          rintro e w11 ⟨rfl, rfl⟩
          clear hlr9
          go_wp2_with fail
          go_roundw
          case rel => exact ⟨i + 1, ([] : List Int), false, hlt, rfl, by go_num, .inr rfl, h9.unbox⟩
          case measure => simp [intOf]; omega
    · have hi1 : ¬ (i : Int) < (len : Int) := by omega
      have hbl := h1.gr.below
      clear hlt hi hi0 h1
      go_wp2_with fail
      go_ret
      exact ⟨rfl, hbl⟩
end Go.Proofs.Ytgpeppakohnmjaa
