/- ThreadRuns, walked, at this seat's numbers. Written by wip/gen/thw.py. -/
import Derived.Test.YtfipflghnhfcjaaThX
namespace Go.Proofs.Ytfipflghnhfcjaa
open Go Go.RowKit Go.Shelf
set_option linter.unusedSimpArgs false
set_option linter.unusedVariables false
attribute [local go_sem] Oper.semAt_some

def refsO (n : Nat) : Array Value := (((List.range n).map fun _ => (0 : Int)).map fun r => Value.int .i64 r).toArray
theorem make_refs (n : Nat) (hn : n ≤ 4096) (w : World) : (Instr.makeSlice 40 (.int .i64 (n : Int)) (.int .i64 (n : Int))).run Try.prog w = .ok (.slice (some ⟨w.heap.size, 0, none⟩) n n) (w.alloc (.cells (refsO n) 30)) := by
  obtain ⟨i0, hi, hz0, hz1, hz2⟩ := info_parts infoRefT
  have h := run_make (P := Try.prog) w 40 30 i0 (.int .i64 0) Try.underlying40 hi hz0 .i64 .i64 (n : Int) (n : Int) (by omega) (Int.le_refl _) (by rw [hz2]; omega) (by omega)
  simp only [Int.toNat_natCast, hz1] at h
  rw [h]
  have e : madeCells (Value.int .i64 0).cells (n * 1) = refsO n := by
    unfold refsO
    apply Array.ext'
    rw [Nat.mul_one]
    refine (toList_madeCells_one (Value.int .i64 0) n).trans ?_
    rw [List.map_map]
    apply List.ext_getElem
    · simp
    · intro i h1 h2
      simp
  rw [e]
def RunA (B t R K len go : Nat) (wb : World) (v9 v42 : Value) (wr : World) : Prop :=
  ∃ (i : Nat) (f : Nat → Int) (st : List Int), i ≤ len ∧ v42 = .int .i64 (i : Int) ∧ st.length ≤ K ∧ Rn B (fun _ => False) t R K f st go ((List.range R).map f) v9 st wb wr

def RunB (B t R K : Nat) (f : Nat → Int) (st : List Int) (va : Value) (l : List Int) (bx : Nat) (wb : World) (v196 : Value) (wr : World) : Prop :=
  ∃ (j : Nat) (vw : Value), j ≤ l.length ∧ v196 = .int .i64 (j : Int) ∧ Wn B t R K f st va l bx vw (nz (l.take j)) wb wr
theorem RefRow.kept {W W' : World} {row : Option Nat} {v : Value} {l : List Int} (h : RefRow W v l) (hg : W.grownBy W' row) (hrow : ∀ r, row = some r → ∃ o : Obj, W.heap[r]? = some o ∧ o.isCells = false) : RefRow W' v l := by
  refine ⟨h.1, ?_⟩
  rcases h.2 with h1 | ⟨g, cap, cur, rfl, hb, hg2, rest⟩
  · exact .inl h1
  · exact .inr ⟨g, cap, cur, rfl, hb, Blk.keptT (T := 30) hg2 hg hrow, rest⟩
theorem nz_le (l : List Int) (j : Nat) : (nz (l.take j)).length ≤ l.length := by
  have h1 := List.length_filter_le (fun r => r != 0) (l.take j)
  rw [List.length_take] at h1
  unfold nz
  omega

def BadP (p pre : List Int) : Prop := ∃ (q : List Int) (x : Int), pre = q ++ [x] ∧ ¬ p[q.length]? = some x
/-- An append whose run is known. -/
theorem wpListIn_appendRun {F : Fence} {n : Nat} {P : Program} {ops : Array Oper} {rest : List Oper} {o : Oper} {a : Act} {Q : Exit → Act → World → Prop} {w w' : World} {r : Value} (hgd : o.guard = none) (s x : Operand) (t : TypeId)
    (ho : o.op = .call { callee := .builtin .append, args := #[s, x], argTypes := #[t, t] }) (v1 v2 : Value) (hs : a.eval s = v1) (hx : a.eval x = v2) (hr : (Builtin.append_ #[t, t] o.type #[v1, v2]).run P w = .ok r w') (h : wpListIn F n P ops Q rest (a.put o.dst r) w') : wpListIn F n P ops Q (o :: rest) a w := by
  refine wpListIn_plain hgd fun K hK' => ?_
  unfold Oper.wpIn
  refine ⟨?_, ?_⟩
  · simp [Oper.about, ho, resolve, Target.leads, Sem.run_pure]
  · rw [Oper.semAt_plain F _ _ (by rw [ho]; intro c hc'; cases hc')]
    simp [execOp, ho, resolve, invoke, builtin, hs, hx, hr, Result.andThen]
    exact hK' _ _ h

set_option maxRecDepth 100000 in
set_option maxHeartbeats 8000000 in
theorem runs_true (pr pk : Int) (a0 : Option Addr) (len cap : Nat) (Q : Nat → Nat → Int) (w : World) (_ : len ≤ 9223372036854775807) (hZ : TripAt w a0 len Q) :
    Calls Try.prog 4 #[.int .i64 pr, .int .i64 pk, .slice a0 len cap] w fun e w' => e = .returned (.bool true) ∧ Below w.heap.size w w' := by
  have HZ := Lib.hid hZ
  clear hZ
  obtain ⟨M, hM6⟩ : ∃ M : Nat, 8 ≤ M := ⟨8, Nat.le_refl _⟩
  obtain ⟨R, hR15, hRe⟩ := i64_and_mask pr 15 (by decide)
  replace hRe : bits .and .i64 pr 15 = (R : Int) := hRe
  obtain ⟨K, hK15, hKe⟩ := i64_and_mask pk 15 (by decide)
  replace hKe : bits .and .i64 pk 15 = (K : Int) := hKe
  refine calls_of_wp_marks Try.func4 rfl M ?_
  simp only [Try.ntmps4, List.size_toArray, List.length_cons, List.length_nil, Nat.reduceAdd, Nat.reduceSub, Array.replicate_succ, Array.replicate_zero, List.push_toArray, List.append_toArray, List.nil_append, List.cons_append]
  gi_wp2_with fail
  refine ⟨trivial, fun h => (by cases h), ?_⟩
  have hR := Blk.new w #[.bool false] 4
  have hBb := (Below.refl w.heap.size w).alloc (Nat.le_refl _) (.cells #[.bool false] 4)
  have hsb : w.heap.size + 1 ≤ (w.alloc (.cells #[.bool false] 4)).heap.size := by simp
  generalize w.alloc (.cells #[.bool false] 4) = wb at *
  refine (callsIn_wide.2 (thfit_true wb)).mono ?_
  rintro e w1 ⟨rfl, hB⟩
  have hR1 : w1.cell? ⟨w.heap.size, 0, none⟩ = some (.bool false) := (hB.cell (p := ⟨w.heap.size, 0, none⟩) hR.lt).trans (hR.cell 0)
  have hZ1 : w1.frozen? ⟨w.heap.size, 0, none⟩ = false := (hB.frozen (p := ⟨w.heap.size, 0, none⟩) hR.lt).trans (hR.free 0)
  by_cases hbig : 100 < (len : Int)
  · gi_wp2_with fail
    refine ⟨.bool true, ?_, rfl, (hBb.trans (hB.mono (by omega))).setCell (p := ⟨w.heap.size, 0, none⟩) (Nat.le_refl _) (.bool true)⟩
    have hc := World.cell?_setCell_same w1 ⟨w.heap.size, 0, none⟩ (.bool true) hR1
    simp [results, Try.f4, go_sem, hc]
  clear hR1 hZ1
  gi_wp2_with fail
  refine ⟨trivial, fun h => (by cases h), ?_⟩
  refine (callsIn_wide.2 (thIn_new (B := wb.heap.size) (F := fun _ => False) (wb := wb) (wr := w1) (R : Int) (K : Int) (by omega) (by omega) (fun _ h => h.elim) hB (Nat.le_refl _))).mono ?_
  rintro e w2 ⟨t, rfl, h2, _⟩
  have h3 : Rn wb.heap.size (fun _ => False) t R K (fun _ => 0) [] w2.heap.size ((List.range R).map fun _ => (0 : Int)) (.slice none 0 0) [] wb (w2.alloc (.cells (refsO R) 30)) :=
    ⟨h2.add ((Below.refl _ w2).alloc (Nat.le_refl _) _) (fun k hk => by
      rcases hk with (hk | hk) | hk
      · exact .inr ⟨Nat.le_of_eq hk.symm, by rw [hk]; simp⟩
      · cases hk
      · exact hk.elim), Blk.new w2 (refsO R) _, ⟨rfl, .inl ⟨rfl, rfl⟩⟩, (fun h => by cases h), ⟨h2.size, fun k e => by cases e⟩, fun k hk => hk.elim⟩
  have hmk := make_refs R (by omega)
  clear hB hRe hKe h2
  gi_wp2_with fail
  generalize w2.alloc (.cells (refsO R) 30) = w3 at *
  generalize w2.heap.size = go at *
  clear hmk
  gi_loopw [9, 42] (fun v9 v42 wr => RunA wb.heap.size t R K len go wb v9 v42 wr) (fun _ v42 _ => len - (intOf v42).toNat)
  case atStart => exact ⟨0, _, [], Nat.zero_le _, rfl, by simp, h3⟩
  case round =>
    clear h3
    obtain ⟨i, f, st, hi, rfl, hst9, h1⟩ := hrel
    have hi0 : (0 : Int) ≤ (i : Int) := by omega
    by_cases hlt : i < len
    · have hi1 : (i : Int) < (len : Int) := by omega
      obtain ⟨bk, off, rfl, hbk, hcs⟩ := HZ.out i hlt
      have hc0 := (((hBb.trans (h1.th.below.mono (by omega))).cell (p := ⟨bk, off + i * 3, none⟩) hbk).trans (hcs 0 (by decide)).1)
      have hc1 := (((hBb.trans (h1.th.below.mono (by omega))).cell (p := ⟨bk, off + i * 3 + 1, none⟩) hbk).trans (hcs 1 (by decide)).1)
      have hc2 := (((hBb.trans (h1.th.below.mono (by omega))).cell (p := ⟨bk, off + i * 3 + 2, none⟩) hbk).trans (hcs 2 (by decide)).1)
      generalize Q i 0 = kd at *
      generalize Q i 1 = id at *
      generalize Q i 2 = rd at *
      obtain ⟨a, ha, hae⟩ := i64_and_mask kd 3 (by decide)
      replace hae : bits .and .i64 kd 3 = (a : Int) := hae
      have h2 := h1.box (.cells #[.int .i64 kd, .int .i64 id, .int .i64 rd] 42)
      have hbx := Blk.new wr #[.int .i64 kd, .int .i64 id, .int .i64 rd] 42
      have hbx0 := hbx.cell 0
      have hbx1 := hbx.cell 1
      have hbx2 := hbx.cell 2
      clear hcs h1
      have ca : a = 0 ∨ a = 1 ∨ a = 2 ∨ a = 3 := by omega
      rcases ca with rfl | rfl | rfl | rfl
      · as_aux_lemma =>
          have hae2 : bits .and .i64 kd 3 = 0 := hae
          clear hae
          by_cases hid : 0 ≤ id
          · by_cases hid2 : id < (R : Int)
            · obtain ⟨n, rfl⟩ : ∃ n : Nat, id = (n : Int) := ⟨id.toNat, by omega⟩
              have hnI : (n : Int) < (R : Int) := hid2
              have hnR : n < R := by omega
              clear hid2
              have cS := h2.step (f' := updR f n rd) (st' := st) (Re := fun e => e = .returned ((.int .i64 0))) (fun F hN => hN.setReg n (n : Int) rfl hnI rd)
              clear h2
              gi_wp2_with fail
              refine ⟨trivial, fun h => (by cases h), ?_⟩
              refine (callsIn_wide.2 cS).mono ?_
              rintro e w5 ⟨rfl, h5, hG5⟩
              have hb5 : Blk w5 wr.heap.size #[.int .i64 kd, .int .i64 (n : Int), .int .i64 rd] 42 := (hG5 _ rfl).trans hbx
              have hb51 := hb5.cell 1
              have hb52 := hb5.cell 2
              clear cS hG5
              have hco : w5.cell? ⟨go, n, none⟩ = some (.int .i64 (f n)) := by rw [h5.own.cell n]; simp [hnR]
              have hzo := h5.own.free n
              have h6 := h5.store n rd
              rw [regs_set] at h6
              have H6 := Lib.hid h6
              clear h5 h6 hb5 hbx hbx0 hbx1 hbx2
              gi_wp2_with fail
              refine ⟨trivial, fun h => (by cases h), ?_⟩
              have h6 := H6.out
              clear H6 hco hzo hb51 hb52
              generalize w5.setCell ⟨go, n, none⟩ (.int .i64 rd) = w6 at *
              obtain ⟨sl, hsl⟩ : ∃ sl, (st).length = sl := ⟨_, rfl⟩
              have hlr := h6.pile.lenRun
              simp only [hsl] at hlr
              try simp only [hsl] at h6 ⊢
              have hslK : sl ≤ K := by rw [← hsl]; exact hst9
              have cD := h6.read (Re := fun e => e = .returned (.int .i64 (sl : Int))) (fun F hN => by have hd := hN.depth; rw [hsl] at hd; exact hd.mono fun e w' ⟨he, hw⟩ => ⟨he, hw ▸ Below.refl _ _⟩)
              have HSL := Lib.hid hsl
              have HST := Lib.hid hst9
              clear hsl hst9
              refine (callsIn_wide.2 cD).mono ?_
              rintro e w7 ⟨rfl, h7, hG7⟩
              clear cD hG7 h6
              obtain ⟨bq, hbq⟩ : ∃ bq, decide ((K : Int) ≤ (sl : Int)) = bq := ⟨_, rfl⟩
              have hbe : ((sl : Int) == (K : Int)) = bq := by
                rw [← hbq]
                by_cases hfl : sl = K
                · rw [hfl]; simp
                · have e1 : ((sl : Int) == (K : Int)) = false := by simp; omega
                  rw [e1]; symm; simp; omega
              have hbd : decide ((sl : Int) = (K : Int)) = bq := hbe
              have hnn : ((sl : Int) == (sl : Int)) = true := by simp
              have hqq : (bq == bq) = true := by simp
              have cF := h7.read (Re := fun e => e = .returned (.bool bq)) (fun F hN => (hN.full bq (by rw [HSL.out]; exact hbq)).mono fun e w' ⟨he, hw⟩ => ⟨he, hw ▸ (Below.refl _ _).drew⟩)
              have H7 := Lib.hid h7
              clear h7 hslK hbq
              gi_wp2_with fail
              refine ⟨trivial, fun h => (by cases h), ?_⟩
              refine (callsIn_wide.2 cF).mono ?_
              rintro e w8 ⟨rfl, h8, hG8⟩
              clear cF hG8 H7
              gi_wp2_with fail
              go_roundw
              case rel => exact ⟨i + 1, _, _, hlt, by go_num, HST.out, h8.unbox⟩
              case measure => simp [intOf]; omega
            · have hno : ¬ (0 ≤ id ∧ id < (R : Int)) := by omega
              have cS := h2.read (Re := fun e => e = .returned ((.int .i64 4))) (fun F hN => (hN.setRegNo id hno rd).mono fun e w' ⟨he, hw⟩ => ⟨he, hw ▸ Below.refl _ _⟩)
              clear h2
              gi_wp2_with fail
              refine ⟨trivial, fun h => (by cases h), ?_⟩
              refine (callsIn_wide.2 cS).mono ?_
              rintro e w5 ⟨rfl, h5, hG5⟩
              have hb5 : Blk w5 wr.heap.size #[.int .i64 kd, .int .i64 id, .int .i64 rd] 42 := (hG5 _ rfl).trans hbx
              have hb51 := hb5.cell 1
              have hb52 := hb5.cell 2
              clear cS hG5
              clear hb51 hb52 hb5 hbx hbx0 hbx1 hbx2
              gi_wp2_with fail
              refine ⟨trivial, fun h => (by cases h), ?_⟩
              obtain ⟨sl, hsl⟩ : ∃ sl, (st).length = sl := ⟨_, rfl⟩
              have hlr := h5.pile.lenRun
              simp only [hsl] at hlr
              try simp only [hsl] at h5 ⊢
              have hslK : sl ≤ K := by rw [← hsl]; exact hst9
              have cD := h5.read (Re := fun e => e = .returned (.int .i64 (sl : Int))) (fun F hN => by have hd := hN.depth; rw [hsl] at hd; exact hd.mono fun e w' ⟨he, hw⟩ => ⟨he, hw ▸ Below.refl _ _⟩)
              have HSL := Lib.hid hsl
              have HST := Lib.hid hst9
              clear hsl hst9
              refine (callsIn_wide.2 cD).mono ?_
              rintro e w7 ⟨rfl, h7, hG7⟩
              clear cD hG7 h5
              obtain ⟨bq, hbq⟩ : ∃ bq, decide ((K : Int) ≤ (sl : Int)) = bq := ⟨_, rfl⟩
              have hbe : ((sl : Int) == (K : Int)) = bq := by
                rw [← hbq]
                by_cases hfl : sl = K
                · rw [hfl]; simp
                · have e1 : ((sl : Int) == (K : Int)) = false := by simp; omega
                  rw [e1]; symm; simp; omega
              have hbd : decide ((sl : Int) = (K : Int)) = bq := hbe
              have hnn : ((sl : Int) == (sl : Int)) = true := by simp
              have hqq : (bq == bq) = true := by simp
              have cF := h7.read (Re := fun e => e = .returned (.bool bq)) (fun F hN => (hN.full bq (by rw [HSL.out]; exact hbq)).mono fun e w' ⟨he, hw⟩ => ⟨he, hw ▸ (Below.refl _ _).drew⟩)
              have H7 := Lib.hid h7
              clear h7 hslK hbq
              gi_wp2_with fail
              refine ⟨trivial, fun h => (by cases h), ?_⟩
              refine (callsIn_wide.2 cF).mono ?_
              rintro e w8 ⟨rfl, h8, hG8⟩
              clear cF hG8 H7
              gi_wp2_with fail
              go_roundw
              case rel => exact ⟨i + 1, _, _, hlt, by go_num, HST.out, h8.unbox⟩
              case measure => simp [intOf]; omega
          · have hno : ¬ (0 ≤ id ∧ id < (R : Int)) := by omega
            have cS := h2.read (Re := fun e => e = .returned ((.int .i64 4))) (fun F hN => (hN.setRegNo id hno rd).mono fun e w' ⟨he, hw⟩ => ⟨he, hw ▸ Below.refl _ _⟩)
            clear h2
            gi_wp2_with fail
            refine ⟨trivial, fun h => (by cases h), ?_⟩
            refine (callsIn_wide.2 cS).mono ?_
            rintro e w5 ⟨rfl, h5, hG5⟩
            have hb5 : Blk w5 wr.heap.size #[.int .i64 kd, .int .i64 id, .int .i64 rd] 42 := (hG5 _ rfl).trans hbx
            have hb51 := hb5.cell 1
            have hb52 := hb5.cell 2
            clear cS hG5
            clear hb51 hb52 hb5 hbx hbx0 hbx1 hbx2
            gi_wp2_with fail
            refine ⟨trivial, fun h => (by cases h), ?_⟩
            obtain ⟨sl, hsl⟩ : ∃ sl, (st).length = sl := ⟨_, rfl⟩
            have hlr := h5.pile.lenRun
            simp only [hsl] at hlr
            try simp only [hsl] at h5 ⊢
            have hslK : sl ≤ K := by rw [← hsl]; exact hst9
            have cD := h5.read (Re := fun e => e = .returned (.int .i64 (sl : Int))) (fun F hN => by have hd := hN.depth; rw [hsl] at hd; exact hd.mono fun e w' ⟨he, hw⟩ => ⟨he, hw ▸ Below.refl _ _⟩)
            have HSL := Lib.hid hsl
            have HST := Lib.hid hst9
            clear hsl hst9
            refine (callsIn_wide.2 cD).mono ?_
            rintro e w7 ⟨rfl, h7, hG7⟩
            clear cD hG7 h5
            obtain ⟨bq, hbq⟩ : ∃ bq, decide ((K : Int) ≤ (sl : Int)) = bq := ⟨_, rfl⟩
            have hbe : ((sl : Int) == (K : Int)) = bq := by
              rw [← hbq]
              by_cases hfl : sl = K
              · rw [hfl]; simp
              · have e1 : ((sl : Int) == (K : Int)) = false := by simp; omega
                rw [e1]; symm; simp; omega
            have hbd : decide ((sl : Int) = (K : Int)) = bq := hbe
            have hnn : ((sl : Int) == (sl : Int)) = true := by simp
            have hqq : (bq == bq) = true := by simp
            have cF := h7.read (Re := fun e => e = .returned (.bool bq)) (fun F hN => (hN.full bq (by rw [HSL.out]; exact hbq)).mono fun e w' ⟨he, hw⟩ => ⟨he, hw ▸ (Below.refl _ _).drew⟩)
            have H7 := Lib.hid h7
            clear h7 hslK hbq
            gi_wp2_with fail
            refine ⟨trivial, fun h => (by cases h), ?_⟩
            refine (callsIn_wide.2 cF).mono ?_
            rintro e w8 ⟨rfl, h8, hG8⟩
            clear cF hG8 H7
            gi_wp2_with fail
            go_roundw
            case rel => exact ⟨i + 1, _, _, hlt, by go_num, HST.out, h8.unbox⟩
            case measure => simp [intOf]; omega
      · as_aux_lemma =>
          have hae2 : bits .and .i64 kd 3 = 1 := hae
          clear hae
          by_cases hid : 0 ≤ id
          · by_cases hid2 : id < (R : Int)
            · by_cases hroom : (st.length : Int) < (K : Int)
              · have cS := h2.step (f' := f) (st' := st ++ [rd]) (Re := fun e => e = .returned ((.int .i64 0))) (fun F hN => hN.push (by omega) rd)
                clear h2
                gi_wp2_with fail
                refine ⟨trivial, fun h => (by cases h), ?_⟩
                refine (callsIn_wide.2 cS).mono ?_
                rintro e w5 ⟨rfl, h5, hG5⟩
                have hb5 : Blk w5 wr.heap.size #[.int .i64 kd, .int .i64 id, .int .i64 rd] 42 := (hG5 _ rfl).trans hbx
                have hb51 := hb5.cell 1
                have hb52 := hb5.cell 2
                clear cS hG5
                have hlr5 := h5.pile.lenRun
                have h5a := h5.alloc (.cells #[.int .i64 rd] 30)
                have hst6 : (st ++ [rd]).length ≤ K := by rw [List.length_append, List.length_singleton]; omega
                have HS6 := Lib.hid hst6
                clear hbx hbx0 hbx1 hbx2 hb5 hst6 hst9 h5
                gi_wp2_with (gi_at_builtin; refine wpListIn_pushT rfl _ _ rfl h5a.pile (by omega) w5.heap.size 1 rd ((Blk.new w5 _ _).cell 0) rfl rfl ?_; intro g ng cg w6 hR6 hT6 hN6; obtain ⟨h6, hG6⟩ := h5a.push hR6 hT6 hN6; clear h5a hR6 hT6 hN6 hG6 hlr5 hb51 hb52)
                have hst9 := HS6.out
                clear HS6
                refine ⟨trivial, fun h => (by cases h), ?_⟩
                obtain ⟨sl, hsl⟩ : ∃ sl, (st ++ [rd]).length = sl := ⟨_, rfl⟩
                have hlr := h6.pile.lenRun
                simp only [hsl] at hlr
                try simp only [hsl] at h6 ⊢
                have hslK : sl ≤ K := by rw [← hsl]; exact hst9
                have cD := h6.read (Re := fun e => e = .returned (.int .i64 (sl : Int))) (fun F hN => by have hd := hN.depth; rw [hsl] at hd; exact hd.mono fun e w' ⟨he, hw⟩ => ⟨he, hw ▸ Below.refl _ _⟩)
                have HSL := Lib.hid hsl
                have HST := Lib.hid hst9
                clear hsl hst9
                refine (callsIn_wide.2 cD).mono ?_
                rintro e w7 ⟨rfl, h7, hG7⟩
                clear cD hG7 h6
                obtain ⟨bq, hbq⟩ : ∃ bq, decide ((K : Int) ≤ (sl : Int)) = bq := ⟨_, rfl⟩
                have hbe : ((sl : Int) == (K : Int)) = bq := by
                  rw [← hbq]
                  by_cases hfl : sl = K
                  · rw [hfl]; simp
                  · have e1 : ((sl : Int) == (K : Int)) = false := by simp; omega
                    rw [e1]; symm; simp; omega
                have hbd : decide ((sl : Int) = (K : Int)) = bq := hbe
                have hnn : ((sl : Int) == (sl : Int)) = true := by simp
                have hqq : (bq == bq) = true := by simp
                have cF := h7.read (Re := fun e => e = .returned (.bool bq)) (fun F hN => (hN.full bq (by rw [HSL.out]; exact hbq)).mono fun e w' ⟨he, hw⟩ => ⟨he, hw ▸ (Below.refl _ _).drew⟩)
                have H7 := Lib.hid h7
                clear h7 hslK hbq
                gi_wp2_with fail
                refine ⟨trivial, fun h => (by cases h), ?_⟩
                refine (callsIn_wide.2 cF).mono ?_
                rintro e w8 ⟨rfl, h8, hG8⟩
                clear cF hG8 H7
                gi_wp2_with fail
                go_roundw
                case rel => exact ⟨i + 1, _, _, hlt, by go_num, HST.out, h8.unbox⟩
                case measure => simp [intOf]; omega
              · have cS := h2.read (Re := fun e => e = .returned ((.int .i64 9))) (fun F hN => hN.pushNo (by omega) rd)
                clear h2
                gi_wp2_with fail
                refine ⟨trivial, fun h => (by cases h), ?_⟩
                refine (callsIn_wide.2 cS).mono ?_
                rintro e w5 ⟨rfl, h5, hG5⟩
                have hb5 : Blk w5 wr.heap.size #[.int .i64 kd, .int .i64 id, .int .i64 rd] 42 := (hG5 _ rfl).trans hbx
                have hb51 := hb5.cell 1
                have hb52 := hb5.cell 2
                clear cS hG5
                have hlr5 := h5.pile.lenRun
                clear hb51 hb52 hb5 hbx hbx0 hbx1 hbx2
                gi_wp2_with fail
                refine ⟨trivial, fun h => (by cases h), ?_⟩
                clear hlr5
                obtain ⟨sl, hsl⟩ : ∃ sl, (st).length = sl := ⟨_, rfl⟩
                have hlr := h5.pile.lenRun
                simp only [hsl] at hlr
                try simp only [hsl] at h5 ⊢
                have hslK : sl ≤ K := by rw [← hsl]; exact hst9
                have cD := h5.read (Re := fun e => e = .returned (.int .i64 (sl : Int))) (fun F hN => by have hd := hN.depth; rw [hsl] at hd; exact hd.mono fun e w' ⟨he, hw⟩ => ⟨he, hw ▸ Below.refl _ _⟩)
                have HSL := Lib.hid hsl
                have HST := Lib.hid hst9
                clear hsl hst9
                refine (callsIn_wide.2 cD).mono ?_
                rintro e w7 ⟨rfl, h7, hG7⟩
                clear cD hG7 h5
                obtain ⟨bq, hbq⟩ : ∃ bq, decide ((K : Int) ≤ (sl : Int)) = bq := ⟨_, rfl⟩
                have hbe : ((sl : Int) == (K : Int)) = bq := by
                  rw [← hbq]
                  by_cases hfl : sl = K
                  · rw [hfl]; simp
                  · have e1 : ((sl : Int) == (K : Int)) = false := by simp; omega
                    rw [e1]; symm; simp; omega
                have hbd : decide ((sl : Int) = (K : Int)) = bq := hbe
                have hnn : ((sl : Int) == (sl : Int)) = true := by simp
                have hqq : (bq == bq) = true := by simp
                have cF := h7.read (Re := fun e => e = .returned (.bool bq)) (fun F hN => (hN.full bq (by rw [HSL.out]; exact hbq)).mono fun e w' ⟨he, hw⟩ => ⟨he, hw ▸ (Below.refl _ _).drew⟩)
                have H7 := Lib.hid h7
                clear h7 hslK hbq
                gi_wp2_with fail
                refine ⟨trivial, fun h => (by cases h), ?_⟩
                refine (callsIn_wide.2 cF).mono ?_
                rintro e w8 ⟨rfl, h8, hG8⟩
                clear cF hG8 H7
                gi_wp2_with fail
                go_roundw
                case rel => exact ⟨i + 1, _, _, hlt, by go_num, HST.out, h8.unbox⟩
                case measure => simp [intOf]; omega
            · by_cases hroom : (st.length : Int) < (K : Int)
              · have cS := h2.step (f' := f) (st' := st ++ [rd]) (Re := fun e => e = .returned ((.int .i64 0))) (fun F hN => hN.push (by omega) rd)
                clear h2
                gi_wp2_with fail
                refine ⟨trivial, fun h => (by cases h), ?_⟩
                refine (callsIn_wide.2 cS).mono ?_
                rintro e w5 ⟨rfl, h5, hG5⟩
                have hb5 : Blk w5 wr.heap.size #[.int .i64 kd, .int .i64 id, .int .i64 rd] 42 := (hG5 _ rfl).trans hbx
                have hb51 := hb5.cell 1
                have hb52 := hb5.cell 2
                clear cS hG5
                have hlr5 := h5.pile.lenRun
                have h5a := h5.alloc (.cells #[.int .i64 rd] 30)
                have hst6 : (st ++ [rd]).length ≤ K := by rw [List.length_append, List.length_singleton]; omega
                have HS6 := Lib.hid hst6
                clear hbx hbx0 hbx1 hbx2 hb5 hst6 hst9 h5
                gi_wp2_with (gi_at_builtin; refine wpListIn_pushT rfl _ _ rfl h5a.pile (by omega) w5.heap.size 1 rd ((Blk.new w5 _ _).cell 0) rfl rfl ?_; intro g ng cg w6 hR6 hT6 hN6; obtain ⟨h6, hG6⟩ := h5a.push hR6 hT6 hN6; clear h5a hR6 hT6 hN6 hG6 hlr5 hb51 hb52)
                have hst9 := HS6.out
                clear HS6
                refine ⟨trivial, fun h => (by cases h), ?_⟩
                obtain ⟨sl, hsl⟩ : ∃ sl, (st ++ [rd]).length = sl := ⟨_, rfl⟩
                have hlr := h6.pile.lenRun
                simp only [hsl] at hlr
                try simp only [hsl] at h6 ⊢
                have hslK : sl ≤ K := by rw [← hsl]; exact hst9
                have cD := h6.read (Re := fun e => e = .returned (.int .i64 (sl : Int))) (fun F hN => by have hd := hN.depth; rw [hsl] at hd; exact hd.mono fun e w' ⟨he, hw⟩ => ⟨he, hw ▸ Below.refl _ _⟩)
                have HSL := Lib.hid hsl
                have HST := Lib.hid hst9
                clear hsl hst9
                refine (callsIn_wide.2 cD).mono ?_
                rintro e w7 ⟨rfl, h7, hG7⟩
                clear cD hG7 h6
                obtain ⟨bq, hbq⟩ : ∃ bq, decide ((K : Int) ≤ (sl : Int)) = bq := ⟨_, rfl⟩
                have hbe : ((sl : Int) == (K : Int)) = bq := by
                  rw [← hbq]
                  by_cases hfl : sl = K
                  · rw [hfl]; simp
                  · have e1 : ((sl : Int) == (K : Int)) = false := by simp; omega
                    rw [e1]; symm; simp; omega
                have hbd : decide ((sl : Int) = (K : Int)) = bq := hbe
                have hnn : ((sl : Int) == (sl : Int)) = true := by simp
                have hqq : (bq == bq) = true := by simp
                have cF := h7.read (Re := fun e => e = .returned (.bool bq)) (fun F hN => (hN.full bq (by rw [HSL.out]; exact hbq)).mono fun e w' ⟨he, hw⟩ => ⟨he, hw ▸ (Below.refl _ _).drew⟩)
                have H7 := Lib.hid h7
                clear h7 hslK hbq
                gi_wp2_with fail
                refine ⟨trivial, fun h => (by cases h), ?_⟩
                refine (callsIn_wide.2 cF).mono ?_
                rintro e w8 ⟨rfl, h8, hG8⟩
                clear cF hG8 H7
                gi_wp2_with fail
                go_roundw
                case rel => exact ⟨i + 1, _, _, hlt, by go_num, HST.out, h8.unbox⟩
                case measure => simp [intOf]; omega
              · have cS := h2.read (Re := fun e => e = .returned ((.int .i64 9))) (fun F hN => hN.pushNo (by omega) rd)
                clear h2
                gi_wp2_with fail
                refine ⟨trivial, fun h => (by cases h), ?_⟩
                refine (callsIn_wide.2 cS).mono ?_
                rintro e w5 ⟨rfl, h5, hG5⟩
                have hb5 : Blk w5 wr.heap.size #[.int .i64 kd, .int .i64 id, .int .i64 rd] 42 := (hG5 _ rfl).trans hbx
                have hb51 := hb5.cell 1
                have hb52 := hb5.cell 2
                clear cS hG5
                have hlr5 := h5.pile.lenRun
                clear hb51 hb52 hb5 hbx hbx0 hbx1 hbx2
                gi_wp2_with fail
                refine ⟨trivial, fun h => (by cases h), ?_⟩
                clear hlr5
                obtain ⟨sl, hsl⟩ : ∃ sl, (st).length = sl := ⟨_, rfl⟩
                have hlr := h5.pile.lenRun
                simp only [hsl] at hlr
                try simp only [hsl] at h5 ⊢
                have hslK : sl ≤ K := by rw [← hsl]; exact hst9
                have cD := h5.read (Re := fun e => e = .returned (.int .i64 (sl : Int))) (fun F hN => by have hd := hN.depth; rw [hsl] at hd; exact hd.mono fun e w' ⟨he, hw⟩ => ⟨he, hw ▸ Below.refl _ _⟩)
                have HSL := Lib.hid hsl
                have HST := Lib.hid hst9
                clear hsl hst9
                refine (callsIn_wide.2 cD).mono ?_
                rintro e w7 ⟨rfl, h7, hG7⟩
                clear cD hG7 h5
                obtain ⟨bq, hbq⟩ : ∃ bq, decide ((K : Int) ≤ (sl : Int)) = bq := ⟨_, rfl⟩
                have hbe : ((sl : Int) == (K : Int)) = bq := by
                  rw [← hbq]
                  by_cases hfl : sl = K
                  · rw [hfl]; simp
                  · have e1 : ((sl : Int) == (K : Int)) = false := by simp; omega
                    rw [e1]; symm; simp; omega
                have hbd : decide ((sl : Int) = (K : Int)) = bq := hbe
                have hnn : ((sl : Int) == (sl : Int)) = true := by simp
                have hqq : (bq == bq) = true := by simp
                have cF := h7.read (Re := fun e => e = .returned (.bool bq)) (fun F hN => (hN.full bq (by rw [HSL.out]; exact hbq)).mono fun e w' ⟨he, hw⟩ => ⟨he, hw ▸ (Below.refl _ _).drew⟩)
                have H7 := Lib.hid h7
                clear h7 hslK hbq
                gi_wp2_with fail
                refine ⟨trivial, fun h => (by cases h), ?_⟩
                refine (callsIn_wide.2 cF).mono ?_
                rintro e w8 ⟨rfl, h8, hG8⟩
                clear cF hG8 H7
                gi_wp2_with fail
                go_roundw
                case rel => exact ⟨i + 1, _, _, hlt, by go_num, HST.out, h8.unbox⟩
                case measure => simp [intOf]; omega
          · by_cases hroom : (st.length : Int) < (K : Int)
            · have cS := h2.step (f' := f) (st' := st ++ [rd]) (Re := fun e => e = .returned ((.int .i64 0))) (fun F hN => hN.push (by omega) rd)
              clear h2
              gi_wp2_with fail
              refine ⟨trivial, fun h => (by cases h), ?_⟩
              refine (callsIn_wide.2 cS).mono ?_
              rintro e w5 ⟨rfl, h5, hG5⟩
              have hb5 : Blk w5 wr.heap.size #[.int .i64 kd, .int .i64 id, .int .i64 rd] 42 := (hG5 _ rfl).trans hbx
              have hb51 := hb5.cell 1
              have hb52 := hb5.cell 2
              clear cS hG5
              have hlr5 := h5.pile.lenRun
              have h5a := h5.alloc (.cells #[.int .i64 rd] 30)
              have hst6 : (st ++ [rd]).length ≤ K := by rw [List.length_append, List.length_singleton]; omega
              have HS6 := Lib.hid hst6
              clear hbx hbx0 hbx1 hbx2 hb5 hst6 hst9 h5
              gi_wp2_with (gi_at_builtin; refine wpListIn_pushT rfl _ _ rfl h5a.pile (by omega) w5.heap.size 1 rd ((Blk.new w5 _ _).cell 0) rfl rfl ?_; intro g ng cg w6 hR6 hT6 hN6; obtain ⟨h6, hG6⟩ := h5a.push hR6 hT6 hN6; clear h5a hR6 hT6 hN6 hG6 hlr5 hb51 hb52)
              have hst9 := HS6.out
              clear HS6
              refine ⟨trivial, fun h => (by cases h), ?_⟩
              obtain ⟨sl, hsl⟩ : ∃ sl, (st ++ [rd]).length = sl := ⟨_, rfl⟩
              have hlr := h6.pile.lenRun
              simp only [hsl] at hlr
              try simp only [hsl] at h6 ⊢
              have hslK : sl ≤ K := by rw [← hsl]; exact hst9
              have cD := h6.read (Re := fun e => e = .returned (.int .i64 (sl : Int))) (fun F hN => by have hd := hN.depth; rw [hsl] at hd; exact hd.mono fun e w' ⟨he, hw⟩ => ⟨he, hw ▸ Below.refl _ _⟩)
              have HSL := Lib.hid hsl
              have HST := Lib.hid hst9
              clear hsl hst9
              refine (callsIn_wide.2 cD).mono ?_
              rintro e w7 ⟨rfl, h7, hG7⟩
              clear cD hG7 h6
              obtain ⟨bq, hbq⟩ : ∃ bq, decide ((K : Int) ≤ (sl : Int)) = bq := ⟨_, rfl⟩
              have hbe : ((sl : Int) == (K : Int)) = bq := by
                rw [← hbq]
                by_cases hfl : sl = K
                · rw [hfl]; simp
                · have e1 : ((sl : Int) == (K : Int)) = false := by simp; omega
                  rw [e1]; symm; simp; omega
              have hbd : decide ((sl : Int) = (K : Int)) = bq := hbe
              have hnn : ((sl : Int) == (sl : Int)) = true := by simp
              have hqq : (bq == bq) = true := by simp
              have cF := h7.read (Re := fun e => e = .returned (.bool bq)) (fun F hN => (hN.full bq (by rw [HSL.out]; exact hbq)).mono fun e w' ⟨he, hw⟩ => ⟨he, hw ▸ (Below.refl _ _).drew⟩)
              have H7 := Lib.hid h7
              clear h7 hslK hbq
              gi_wp2_with fail
              refine ⟨trivial, fun h => (by cases h), ?_⟩
              refine (callsIn_wide.2 cF).mono ?_
              rintro e w8 ⟨rfl, h8, hG8⟩
              clear cF hG8 H7
              gi_wp2_with fail
              go_roundw
              case rel => exact ⟨i + 1, _, _, hlt, by go_num, HST.out, h8.unbox⟩
              case measure => simp [intOf]; omega
            · have cS := h2.read (Re := fun e => e = .returned ((.int .i64 9))) (fun F hN => hN.pushNo (by omega) rd)
              clear h2
              gi_wp2_with fail
              refine ⟨trivial, fun h => (by cases h), ?_⟩
              refine (callsIn_wide.2 cS).mono ?_
              rintro e w5 ⟨rfl, h5, hG5⟩
              have hb5 : Blk w5 wr.heap.size #[.int .i64 kd, .int .i64 id, .int .i64 rd] 42 := (hG5 _ rfl).trans hbx
              have hb51 := hb5.cell 1
              have hb52 := hb5.cell 2
              clear cS hG5
              have hlr5 := h5.pile.lenRun
              clear hb51 hb52 hb5 hbx hbx0 hbx1 hbx2
              gi_wp2_with fail
              refine ⟨trivial, fun h => (by cases h), ?_⟩
              clear hlr5
              obtain ⟨sl, hsl⟩ : ∃ sl, (st).length = sl := ⟨_, rfl⟩
              have hlr := h5.pile.lenRun
              simp only [hsl] at hlr
              try simp only [hsl] at h5 ⊢
              have hslK : sl ≤ K := by rw [← hsl]; exact hst9
              have cD := h5.read (Re := fun e => e = .returned (.int .i64 (sl : Int))) (fun F hN => by have hd := hN.depth; rw [hsl] at hd; exact hd.mono fun e w' ⟨he, hw⟩ => ⟨he, hw ▸ Below.refl _ _⟩)
              have HSL := Lib.hid hsl
              have HST := Lib.hid hst9
              clear hsl hst9
              refine (callsIn_wide.2 cD).mono ?_
              rintro e w7 ⟨rfl, h7, hG7⟩
              clear cD hG7 h5
              obtain ⟨bq, hbq⟩ : ∃ bq, decide ((K : Int) ≤ (sl : Int)) = bq := ⟨_, rfl⟩
              have hbe : ((sl : Int) == (K : Int)) = bq := by
                rw [← hbq]
                by_cases hfl : sl = K
                · rw [hfl]; simp
                · have e1 : ((sl : Int) == (K : Int)) = false := by simp; omega
                  rw [e1]; symm; simp; omega
              have hbd : decide ((sl : Int) = (K : Int)) = bq := hbe
              have hnn : ((sl : Int) == (sl : Int)) = true := by simp
              have hqq : (bq == bq) = true := by simp
              have cF := h7.read (Re := fun e => e = .returned (.bool bq)) (fun F hN => (hN.full bq (by rw [HSL.out]; exact hbq)).mono fun e w' ⟨he, hw⟩ => ⟨he, hw ▸ (Below.refl _ _).drew⟩)
              have H7 := Lib.hid h7
              clear h7 hslK hbq
              gi_wp2_with fail
              refine ⟨trivial, fun h => (by cases h), ?_⟩
              refine (callsIn_wide.2 cF).mono ?_
              rintro e w8 ⟨rfl, h8, hG8⟩
              clear cF hG8 H7
              gi_wp2_with fail
              go_roundw
              case rel => exact ⟨i + 1, _, _, hlt, by go_num, HST.out, h8.unbox⟩
              case measure => simp [intOf]; omega
      · as_aux_lemma =>
          have hae2 : bits .and .i64 kd 3 = 2 := hae
          clear hae
          by_cases hid : 0 ≤ id
          · by_cases hid2 : id < (R : Int)
            · rcases List.eq_nil_or_concat st with rfl | ⟨q, y, rfl⟩
              · have cS := h2.read (Re := fun e => e = .returned ((.tuple #[.int .i64 0, .int .i64 9]))) (fun F hN => hN.popNo.mono fun e w' ⟨he, hw⟩ => ⟨he, hw ▸ Below.refl _ _⟩)
                clear h2
                gi_wp2_with fail
                refine ⟨trivial, fun h => (by cases h), ?_⟩
                refine (callsIn_wide.2 cS).mono ?_
                rintro e w5 ⟨rfl, h5, hG5⟩
                have hb5 : Blk w5 wr.heap.size #[.int .i64 kd, .int .i64 id, .int .i64 rd] 42 := (hG5 _ rfl).trans hbx
                have hb51 := hb5.cell 1
                have hb52 := hb5.cell 2
                clear cS hG5
                have hlr5 := h5.pile.lenRun
                simp only [List.length_nil] at hlr5
                clear hb51 hb52 hb5 hbx hbx0 hbx1 hbx2
                gi_wp2_with fail
                refine ⟨trivial, fun h => (by cases h), ?_⟩
                clear hlr5
                obtain ⟨sl, hsl⟩ : ∃ sl, (([] : List Int)).length = sl := ⟨_, rfl⟩
                have hlr := h5.pile.lenRun
                simp only [hsl] at hlr
                try simp only [hsl] at h5 ⊢
                have hslK : sl ≤ K := by rw [← hsl]; exact hst9
                have cD := h5.read (Re := fun e => e = .returned (.int .i64 (sl : Int))) (fun F hN => by have hd := hN.depth; rw [hsl] at hd; exact hd.mono fun e w' ⟨he, hw⟩ => ⟨he, hw ▸ Below.refl _ _⟩)
                have HSL := Lib.hid hsl
                have HST := Lib.hid hst9
                clear hsl hst9
                refine (callsIn_wide.2 cD).mono ?_
                rintro e w7 ⟨rfl, h7, hG7⟩
                clear cD hG7 h5
                obtain ⟨bq, hbq⟩ : ∃ bq, decide ((K : Int) ≤ (sl : Int)) = bq := ⟨_, rfl⟩
                have hbe : ((sl : Int) == (K : Int)) = bq := by
                  rw [← hbq]
                  by_cases hfl : sl = K
                  · rw [hfl]; simp
                  · have e1 : ((sl : Int) == (K : Int)) = false := by simp; omega
                    rw [e1]; symm; simp; omega
                have hbd : decide ((sl : Int) = (K : Int)) = bq := hbe
                have hnn : ((sl : Int) == (sl : Int)) = true := by simp
                have hqq : (bq == bq) = true := by simp
                have cF := h7.read (Re := fun e => e = .returned (.bool bq)) (fun F hN => (hN.full bq (by rw [HSL.out]; exact hbq)).mono fun e w' ⟨he, hw⟩ => ⟨he, hw ▸ (Below.refl _ _).drew⟩)
                have H7 := Lib.hid h7
                clear h7 hslK hbq
                gi_wp2_with fail
                refine ⟨trivial, fun h => (by cases h), ?_⟩
                refine (callsIn_wide.2 cF).mono ?_
                rintro e w8 ⟨rfl, h8, hG8⟩
                clear cF hG8 H7
                gi_wp2_with fail
                go_roundw
                case rel => exact ⟨i + 1, _, _, hlt, by go_num, HST.out, h8.unbox⟩
                case measure => simp [intOf]; omega
              · rw [List.concat_eq_append] at h2 hst9
                have cS := h2.step (f' := f) (st' := q) (Re := fun e => e = .returned ((.tuple #[.int .i64 y, .int .i64 0]))) (fun F hN => hN.pop)
                clear h2
                gi_wp2_with fail
                refine ⟨trivial, fun h => (by cases h), ?_⟩
                refine (callsIn_wide.2 cS).mono ?_
                rintro e w5 ⟨rfl, h5, hG5⟩
                have hb5 : Blk w5 wr.heap.size #[.int .i64 kd, .int .i64 id, .int .i64 rd] 42 := (hG5 _ rfl).trans hbx
                have hb51 := hb5.cell 1
                have hb52 := hb5.cell 2
                clear cS hG5
                rcases h5.pile.is with ⟨_, e⟩ | ⟨g, cap5, cur, rfl, hg, hlc, hcm, hcs, hcl⟩
                · simp at e
                have hy := hcl q.length (by simp)
                rw [List.getElem_append_right (Nat.le_refl _)] at hy
                simp only [Nat.sub_self, List.getElem_singleton] at hy
                have hpl := h5.pile
                rw [List.length_append, List.length_singleton] at hlc hpl
                have h6 := h5.swap (vp' := .slice (some ⟨g, 0, none⟩) q.length cap5) (p' := q) rfl hpl.less
                have H6 := Lib.hid h6
                have e1 : (((q ++ [y]).length : Nat) : Int) = (q.length : Int) + 1 := by simp
                have hq0 : (0 : Int) ≤ (q.length : Int) := by omega
                have hq1 : (q.length : Int) < (cap5 : Int) := by omega
                have hq2 : q.length ≤ K := by rw [List.length_append, List.length_singleton] at hst9; omega
                have hyy : (y == y) = true := by simp
                have HQ := Lib.hid hq2
                clear hb51 hb52 hb5 hbx hbx0 hbx1 hbx2 h5 h6 hpl hcl hcs hst9 hq2
                gi_wp2_with fail
                refine ⟨trivial, fun h => (by cases h), ?_⟩
                have hst9 := HQ.out
                have h6 := H6.out
                clear H6 HQ hy
                obtain ⟨sl, hsl⟩ : ∃ sl, (q).length = sl := ⟨_, rfl⟩
                have hlr := h6.pile.lenRun
                simp only [hsl] at hlr
                try simp only [hsl] at h6 ⊢
                have hslK : sl ≤ K := by rw [← hsl]; exact hst9
                have cD := h6.read (Re := fun e => e = .returned (.int .i64 (sl : Int))) (fun F hN => by have hd := hN.depth; rw [hsl] at hd; exact hd.mono fun e w' ⟨he, hw⟩ => ⟨he, hw ▸ Below.refl _ _⟩)
                have HSL := Lib.hid hsl
                have HST := Lib.hid hst9
                clear hsl hst9
                refine (callsIn_wide.2 cD).mono ?_
                rintro e w7 ⟨rfl, h7, hG7⟩
                clear cD hG7 h6
                obtain ⟨bq, hbq⟩ : ∃ bq, decide ((K : Int) ≤ (sl : Int)) = bq := ⟨_, rfl⟩
                have hbe : ((sl : Int) == (K : Int)) = bq := by
                  rw [← hbq]
                  by_cases hfl : sl = K
                  · rw [hfl]; simp
                  · have e1 : ((sl : Int) == (K : Int)) = false := by simp; omega
                    rw [e1]; symm; simp; omega
                have hbd : decide ((sl : Int) = (K : Int)) = bq := hbe
                have hnn : ((sl : Int) == (sl : Int)) = true := by simp
                have hqq : (bq == bq) = true := by simp
                have cF := h7.read (Re := fun e => e = .returned (.bool bq)) (fun F hN => (hN.full bq (by rw [HSL.out]; exact hbq)).mono fun e w' ⟨he, hw⟩ => ⟨he, hw ▸ (Below.refl _ _).drew⟩)
                have H7 := Lib.hid h7
                clear h7 hslK hbq
                gi_wp2_with fail
                refine ⟨trivial, fun h => (by cases h), ?_⟩
                refine (callsIn_wide.2 cF).mono ?_
                rintro e w8 ⟨rfl, h8, hG8⟩
                clear cF hG8 H7
                gi_wp2_with fail
                go_roundw
                case rel => exact ⟨i + 1, _, _, hlt, by go_num, HST.out, h8.unbox⟩
                case measure => simp [intOf]; omega
            · rcases List.eq_nil_or_concat st with rfl | ⟨q, y, rfl⟩
              · have cS := h2.read (Re := fun e => e = .returned ((.tuple #[.int .i64 0, .int .i64 9]))) (fun F hN => hN.popNo.mono fun e w' ⟨he, hw⟩ => ⟨he, hw ▸ Below.refl _ _⟩)
                clear h2
                gi_wp2_with fail
                refine ⟨trivial, fun h => (by cases h), ?_⟩
                refine (callsIn_wide.2 cS).mono ?_
                rintro e w5 ⟨rfl, h5, hG5⟩
                have hb5 : Blk w5 wr.heap.size #[.int .i64 kd, .int .i64 id, .int .i64 rd] 42 := (hG5 _ rfl).trans hbx
                have hb51 := hb5.cell 1
                have hb52 := hb5.cell 2
                clear cS hG5
                have hlr5 := h5.pile.lenRun
                simp only [List.length_nil] at hlr5
                clear hb51 hb52 hb5 hbx hbx0 hbx1 hbx2
                gi_wp2_with fail
                refine ⟨trivial, fun h => (by cases h), ?_⟩
                clear hlr5
                obtain ⟨sl, hsl⟩ : ∃ sl, (([] : List Int)).length = sl := ⟨_, rfl⟩
                have hlr := h5.pile.lenRun
                simp only [hsl] at hlr
                try simp only [hsl] at h5 ⊢
                have hslK : sl ≤ K := by rw [← hsl]; exact hst9
                have cD := h5.read (Re := fun e => e = .returned (.int .i64 (sl : Int))) (fun F hN => by have hd := hN.depth; rw [hsl] at hd; exact hd.mono fun e w' ⟨he, hw⟩ => ⟨he, hw ▸ Below.refl _ _⟩)
                have HSL := Lib.hid hsl
                have HST := Lib.hid hst9
                clear hsl hst9
                refine (callsIn_wide.2 cD).mono ?_
                rintro e w7 ⟨rfl, h7, hG7⟩
                clear cD hG7 h5
                obtain ⟨bq, hbq⟩ : ∃ bq, decide ((K : Int) ≤ (sl : Int)) = bq := ⟨_, rfl⟩
                have hbe : ((sl : Int) == (K : Int)) = bq := by
                  rw [← hbq]
                  by_cases hfl : sl = K
                  · rw [hfl]; simp
                  · have e1 : ((sl : Int) == (K : Int)) = false := by simp; omega
                    rw [e1]; symm; simp; omega
                have hbd : decide ((sl : Int) = (K : Int)) = bq := hbe
                have hnn : ((sl : Int) == (sl : Int)) = true := by simp
                have hqq : (bq == bq) = true := by simp
                have cF := h7.read (Re := fun e => e = .returned (.bool bq)) (fun F hN => (hN.full bq (by rw [HSL.out]; exact hbq)).mono fun e w' ⟨he, hw⟩ => ⟨he, hw ▸ (Below.refl _ _).drew⟩)
                have H7 := Lib.hid h7
                clear h7 hslK hbq
                gi_wp2_with fail
                refine ⟨trivial, fun h => (by cases h), ?_⟩
                refine (callsIn_wide.2 cF).mono ?_
                rintro e w8 ⟨rfl, h8, hG8⟩
                clear cF hG8 H7
                gi_wp2_with fail
                go_roundw
                case rel => exact ⟨i + 1, _, _, hlt, by go_num, HST.out, h8.unbox⟩
                case measure => simp [intOf]; omega
              · rw [List.concat_eq_append] at h2 hst9
                have cS := h2.step (f' := f) (st' := q) (Re := fun e => e = .returned ((.tuple #[.int .i64 y, .int .i64 0]))) (fun F hN => hN.pop)
                clear h2
                gi_wp2_with fail
                refine ⟨trivial, fun h => (by cases h), ?_⟩
                refine (callsIn_wide.2 cS).mono ?_
                rintro e w5 ⟨rfl, h5, hG5⟩
                have hb5 : Blk w5 wr.heap.size #[.int .i64 kd, .int .i64 id, .int .i64 rd] 42 := (hG5 _ rfl).trans hbx
                have hb51 := hb5.cell 1
                have hb52 := hb5.cell 2
                clear cS hG5
                rcases h5.pile.is with ⟨_, e⟩ | ⟨g, cap5, cur, rfl, hg, hlc, hcm, hcs, hcl⟩
                · simp at e
                have hy := hcl q.length (by simp)
                rw [List.getElem_append_right (Nat.le_refl _)] at hy
                simp only [Nat.sub_self, List.getElem_singleton] at hy
                have hpl := h5.pile
                rw [List.length_append, List.length_singleton] at hlc hpl
                have h6 := h5.swap (vp' := .slice (some ⟨g, 0, none⟩) q.length cap5) (p' := q) rfl hpl.less
                have H6 := Lib.hid h6
                have e1 : (((q ++ [y]).length : Nat) : Int) = (q.length : Int) + 1 := by simp
                have hq0 : (0 : Int) ≤ (q.length : Int) := by omega
                have hq1 : (q.length : Int) < (cap5 : Int) := by omega
                have hq2 : q.length ≤ K := by rw [List.length_append, List.length_singleton] at hst9; omega
                have hyy : (y == y) = true := by simp
                have HQ := Lib.hid hq2
                clear hb51 hb52 hb5 hbx hbx0 hbx1 hbx2 h5 h6 hpl hcl hcs hst9 hq2
                gi_wp2_with fail
                refine ⟨trivial, fun h => (by cases h), ?_⟩
                have hst9 := HQ.out
                have h6 := H6.out
                clear H6 HQ hy
                obtain ⟨sl, hsl⟩ : ∃ sl, (q).length = sl := ⟨_, rfl⟩
                have hlr := h6.pile.lenRun
                simp only [hsl] at hlr
                try simp only [hsl] at h6 ⊢
                have hslK : sl ≤ K := by rw [← hsl]; exact hst9
                have cD := h6.read (Re := fun e => e = .returned (.int .i64 (sl : Int))) (fun F hN => by have hd := hN.depth; rw [hsl] at hd; exact hd.mono fun e w' ⟨he, hw⟩ => ⟨he, hw ▸ Below.refl _ _⟩)
                have HSL := Lib.hid hsl
                have HST := Lib.hid hst9
                clear hsl hst9
                refine (callsIn_wide.2 cD).mono ?_
                rintro e w7 ⟨rfl, h7, hG7⟩
                clear cD hG7 h6
                obtain ⟨bq, hbq⟩ : ∃ bq, decide ((K : Int) ≤ (sl : Int)) = bq := ⟨_, rfl⟩
                have hbe : ((sl : Int) == (K : Int)) = bq := by
                  rw [← hbq]
                  by_cases hfl : sl = K
                  · rw [hfl]; simp
                  · have e1 : ((sl : Int) == (K : Int)) = false := by simp; omega
                    rw [e1]; symm; simp; omega
                have hbd : decide ((sl : Int) = (K : Int)) = bq := hbe
                have hnn : ((sl : Int) == (sl : Int)) = true := by simp
                have hqq : (bq == bq) = true := by simp
                have cF := h7.read (Re := fun e => e = .returned (.bool bq)) (fun F hN => (hN.full bq (by rw [HSL.out]; exact hbq)).mono fun e w' ⟨he, hw⟩ => ⟨he, hw ▸ (Below.refl _ _).drew⟩)
                have H7 := Lib.hid h7
                clear h7 hslK hbq
                gi_wp2_with fail
                refine ⟨trivial, fun h => (by cases h), ?_⟩
                refine (callsIn_wide.2 cF).mono ?_
                rintro e w8 ⟨rfl, h8, hG8⟩
                clear cF hG8 H7
                gi_wp2_with fail
                go_roundw
                case rel => exact ⟨i + 1, _, _, hlt, by go_num, HST.out, h8.unbox⟩
                case measure => simp [intOf]; omega
          · rcases List.eq_nil_or_concat st with rfl | ⟨q, y, rfl⟩
            · have cS := h2.read (Re := fun e => e = .returned ((.tuple #[.int .i64 0, .int .i64 9]))) (fun F hN => hN.popNo.mono fun e w' ⟨he, hw⟩ => ⟨he, hw ▸ Below.refl _ _⟩)
              clear h2
              gi_wp2_with fail
              refine ⟨trivial, fun h => (by cases h), ?_⟩
              refine (callsIn_wide.2 cS).mono ?_
              rintro e w5 ⟨rfl, h5, hG5⟩
              have hb5 : Blk w5 wr.heap.size #[.int .i64 kd, .int .i64 id, .int .i64 rd] 42 := (hG5 _ rfl).trans hbx
              have hb51 := hb5.cell 1
              have hb52 := hb5.cell 2
              clear cS hG5
              have hlr5 := h5.pile.lenRun
              simp only [List.length_nil] at hlr5
              clear hb51 hb52 hb5 hbx hbx0 hbx1 hbx2
              gi_wp2_with fail
              refine ⟨trivial, fun h => (by cases h), ?_⟩
              clear hlr5
              obtain ⟨sl, hsl⟩ : ∃ sl, (([] : List Int)).length = sl := ⟨_, rfl⟩
              have hlr := h5.pile.lenRun
              simp only [hsl] at hlr
              try simp only [hsl] at h5 ⊢
              have hslK : sl ≤ K := by rw [← hsl]; exact hst9
              have cD := h5.read (Re := fun e => e = .returned (.int .i64 (sl : Int))) (fun F hN => by have hd := hN.depth; rw [hsl] at hd; exact hd.mono fun e w' ⟨he, hw⟩ => ⟨he, hw ▸ Below.refl _ _⟩)
              have HSL := Lib.hid hsl
              have HST := Lib.hid hst9
              clear hsl hst9
              refine (callsIn_wide.2 cD).mono ?_
              rintro e w7 ⟨rfl, h7, hG7⟩
              clear cD hG7 h5
              obtain ⟨bq, hbq⟩ : ∃ bq, decide ((K : Int) ≤ (sl : Int)) = bq := ⟨_, rfl⟩
              have hbe : ((sl : Int) == (K : Int)) = bq := by
                rw [← hbq]
                by_cases hfl : sl = K
                · rw [hfl]; simp
                · have e1 : ((sl : Int) == (K : Int)) = false := by simp; omega
                  rw [e1]; symm; simp; omega
              have hbd : decide ((sl : Int) = (K : Int)) = bq := hbe
              have hnn : ((sl : Int) == (sl : Int)) = true := by simp
              have hqq : (bq == bq) = true := by simp
              have cF := h7.read (Re := fun e => e = .returned (.bool bq)) (fun F hN => (hN.full bq (by rw [HSL.out]; exact hbq)).mono fun e w' ⟨he, hw⟩ => ⟨he, hw ▸ (Below.refl _ _).drew⟩)
              have H7 := Lib.hid h7
              clear h7 hslK hbq
              gi_wp2_with fail
              refine ⟨trivial, fun h => (by cases h), ?_⟩
              refine (callsIn_wide.2 cF).mono ?_
              rintro e w8 ⟨rfl, h8, hG8⟩
              clear cF hG8 H7
              gi_wp2_with fail
              go_roundw
              case rel => exact ⟨i + 1, _, _, hlt, by go_num, HST.out, h8.unbox⟩
              case measure => simp [intOf]; omega
            · rw [List.concat_eq_append] at h2 hst9
              have cS := h2.step (f' := f) (st' := q) (Re := fun e => e = .returned ((.tuple #[.int .i64 y, .int .i64 0]))) (fun F hN => hN.pop)
              clear h2
              gi_wp2_with fail
              refine ⟨trivial, fun h => (by cases h), ?_⟩
              refine (callsIn_wide.2 cS).mono ?_
              rintro e w5 ⟨rfl, h5, hG5⟩
              have hb5 : Blk w5 wr.heap.size #[.int .i64 kd, .int .i64 id, .int .i64 rd] 42 := (hG5 _ rfl).trans hbx
              have hb51 := hb5.cell 1
              have hb52 := hb5.cell 2
              clear cS hG5
              rcases h5.pile.is with ⟨_, e⟩ | ⟨g, cap5, cur, rfl, hg, hlc, hcm, hcs, hcl⟩
              · simp at e
              have hy := hcl q.length (by simp)
              rw [List.getElem_append_right (Nat.le_refl _)] at hy
              simp only [Nat.sub_self, List.getElem_singleton] at hy
              have hpl := h5.pile
              rw [List.length_append, List.length_singleton] at hlc hpl
              have h6 := h5.swap (vp' := .slice (some ⟨g, 0, none⟩) q.length cap5) (p' := q) rfl hpl.less
              have H6 := Lib.hid h6
              have e1 : (((q ++ [y]).length : Nat) : Int) = (q.length : Int) + 1 := by simp
              have hq0 : (0 : Int) ≤ (q.length : Int) := by omega
              have hq1 : (q.length : Int) < (cap5 : Int) := by omega
              have hq2 : q.length ≤ K := by rw [List.length_append, List.length_singleton] at hst9; omega
              have hyy : (y == y) = true := by simp
              have HQ := Lib.hid hq2
              clear hb51 hb52 hb5 hbx hbx0 hbx1 hbx2 h5 h6 hpl hcl hcs hst9 hq2
              gi_wp2_with fail
              refine ⟨trivial, fun h => (by cases h), ?_⟩
              have hst9 := HQ.out
              have h6 := H6.out
              clear H6 HQ hy
              obtain ⟨sl, hsl⟩ : ∃ sl, (q).length = sl := ⟨_, rfl⟩
              have hlr := h6.pile.lenRun
              simp only [hsl] at hlr
              try simp only [hsl] at h6 ⊢
              have hslK : sl ≤ K := by rw [← hsl]; exact hst9
              have cD := h6.read (Re := fun e => e = .returned (.int .i64 (sl : Int))) (fun F hN => by have hd := hN.depth; rw [hsl] at hd; exact hd.mono fun e w' ⟨he, hw⟩ => ⟨he, hw ▸ Below.refl _ _⟩)
              have HSL := Lib.hid hsl
              have HST := Lib.hid hst9
              clear hsl hst9
              refine (callsIn_wide.2 cD).mono ?_
              rintro e w7 ⟨rfl, h7, hG7⟩
              clear cD hG7 h6
              obtain ⟨bq, hbq⟩ : ∃ bq, decide ((K : Int) ≤ (sl : Int)) = bq := ⟨_, rfl⟩
              have hbe : ((sl : Int) == (K : Int)) = bq := by
                rw [← hbq]
                by_cases hfl : sl = K
                · rw [hfl]; simp
                · have e1 : ((sl : Int) == (K : Int)) = false := by simp; omega
                  rw [e1]; symm; simp; omega
              have hbd : decide ((sl : Int) = (K : Int)) = bq := hbe
              have hnn : ((sl : Int) == (sl : Int)) = true := by simp
              have hqq : (bq == bq) = true := by simp
              have cF := h7.read (Re := fun e => e = .returned (.bool bq)) (fun F hN => (hN.full bq (by rw [HSL.out]; exact hbq)).mono fun e w' ⟨he, hw⟩ => ⟨he, hw ▸ (Below.refl _ _).drew⟩)
              have H7 := Lib.hid h7
              clear h7 hslK hbq
              gi_wp2_with fail
              refine ⟨trivial, fun h => (by cases h), ?_⟩
              refine (callsIn_wide.2 cF).mono ?_
              rintro e w8 ⟨rfl, h8, hG8⟩
              clear cF hG8 H7
              gi_wp2_with fail
              go_roundw
              case rel => exact ⟨i + 1, _, _, hlt, by go_num, HST.out, h8.unbox⟩
              case measure => simp [intOf]; omega
      · as_aux_lemma =>
          have hae2 : bits .and .i64 kd 3 = 3 := hae
          clear hae
          by_cases hid : 0 ≤ id
          · by_cases hid2 : id < (R : Int)
            · obtain ⟨n, rfl⟩ : ∃ n : Nat, id = (n : Int) := ⟨id.toNat, by omega⟩
              have hnI : (n : Int) < (R : Int) := hid2
              have hnR : n < R := by omega
              clear hid2
              have cS := h2.read (Re := fun e => e = .returned ((.tuple #[.int .i64 (f n), .int .i64 0]))) (fun F hN => hN.reg n (n : Int) rfl hnI (f n) rfl)
              clear h2
              gi_wp2_with fail
              refine ⟨trivial, fun h => (by cases h), ?_⟩
              refine (callsIn_wide.2 cS).mono ?_
              rintro e w5 ⟨rfl, h5, hG5⟩
              have hb5 : Blk w5 wr.heap.size #[.int .i64 kd, .int .i64 (n : Int), .int .i64 rd] 42 := (hG5 _ rfl).trans hbx
              have hb51 := hb5.cell 1
              have hb52 := hb5.cell 2
              clear cS hG5
              have hco : w5.cell? ⟨go, n, none⟩ = some (.int .i64 (f n)) := by rw [h5.own.cell n]; simp [hnR]
              have hff : (f n == f n) = true := by simp
              generalize f n = fn at *
              clear hb5 hbx hbx0 hbx1 hbx2
              gi_wp2_with fail
              refine ⟨trivial, fun h => (by cases h), ?_⟩
              clear hco hff hb51 hb52
              obtain ⟨sl, hsl⟩ : ∃ sl, (st).length = sl := ⟨_, rfl⟩
              have hlr := h5.pile.lenRun
              simp only [hsl] at hlr
              try simp only [hsl] at h5 ⊢
              have hslK : sl ≤ K := by rw [← hsl]; exact hst9
              have cD := h5.read (Re := fun e => e = .returned (.int .i64 (sl : Int))) (fun F hN => by have hd := hN.depth; rw [hsl] at hd; exact hd.mono fun e w' ⟨he, hw⟩ => ⟨he, hw ▸ Below.refl _ _⟩)
              have HSL := Lib.hid hsl
              have HST := Lib.hid hst9
              clear hsl hst9
              refine (callsIn_wide.2 cD).mono ?_
              rintro e w7 ⟨rfl, h7, hG7⟩
              clear cD hG7 h5
              obtain ⟨bq, hbq⟩ : ∃ bq, decide ((K : Int) ≤ (sl : Int)) = bq := ⟨_, rfl⟩
              have hbe : ((sl : Int) == (K : Int)) = bq := by
                rw [← hbq]
                by_cases hfl : sl = K
                · rw [hfl]; simp
                · have e1 : ((sl : Int) == (K : Int)) = false := by simp; omega
                  rw [e1]; symm; simp; omega
              have hbd : decide ((sl : Int) = (K : Int)) = bq := hbe
              have hnn : ((sl : Int) == (sl : Int)) = true := by simp
              have hqq : (bq == bq) = true := by simp
              have cF := h7.read (Re := fun e => e = .returned (.bool bq)) (fun F hN => (hN.full bq (by rw [HSL.out]; exact hbq)).mono fun e w' ⟨he, hw⟩ => ⟨he, hw ▸ (Below.refl _ _).drew⟩)
              have H7 := Lib.hid h7
              clear h7 hslK hbq
              gi_wp2_with fail
              refine ⟨trivial, fun h => (by cases h), ?_⟩
              refine (callsIn_wide.2 cF).mono ?_
              rintro e w8 ⟨rfl, h8, hG8⟩
              clear cF hG8 H7
              gi_wp2_with fail
              go_roundw
              case rel => exact ⟨i + 1, _, _, hlt, by go_num, HST.out, h8.unbox⟩
              case measure => simp [intOf]; omega
            · have hno : ¬ (0 ≤ id ∧ id < (R : Int)) := by omega
              have cS := h2.read (Re := fun e => e = .returned ((.tuple #[.int .i64 0, .int .i64 4]))) (fun F hN => hN.regNo id hno)
              clear h2
              gi_wp2_with fail
              refine ⟨trivial, fun h => (by cases h), ?_⟩
              refine (callsIn_wide.2 cS).mono ?_
              rintro e w5 ⟨rfl, h5, hG5⟩
              have hb5 : Blk w5 wr.heap.size #[.int .i64 kd, .int .i64 id, .int .i64 rd] 42 := (hG5 _ rfl).trans hbx
              have hb51 := hb5.cell 1
              have hb52 := hb5.cell 2
              clear cS hG5
              clear hb5 hbx hbx0 hbx1 hbx2
              gi_wp2_with fail
              refine ⟨trivial, fun h => (by cases h), ?_⟩
              clear hb51 hb52
              obtain ⟨sl, hsl⟩ : ∃ sl, (st).length = sl := ⟨_, rfl⟩
              have hlr := h5.pile.lenRun
              simp only [hsl] at hlr
              try simp only [hsl] at h5 ⊢
              have hslK : sl ≤ K := by rw [← hsl]; exact hst9
              have cD := h5.read (Re := fun e => e = .returned (.int .i64 (sl : Int))) (fun F hN => by have hd := hN.depth; rw [hsl] at hd; exact hd.mono fun e w' ⟨he, hw⟩ => ⟨he, hw ▸ Below.refl _ _⟩)
              have HSL := Lib.hid hsl
              have HST := Lib.hid hst9
              clear hsl hst9
              refine (callsIn_wide.2 cD).mono ?_
              rintro e w7 ⟨rfl, h7, hG7⟩
              clear cD hG7 h5
              obtain ⟨bq, hbq⟩ : ∃ bq, decide ((K : Int) ≤ (sl : Int)) = bq := ⟨_, rfl⟩
              have hbe : ((sl : Int) == (K : Int)) = bq := by
                rw [← hbq]
                by_cases hfl : sl = K
                · rw [hfl]; simp
                · have e1 : ((sl : Int) == (K : Int)) = false := by simp; omega
                  rw [e1]; symm; simp; omega
              have hbd : decide ((sl : Int) = (K : Int)) = bq := hbe
              have hnn : ((sl : Int) == (sl : Int)) = true := by simp
              have hqq : (bq == bq) = true := by simp
              have cF := h7.read (Re := fun e => e = .returned (.bool bq)) (fun F hN => (hN.full bq (by rw [HSL.out]; exact hbq)).mono fun e w' ⟨he, hw⟩ => ⟨he, hw ▸ (Below.refl _ _).drew⟩)
              have H7 := Lib.hid h7
              clear h7 hslK hbq
              gi_wp2_with fail
              refine ⟨trivial, fun h => (by cases h), ?_⟩
              refine (callsIn_wide.2 cF).mono ?_
              rintro e w8 ⟨rfl, h8, hG8⟩
              clear cF hG8 H7
              gi_wp2_with fail
              go_roundw
              case rel => exact ⟨i + 1, _, _, hlt, by go_num, HST.out, h8.unbox⟩
              case measure => simp [intOf]; omega
          · have hno : ¬ (0 ≤ id ∧ id < (R : Int)) := by omega
            have cS := h2.read (Re := fun e => e = .returned ((.tuple #[.int .i64 0, .int .i64 4]))) (fun F hN => hN.regNo id hno)
            clear h2
            gi_wp2_with fail
            refine ⟨trivial, fun h => (by cases h), ?_⟩
            refine (callsIn_wide.2 cS).mono ?_
            rintro e w5 ⟨rfl, h5, hG5⟩
            have hb5 : Blk w5 wr.heap.size #[.int .i64 kd, .int .i64 id, .int .i64 rd] 42 := (hG5 _ rfl).trans hbx
            have hb51 := hb5.cell 1
            have hb52 := hb5.cell 2
            clear cS hG5
            clear hb5 hbx hbx0 hbx1 hbx2
            gi_wp2_with fail
            refine ⟨trivial, fun h => (by cases h), ?_⟩
            clear hb51 hb52
            obtain ⟨sl, hsl⟩ : ∃ sl, (st).length = sl := ⟨_, rfl⟩
            have hlr := h5.pile.lenRun
            simp only [hsl] at hlr
            try simp only [hsl] at h5 ⊢
            have hslK : sl ≤ K := by rw [← hsl]; exact hst9
            have cD := h5.read (Re := fun e => e = .returned (.int .i64 (sl : Int))) (fun F hN => by have hd := hN.depth; rw [hsl] at hd; exact hd.mono fun e w' ⟨he, hw⟩ => ⟨he, hw ▸ Below.refl _ _⟩)
            have HSL := Lib.hid hsl
            have HST := Lib.hid hst9
            clear hsl hst9
            refine (callsIn_wide.2 cD).mono ?_
            rintro e w7 ⟨rfl, h7, hG7⟩
            clear cD hG7 h5
            obtain ⟨bq, hbq⟩ : ∃ bq, decide ((K : Int) ≤ (sl : Int)) = bq := ⟨_, rfl⟩
            have hbe : ((sl : Int) == (K : Int)) = bq := by
              rw [← hbq]
              by_cases hfl : sl = K
              · rw [hfl]; simp
              · have e1 : ((sl : Int) == (K : Int)) = false := by simp; omega
                rw [e1]; symm; simp; omega
            have hbd : decide ((sl : Int) = (K : Int)) = bq := hbe
            have hnn : ((sl : Int) == (sl : Int)) = true := by simp
            have hqq : (bq == bq) = true := by simp
            have cF := h7.read (Re := fun e => e = .returned (.bool bq)) (fun F hN => (hN.full bq (by rw [HSL.out]; exact hbq)).mono fun e w' ⟨he, hw⟩ => ⟨he, hw ▸ (Below.refl _ _).drew⟩)
            have H7 := Lib.hid h7
            clear h7 hslK hbq
            gi_wp2_with fail
            refine ⟨trivial, fun h => (by cases h), ?_⟩
            refine (callsIn_wide.2 cF).mono ?_
            rintro e w8 ⟨rfl, h8, hG8⟩
            clear cF hG8 H7
            gi_wp2_with fail
            go_roundw
            case rel => exact ⟨i + 1, _, _, hlt, by go_num, HST.out, h8.unbox⟩
            case measure => simp [intOf]; omega
    · have hi1 : ¬ (i : Int) < (len : Int) := by omega
      have hlen : ((List.range R).map f).length = R := by simp
      obtain ⟨va, w4, hrun, h4⟩ := h1.finish (by rw [hlen]; omega) 40
      rw [hlen] at hrun
      have hroots := nz_all f R st
      generalize hl : (List.range R).map f ++ st = l at *
      have hl30 : l.length ≤ 30 := by rw [← hl, List.length_append, hlen]; omega
      clear hl hlen
      obtain ⟨N, hN⟩ : ∃ N, l.length = N := ⟨_, rfl⟩
      have hlr := h4.all.lenRun
      simp only [hN] at hlr
      have hN30 : N ≤ 30 := by rw [← hN]; exact hl30
      have HN := Lib.hid hN
      have HRT := Lib.hid hroots
      clear hN hroots h1 hlt hi hi0 hst9
      gi_wp2_with (gi_at_builtin; refine wpListIn_appendRun rfl _ _ _ rfl _ _ rfl rfl hrun ?_)
      clear hrun hlr
      generalize wr.heap.size = bx at *
      gi_loopw [196] (fun v196 wr => RunB wb.heap.size t R K f st va l bx wb v196 wr) (fun v196 _ => N - (intOf v196).toNat)
      case atStart => exact ⟨0, _, Nat.zero_le _, rfl, h4⟩
      case round =>
        clear h4
        obtain ⟨j, vw, hj, rfl, h1⟩ := hrel
        have hj0 : (0 : Int) ≤ (j : Int) := by omega
        by_cases hlt : j < N
        · have hj1 : (j : Int) < (N : Int) := by omega
          rcases h1.all.is with ⟨_, e⟩ | ⟨g, capa, cur, rfl, hg, hlc, hcm, hcs, hcl⟩
          · exfalso
            have := HN.out
            rw [e] at this
            simp at this
            omega
          have hjl : j < l.length := by rw [HN.out]; exact hlt
          have hx := hcl j hjl
          have hnx := nz_next (List.getElem?_eq_getElem hjl)
          generalize l[j] = x at *
          have hN9 := HN.out
          simp only [hN9] at h1 ⊢
          clear hcl hcs hcm hg hjl hj hN9
          by_cases hx0 : x = 0
          · subst hx0
            rw [if_pos rfl, List.append_nil] at hnx
            rw [← hnx] at h1
            have H1 := Lib.hid h1
            clear h1 hnx
            gi_wp2_with fail
            go_roundw
            case rel => exact ⟨j + 1, vw, by rw [HN.out]; exact hlt, by go_num, H1.out⟩
            case measure => simp [intOf]; omega
          · rw [if_neg hx0] at hnx
            have cb := h1.box.cell 0
            simp only [List.getElem?_toArray, List.getElem?_cons_zero] at cb
            have h2 := h1.ask ((Below.refl _ wr).alloc (Nat.le_refl _) (.cells #[.int .i64 x] 30))
            have hle := nz_le l j
            generalize nz (l.take j) = p at *
            have hxx : (x != 0) = true := by simpa using hx0
            clear h1
            gi_wp2_with (gi_at_builtin; refine wpListIn_pushT rfl _ _ rfl h2.want (by omega) wr.heap.size 1 x ((Blk.new wr _ _).cell 0) rfl rfl ?_; intro g6 ng cg w6 hR6 hT6 hN6; obtain ⟨hb6, h6⟩ := h2.push hR6 hT6 hN6; have cb6 := hb6.cell 0; have zb6 := hb6.free 0; simp only [List.getElem?_toArray, List.getElem?_cons_zero] at cb6; clear h2 hR6 hT6 hN6 hb6 cb; have H6 := Lib.hid h6; clear h6)
            go_roundw
            case rel => exact ⟨j + 1, _, by rw [HN.out]; exact hlt, by go_num, hnx ▸ H6.out⟩
            case measure => simp [intOf]; omega
        · have hj1 : ¬ (j : Int) < (N : Int) := by omega
          have htk : l.take j = l := List.take_of_length_le (by rw [HN.out]; omega)
          rw [htk] at h1
          clear hj hlt htk
          have hpl : (nz l).length ≤ 30 := by
            have h9 := nz_le l l.length
            rw [List.take_of_length_le (Nat.le_refl _)] at h9
            omega
          have hroots := HRT.out
          generalize nz l = p at *
          have hro : rootsOf f (R : Int).toNat st = p := by rw [Int.toNat_natCast]; exact hroots.symm
          clear hroots HRT HN hl30
          obtain ⟨T0, rfl, hA, hF⟩ := h1.th.ex
          have hbl1 := h1.th.below
          have hsz1 := h1.th.below.size
          have hAlt := hA.lt
          have hbxl := h1.box.lt
          have hbxB := h1.low.1
          have h5 := h1.ask ((Below.refl _ wr).alloc (Nat.le_refl _) (.cells #[.int .i64 0] 3))
          have h7 := h5.ask ((Below.refl _ _).alloc (Nat.le_refl _) (.cells #[.pointer (some ⟨T0.t, 0, none⟩)] 38))
          have hA7 := (hA.below ((Below.refl _ wr).alloc (Nat.le_refl _) (.cells #[.int .i64 0] 3))).below ((Below.refl _ _).alloc (Nat.le_refl _) (.cells #[.pointer (some ⟨T0.t, 0, none⟩)] 38))
          have hk7 := (Blk.new wr #[.int .i64 0] 3).alloc (.cells #[.pointer (some ⟨T0.t, 0, none⟩)] 38)
          have hbox7 := Blk.new (wr.alloc (.cells #[.int .i64 0] 3)) #[.pointer (some ⟨T0.t, 0, none⟩)] 38
          have hs7 : ((wr.alloc (.cells #[.int .i64 0] 3)).alloc (.cells #[.pointer (some ⟨T0.t, 0, none⟩)] 38)).heap.size = wr.heap.size + 2 := by simp
          rw [World.size_alloc] at hbox7
          have hFb : ¬ T0.has bx := fun h => (hF _ h).2 (.inr rfl)
          have H57 := Lib.hid h7
          have HA7 := Lib.hid hA7
          have HK7 := Lib.hid hk7
          have HB7 := Lib.hid hbox7
          have HS7 := Lib.hid hs7
          have HRO := Lib.hid hro
          clear hA7 hk7 hbox7 hs7 hro hA h1 h5 h7
          gi_wp2_with fail
          refine ⟨trivial, fun h => (by cases h), ?_⟩
          refine (callsIn_wide.2 (rootsfn_any T0.t _)).mono ?_
          rintro e w' ⟨rfl, rfl⟩
          gi_wp2_with fail
          have h7 := H57.out
          have hA7 := HA7.out
          have hk7 := HK7.out
          have hbox7 := HB7.out
          have hs7 := HS7.out
          clear HA7 HK7 HB7 HS7 H57
          generalize (wr.alloc (.cells #[.int .i64 0] 3)).alloc (.cells #[.pointer (some ⟨T0.t, 0, none⟩)] 38) = V7 at *
          have hT7 : ∀ k, T0.has k → k < V7.heap.size := fun k hk => by have := hAlt k hk; omega
          have hkT : ¬ T0.has wr.heap.size := fun h => by have := hAlt _ h; omega
          have hrT : ¬ T0.has w.heap.size := fun h => by have := (hF _ h).1; omega
          refine wpIn_rangeFunc_ownF rfl (by omega) (gf := 42) (lb := #[.pointer (some ⟨wr.heap.size + 1, 0, none⟩)]) rfl trivial (enters_of Try.func42 (by kernel_rfl) rfl)
            (roots_stops (M - 1) (wr.heap.size + 1) V7 hA7 (hbox7.cell 0)) KpTh.trans (fun W l o o' hl ho hc _ => KpTh.putObj hT7 (by omega) W l o o' hl ho hc) (Below.refl _ _) (fun _ => rfl)
            (fun (pre : List Int) V => ThAt V T0 R K f st ∧ Blk V wr.heap.size #[.int .i64 (pre.length : Int)] 3 ∧ Below wb.heap.size wb V ∧ V7.heap.size ≤ V.heap.size ∧ Blk V bx #[vw] 40 ∧ RefRow V vw p)
            (fun c (pre : List Int) V => BadP p pre)
            (fun s V V' row hs hg hr => ⟨hs.1.kept hg (fun r e => (hr r e).2), hs.2.1.keptT hg (fun r e => (hr r e).2), (ownFrom_below (β := Unit) (Nat.le_refl _) (by omega)) () V V' row hs.2.2.1 hg hr, Nat.le_trans hs.2.2.2.1 hg.size, hs.2.2.2.2.1.keptT hg (fun r e => (hr r e).2), hs.2.2.2.2.2.kept hg (fun r e => (hr r e).2)⟩)
            (fun c s V V' row hs hg hr => hs)
            ⟨hA7, hk7, h7.th.below, Nat.le_refl _, h7.box, h7.want⟩ ?a1 ?assign ?body ?done ?stop
          case assign =>
            intro l0 x W K hK
            gi_wp2
            exact hK
          case body =>
            rintro l0 pre x V ⟨hA, hk, hbl, hVs, hb, hw⟩ hpl0
            have ck := hk.cell 0
            have zk := hk.free 0
            have hkl := hk.lt
            have cb := hb.cell 0
            simp only [List.getElem?_toArray, List.getElem?_cons_zero] at ck cb
            have hRW : V.cell? ⟨w.heap.size, 0, none⟩ = some (.bool false) := (hbl.cell (p := ⟨w.heap.size, 0, none⟩) hR.lt).trans (hR.cell 0)
            have hZW : V.frozen? ⟨w.heap.size, 0, none⟩ = false := (hbl.frozen (p := ⟨w.heap.size, 0, none⟩) hR.lt).trans (hR.free 0)
            have hpl2 : (pre.length : Int) ≤ 100000 := by omega
            have hpre0 : (0 : Int) ≤ (pre.length : Int) := by omega
            obtain ⟨ao, capw, hvw, hcellw⟩ : ∃ ao capw, vw = .slice ao p.length capw ∧ ∀ j (hj : j < p.length), ∃ g, ao = some ⟨g, 0, none⟩ ∧ V.cell? ⟨g, j, none⟩ = some (.int .i64 p[j]) := by
              rcases hw.is with ⟨rfl, e⟩ | ⟨g, cap, cur, rfl, _, _, _, _, hcl⟩
              · rw [e]; exact ⟨none, 0, rfl, fun j hj => by simp at hj⟩
              · exact ⟨_, cap, rfl, fun j hj => ⟨g, rfl, hcl j hj⟩⟩
            by_cases hx : pre.length < p.length
            · have hxI : (pre.length : Int) < (p.length : Int) := by omega
              obtain ⟨g, rfl, hcx⟩ := hcellw pre.length hx
              have hpe := List.getElem?_eq_getElem hx
              generalize p[pre.length] = y at *
              by_cases hyx : y = x
              · subst hyx
                have hT : Turn (fun k => k = wr.heap.size) V (V.setCell ⟨wr.heap.size, 0, none⟩ (.int .i64 ((pre.length : Int) + 1))) := (Turn.refl _ V).set _ _ (.inr rfl)
                have hgo : KeepsOthers V (V.setCell ⟨wr.heap.size, 0, none⟩ (.int .i64 ((pre.length : Int) + 1))) ∧ KpTh T0 (wr.heap.size + 1) V7.heap.size V (V.setCell ⟨wr.heap.size, 0, none⟩ (.int .i64 ((pre.length : Int) + 1))) ∧
                    ThAt (V.setCell ⟨wr.heap.size, 0, none⟩ (.int .i64 ((pre.length : Int) + 1))) T0 R K f st ∧ Blk (V.setCell ⟨wr.heap.size, 0, none⟩ (.int .i64 ((pre.length : Int) + 1))) wr.heap.size #[.int .i64 ((pre ++ [y]).length : Int)] 3 ∧
                    Below wb.heap.size wb (V.setCell ⟨wr.heap.size, 0, none⟩ (.int .i64 ((pre.length : Int) + 1))) ∧ V7.heap.size ≤ (V.setCell ⟨wr.heap.size, 0, none⟩ (.int .i64 ((pre.length : Int) + 1))).heap.size ∧
                    Blk (V.setCell ⟨wr.heap.size, 0, none⟩ (.int .i64 ((pre.length : Int) + 1))) bx #[vw] 40 ∧ RefRow (V.setCell ⟨wr.heap.size, 0, none⟩ (.int .i64 ((pre.length : Int) + 1))) vw p := by
                  refine ⟨KeepsOthers.setCell _ _ _, ?_, hA.turn hT (fun k hk e => hkT ((show k = wr.heap.size from e) ▸ hk)), ?_, hbl.trans (hT.below wb.heap.size (by have := hbl.size; omega) (fun k hk e => by have e2 : k = wr.heap.size := e; omega)), by simpa using hVs, hb.turn hT (fun e => by have e2 : bx = wr.heap.size := e; omega), hw.turn hT (fun k e e2 => by
                    obtain ⟨_, hbb⟩ := hw.own e
                    exact blkT hbb ((show k = wr.heap.size from e2) ▸ hk) (by decide))⟩
                  · exact KpTh.ofTurn hA (by omega) hT (fun k hk e => hkT ((show k = wr.heap.size from e) ▸ hk)) (by omega) (fun k hk e => by have e2 : k = wr.heap.size := e; omega)
                  · refine (hk.setAt 0 _).is ?_
                    have e : (((pre ++ [y]).length : Nat) : Int) = (pre.length : Int) + 1 := by simp
                    rw [e]; simp
                have HG := Lib.hid hgo
                have hyy : (y == y) = true := by simp
                clear hgo hT hA hk hbl hw hb hpe hcellw
                subst hvw
                gi_wp2_with fail
                exact HG.out
              · have hne : (y != x) = true := by simpa using hyx
                have hbad : ¬ p[pre.length]? = some x := by rw [hpe]; intro e; exact hyx (Option.some.inj e)
                have HBAD := Lib.hid hbad
                clear hA hk hbl hw hb hpe hcellw hbad
                subst hvw
                gi_wp2_with fail
                exact ⟨KeepsOthers.setCell _ _ _, pre, x, rfl, HBAD.out⟩
            · have hxI : ¬ (pre.length : Int) < (p.length : Int) := by omega
              have hxJ : (p.length : Int) ≤ (pre.length : Int) := by omega
              have hbad : ¬ p[pre.length]? = some x := fun e => hx (List.getElem?_eq_some_iff.1 e).1
              have HBAD := Lib.hid hbad
              clear hA hk hbl hw hb hcellw hbad hx
              subst hvw
              gi_wp2_with fail
              exact ⟨KeepsOthers.setCell _ _ _, pre, x, rfl, HBAD.out⟩
          case stop =>
            rintro D c pre V hD ⟨k, hk, hpre⟩ ⟨q, x, e1, e2⟩ hK
            exfalso
            apply e2
            have e3 := congrArg (fun m : List Int => m[q.length]?) (e1.symm.trans hpre)
            simp only [List.getElem?_append_right (Nat.le_refl q.length), Nat.sub_self, List.getElem?_cons_zero] at e3
            rw [HRO.out] at e3
            rw [List.getElem?_take] at e3
            split at e3
            · exact e3.symm
            · cases e3
          case done =>
            rintro D xs V hD rfl ⟨hA, hk, hbl, hVs, hb, hw⟩ hK
            rw [HRO.out] at hk
            have ck := hk.cell 0
            have cb := hb.cell 0
            simp only [List.getElem?_toArray, List.getElem?_cons_zero] at ck cb
            have hlw := hw.lenRun
            have hRW : V.cell? ⟨w.heap.size, 0, none⟩ = some (.bool false) := (hbl.cell (p := ⟨w.heap.size, 0, none⟩) hR.lt).trans (hR.cell 0)
            have hZW : V.frozen? ⟨w.heap.size, 0, none⟩ = false := (hbl.frozen (p := ⟨w.heap.size, 0, none⟩) hR.lt).trans (hR.free 0)
            have hpp : decide ((p.length : Int) = (p.length : Int)) = true := by simp
            clear hA hk hb hw
            gi_wp2_with fail
            have hK9 := (KeepsOthers.setCell V ⟨w.heap.size, 0, none⟩ (.bool true)).same D _ hK rfl
            have hR9 : (V.setCell ⟨w.heap.size, 0, none⟩ (.bool true)).cell? ⟨w.heap.size, 0, none⟩ = some (.bool true) := World.cell?_setCell_same _ _ _ hRW
            have hB9 := (hBb.trans (hbl.mono (by omega))).setCell (p := ⟨w.heap.size, 0, none⟩) (Nat.le_refl _) (.bool true)
            generalize V.setCell ⟨w.heap.size, 0, none⟩ (.bool true) = V9 at *
            have hDw : w.heap.size < D := by omega
            refine ⟨by simp, .inl ⟨D, _, rfl, run_takeDeferred hK9, ?_⟩⟩
            have hRF : (V9.putObj D (.deferred none)).cell? ⟨w.heap.size, 0, none⟩ = some (.bool true) := (World.cell?_of_block (w := V9) (World.putObj_heap_other (by simp; omega))).trans hR9
            have hBF := take_endT hK9 (by omega) hB9
            generalize V9.putObj D (.deferred none) = V2 at *
            refine ⟨.bool true, ?_, rfl, hBF⟩
            simp [results, Try.f4, go_sem, hRF]
end Go.Proofs.Ytfipflghnhfcjaa
