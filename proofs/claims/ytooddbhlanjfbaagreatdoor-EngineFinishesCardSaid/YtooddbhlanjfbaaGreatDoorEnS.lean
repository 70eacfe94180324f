/- engine's shade: roots are shaded, in order; at this seat's numbers. -/
import Derived.Test.YtooddbhlanjfbaaGreatDoorEnW
import Derived.Test.YtooddbhlanjfbaaGreatDoorEnR
import Derived.Test.YtooddbhlanjfbaaGreatDoorUk
import Derived.Test.YtooddbhlanjfbaaGreatDoorUn
namespace Go.Proofs.YtooddbhlanjfbaaGreatDoor
open Go Go.RowKit Go.Shelf Go.MuLone Go.RwLone
set_option linter.unusedSimpArgs false
set_option linter.unusedVariables false
attribute [local go_sem] Oper.semAt_some

/-- Between two roots. -/
def FinI (T7 : MkB) (V7 : World) (xa : Nat) (c0 : Col) (b : Nat) (R : List Int) (st : List (InRt R) × (Nat → Prop)) (V : World) : Prop :=
  ∃ T1, MkAt V T1 xa (c0.shades (rtL st.1)) ∧ MkStep T7 V7 T1 V ∧ Blk V b #[.pointer (some ⟨T7.m, 0, none⟩)] 37 ∧ (∀ k, T1.has k → T7.has k ∨ st.2 k) ∧ (∀ k, st.2 k → V7.heap.size ≤ k)
theorem finI_own {T7 : MkB} {V7 : World} {xa : Nat} {c0 : Col} {b : Nat} {R : List Int} : OwnFrom V7.heap.size (FinI T7 V7 xa c0 b R) := by
  rintro st V V' row ⟨T1, hM, hS, hb, hO, hO2⟩ hg hr
  exact ⟨T1, hM.grown hg (fun r e => (hr r e).2), hS.grown hg (fun r e => (hr r e).1), hb.kept hg (fun r e => (hr r e).2), hO, hO2⟩
/-- One more. -/
def BeE (E : Nat → Prop) (b k : Nat) : Prop := E k ∨ k = b
theorem Blk.notDef {w : World} {k : Nat} {cs : Array Value} {T : TypeId} (h : Blk w k cs T) : ¬ IsDef w k := by
  rintro ⟨ds, hd⟩
  unfold Blk at h; rw [h] at hd; cases hd
theorem SetAt.notDef {w : World} {b : Nat} {lo : Option Nat} {n : Nat} {S : Nat → Bool} (h : SetAt w b lo n S) {k : Nat} (hk : k = b ∨ lo = some k) : ¬ IsDef w k := by
  rintro ⟨ds, hd⟩
  obtain ⟨o, h1, h2⟩ := h.isCells hk
  rw [h1] at hd; cases hd; cases h2
theorem MkAt.notDef {w : World} {T : MkB} {xa : Nat} {c : Col} (h : MkAt w T xa c) {k : Nat} (hk : T.has k) : ¬ IsDef w k := by
  rintro ⟨ds, hd⟩
  obtain ⟨S, S2, room, st, ov, hM, hO⟩ := h.ex
  obtain ⟨o, ho, hc⟩ := hM.cells hk
  rw [hd] at ho; cases ho; cases hc
theorem EnAt.notDef {e bt tm xa P room : Nat} {w : World} {H : Nat → Prop} {R : List Int} {σ : EnS} (h : EnAt e w H bt tm xa P room R σ) : ∀ k, H k → ¬ IsDef w k := by
  match e, h with
  | 0, ⟨Z, h1, h2, h3⟩ =>
    rw [h2]
    rintro k (e | e | e)
    · rw [e]; exact h3.head.notDef
    · rw [e]; exact h3.cd.head.notDef
    · exact h3.cd.set.notDef e
  | 1, ⟨h1, h2⟩ => rw [h1]; rintro k rfl; exact h2.notDef
  | 2, ⟨h1, h2⟩ => rw [h1]; rintro k rfl; exact h2.notDef
  | _ + 3, ⟨Z, h1, h2, h3⟩ =>
    rw [h2]
    obtain ⟨cur, hc, _⟩ := h3.cts
    obtain ⟨ll, hl, _⟩ := h3.log
    rintro k (e | e | e)
    · rw [e]; exact h3.head.notDef
    · rw [e]; exact hc.notDef
    · obtain ⟨cur, hb⟩ := hl.own e; exact hb.notDef
/-- Blocks of deferred calls are none of its own. -/
theorem EnIn.deferred {e B mb n bt tm room B0 : Nat} {X : ArB} {s : ArS} {obs : List Ob} {vl : Value} {f : Int → Value} {adj : Int → List Int} {E H : Nat → Prop} {T : MkB} {c : Col} {σ : EnS} {wb wr w' : World} (h : EnIn e B mb n X s obs vl f adj E T c H bt tm room σ wb wr) (hB : B ≤ B0) (hT : Turn (fun k => B0 ≤ k ∧ IsDef wr k) wr w') : EnIn e B mb n X s obs vl f adj E T c H bt tm room σ wb w' :=
  ⟨⟨h.gm.go.turned hT (fun k e e2 => h.gm.go.notDef e e2.2) (fun k hk e => by have := e.1; omega), h.gm.mt.deferred hT, h.gm.own, fun k e => Nat.lt_of_lt_of_le (h.gm.ext k e) hT.size, h.gm.inn, h.gm.ex⟩,
    h.en.keep (fun k e => hT.block k (h.en.lt k e) (fun e2 => h.en.notDef k e e2.2)), h.tm, h.own⟩
theorem Scans.append {P : Int → List Int} {c c' c2 : Col} {l m : List Int} (h : Scans P c l c') (k : Scans P c' m c2) : Scans P c (l ++ m) c2 := by
  induction h with
  | nil c => exact k
  | cons h1 h2 _ ih => exact .cons h1 h2 (ih k)
/-- A function is not nil. -/
theorem eq_nilSeq (f : Fn) (a c : Array Value) (W : World) : (binOp .eql 53 (.func f a c) .nilFunc).run Tryz.prog W = .ok (.bool false) W := by kernel_rfl
section
variable {e B mb n bt tm room : Nat} {X : ArB} {s : ArS} {obs : List Ob} {vl : Value} {f : Int → Value} {adj : Int → List Int} {E E' H : Nat → Prop} {T T' : MkB} {c c' : Col} {σ σ' : EnS} {wb wr u0 w' : World}
set_option maxRecDepth 100000 in
set_option maxHeartbeats 8000000 in
theorem en_shade (h : EnIn e B mb n X s obs vl f adj E T c H bt tm room σ wb u0) {v : Value} {bx : Nat} (R : List Int) (hR : RefRow u0 v R) (hB0 : u0.cell? ⟨bx, 0, none⟩ = some v) (hbx : E bx) (hv : ∀ k, v.ownBlock = some k → E k ∨ GoHas X mb vl f k) (hin : ∀ x ∈ R, x ∈ refsI obs) :
    Calls Tryz.prog 52 #[.pointer (some ⟨tm, 0, none⟩), .func (.func 53) #[] #[.pointer (some ⟨bx, 0, none⟩)]] u0 fun en w' =>
      en = .returned (.tuple #[]) ∧ ∃ T', EnIn e B mb n X s obs vl f adj E T' (c.shades R) H bt tm room σ wb w' ∧ ∀ k, E k → w'.heap[k]? = u0.heap[k]? := by
  obtain ⟨M, hMM⟩ : ∃ M : Nat, 10 ≤ M := ⟨10, Nat.le_refl _⟩
  have hB1 := (Below.refl u0.heap.size u0).alloc (Nat.le_refl _) (.cells #[.pointer (some ⟨tm, 0, none⟩)] 37)
  have h1 := h.ask hB1
  have hb1 := Blk.new u0 #[.pointer (some ⟨tm, 0, none⟩)] 37
  have hz1 : (u0.alloc (.cells #[.pointer (some ⟨tm, 0, none⟩)] 37)).heap.size = u0.heap.size + 1 := by simp
  have h0lt : ∀ k, E k → k < u0.heap.size := fun k e => h.gm.ext k (.inl e)
  have HZ1 := Lib.hid (And.intro hz1 (And.intro h (And.intro h1 (And.intro hb1 (And.intro hB1 (And.intro hR (And.intro hB0 (And.intro hbx (And.intro hv hin)))))))))
  clear hz1 h h1 hb1 hB1 hR hB0 hbx hv hin
  have hNil := eq_nilSeq (.func 53) #[] #[.pointer (some ⟨bx, 0, none⟩)] (u0.alloc (.cells #[.pointer (some ⟨tm, 0, none⟩)] 37))
  refine calls_of_wp_marks Tryz.func52 rfl M ?_
  simp only [Tryz.ntmps52, List.size_toArray, List.length_cons, List.length_nil, Nat.reduceAdd, Nat.reduceSub, Array.replicate_succ, Array.replicate_zero, List.push_toArray, List.append_toArray, List.nil_append, List.cons_append]
  gi_wp2_with fail
  clear hNil
  obtain ⟨hz1, h, h1, hb1, hB1, hR, hB0, hbx, hv, hin⟩ := HZ1.out
  clear HZ1
  generalize (u0.alloc (.cells #[.pointer (some ⟨tm, 0, none⟩)] 37)) = W1 at *
  have hRlt : ∀ k, v.ownBlock = some k → k < u0.heap.size := fun k e => hR.lt e
  have hR1 := hR.keepG (w' := W1) (fun k e => hB1.block k (hR.lt e))
  have hB01 := (hB1.cell (p := ⟨bx, 0, none⟩) (World.block_lt_of_cell? _ _ hB0)).trans hB0
  have hbxl : bx < u0.heap.size := World.block_lt_of_cell? _ _ hB0
  have hTlt := h1.gm.mt.lt
  have hXs := h1.gm.at_.side
  have hnbT : ¬ T.has u0.heap.size := fun e => by have := h.gm.mt.lt _ e; omega
  have hnx : ¬ T.has bx := fun e => (h.gm.own _ e).2.2 (.inl hbx)
  have hnv : ∀ k, v.ownBlock = some k → ¬ T.has k := fun k e e2 => by
    rcases hv k e with e3 | e3
    · exact (h.gm.own _ e2).2.2 (.inl e3)
    · exact (h.gm.own _ e2).2.1 e3
  have h0 : FinI T W1 X.a c u0.heap.size R ([], fun _ => False) W1 :=
    ⟨T, by rw [show rtL (([], fun _ => False) : List (InRt R) × (Nat → Prop)).1 = [] from rfl, Col.shades_nil]; exact h1.gm.mt, MkStep.refl _ _, by rw [h.tm]; exact hb1, fun k e => .inl e, fun _ h => h.elim⟩
  have hKt : ∀ {A C D : World}, KpRt bx v A C → KpRt bx v C D → KpRt bx v A D := KpRt.trans
  have hBwr := h.gm.size
  have htm := h.tm
  have HH := Lib.hid (And.intro h (And.intro h1 (And.intro hB1 (And.intro hz1 (And.intro hin hb1)))))
  clear h h1 hB1 hz1 hR hB0 hbx hv hin hb1
  refine wpIn_rangeO rfl (by omega) (gf := 53) (lb := #[.pointer (some ⟨bx, 0, none⟩)]) rfl trivial (enters_of Tryz.func53 (by kernel_rfl) rfl)
    (SeqO.ofK (rt_stops (M - 1) R v bx W1 hR1 hB01)) hKt
    (fun V l o hl => KpRt.putObj (n0 := W1.heap.size) (by have := HH.out.2.2.2.1; omega) (fun k e => by have := hRlt k e; have := HH.out.2.2.2.1; omega) V l o hl) (Below.refl _ _) (fun _ => rfl)
    (FinI T W1 X.a c u0.heap.size R)
    (fun c' st V => False)
    finI_own (fun c st V V' row hs hg hr => hs) h0 ?a1 ?assign ?body ?done ?stop
  case assign =>
    intro l0 x W K hK
    unfold rtArgs
    gi_wp2
    exact hK
  case body =>
    rintro l0 pre O y V ⟨T2, hMV, hSV, hbV, hOV, hO2⟩ hpl
    have hVs := hSV.turn.size
    have ck := hbV.cell 0
    simp only [List.getElem?_toArray, List.getElem?_cons_zero] at ck
    have hsV := hXs.step hSV
    have hyR : R[y.1]'y.2 ∈ R := List.getElem_mem _
    have hyi := HH.out.2.1.gm.at_.inS (HH.out.2.2.2.2.1 _ hyR)
    obtain ⟨yv, hyv⟩ : ∃ yv, R[y.1]'y.2 = yv := ⟨_, rfl⟩
    rw [hyv] at hyi
    obtain ⟨t, ht⟩ : ∃ t, (c.shades (rtL pre)).ma yv = !t := ⟨!(c.shades (rtL pre)).ma yv, by simp⟩
    have cS := mkShade hMV hsV.ar.toArMem hsV.P yv hyi t ht
    have hm2 : T2.m = tm := hSV.m.trans htm
    rw [hm2] at cS
    rw [htm] at ck
    have hv2 : (rtL pre) ++ [yv] = rtL (pre ++ [y]) := by rw [rtL_snoc, hyv]
    rw [Col.shades_snoc, hv2] at cS
    clear ht hyi hm2 hv2 hyR
    gi_wp2_with fail
    refine ⟨trivial, fun h => (by cases h), ?_⟩
    refine ((callsIn_wide.2 cS).inRound l0).mono ?_
    rintro en V1 ⟨rfl, T3, hM3, hS3⟩
    obtain ⟨O', hOw, hO', hOn⟩ := hS3.owned (B := W1.heap.size) (T7 := T) hTlt hOV hVs
    have hz := HH.out.2.2.2.1
    have hnO : ∀ k, k < W1.heap.size → ¬ T.has k → ¬ T2.has k := fun k h1 h2 e => by
      rcases hOV k e with e2 | e2
      · exact h2 e2
      · have := hO2 k e2; omega
    have hKp : KpRt bx v V V1 := ⟨hS3.turn.block _ (by omega) (hnO _ (by omega) hnx), fun k e => hS3.turn.block _ (by have := hRlt k e; omega) (hnO _ (by have := hRlt k e; omega) (hnv k e))⟩
    have hI : FinI T W1 X.a c u0.heap.size R (pre ++ [y], O') V1 :=
      ⟨T3, hM3, hSV.trans hS3, hbV.turn hS3.turn (hnO _ (by omega) hnbT), hO', fun k e => by
        rcases hOn k e with e2 | e2
        · exact hO2 k e2
        · omega⟩
    have HI := Lib.hid (And.intro hOw (And.intro hKp hI))
    clear hI hM3 hS3 hKp hOw hz cS hOV
    gi_wp2_with fail
    exact ⟨O', HI.out.1, HI.out.2.1, HI.out.2.2⟩
  case done =>
    rintro D xs O V hD hxs ⟨T2, hMV, hSV, hbV, hOV, hO2⟩ hK
    have hDl : D < V.heap.size := (Array.getElem?_eq_some_iff.mp hK).1
    rw [rtL_all hxs] at hMV
    have hz := HH.out.2.2.2.1
    obtain ⟨hG, hkE⟩ := HH.out.2.1.gm.step hMV hSV fun z hz => by
      have hz2 : (c.ma z || decide (z ∈ R)) = true := hz
      rcases Bool.or_eq_true_iff.1 hz2 with e | e
      · exact HH.out.2.1.gm.inn z e
      · exact HH.out.2.2.2.2.1 z (of_decide_eq_true e)
    have h7 := (HH.out.2.1.went (hSV.m.trans htm) hG hkE).1
    have h2 : EnIn e B mb n X s obs vl f adj (BeE (BeE E u0.heap.size) D) T2 (c.shades R) H bt tm room σ wb V := h7.reE fun k e => by
      rcases e with (e | e) | e
      · exact ⟨fun e2 => (h7.gm.own k e2).2.2 (.inl e), fun e2 => (h7.own k e2).2.2 e, h7.gm.ext k (.inl e)⟩
      · subst e
        refine ⟨fun e2 => ?_, fun e2 => ?_, by have := hSV.turn.size; omega⟩
        · rcases hOV _ e2 with e3 | e3
          · exact hnbT e3
          · have := hO2 _ e3; omega
        · have := HH.out.1.en.lt _ e2; omega
      · subst e
        refine ⟨fun e2 => ?_, fun e2 => ?_, hDl⟩
        · exact (MkAt.notDef hMV e2) ⟨_, hK⟩
        · have := HH.out.2.1.en.lt _ e2; omega
    have cb := hbV.cell 0
    simp only [List.getElem?_toArray, List.getElem?_cons_zero] at cb
    rw [htm] at cb
    have hk0 : ∀ k, E k → V.heap[k]? = u0.heap[k]? := fun k e => (hkE k (.inl e)).trans (HH.out.2.2.1.block k (HH.out.1.gm.ext k (.inl e)))
    have hE1 : ∀ k, E k → BeE (BeE E u0.heap.size) D k := fun k e => Or.inl (Or.inl e)
    have hbE : BeE (BeE E u0.heap.size) D u0.heap.size := Or.inl (Or.inr rfl)
    have hMk : V.heap[D]? = some (.deferred (some [])) := hK
    clear hxs hMV hSV hbV hOV hO2 hK hG hkE h7 hXs hTlt hnbT hnx hnv hR1 hB01 hRlt
    have H2 := Lib.hid (And.intro h2 (And.intro hk0 hMk))
    clear h2 hk0 hE1 hbE hMk
    gi_wp2_with fail
    refine leavesP_marksG (B := u0.heap.size) (hi := D + 1) ⟨D, rfl, by omega, by omega, H2.out.2.2, trivial⟩ fun w' hT => ?_
    exact ⟨_, results_none rfl _ _ _, rfl, T2, (H2.out.1.less (E' := E) (fun k e => Or.inl (Or.inl e))).deferred hBwr hT, fun k e => (hT.block k (H2.out.1.gm.ext k (Or.inl (Or.inl (Or.inl e)))) (fun e2 => by have := h0lt k e; omega)).trans (H2.out.2.1 k e)⟩
  case stop =>
    rintro D c' pre O V hD _ h
    exact h.elim
end
end Go.Proofs.YtooddbhlanjfbaaGreatDoor
