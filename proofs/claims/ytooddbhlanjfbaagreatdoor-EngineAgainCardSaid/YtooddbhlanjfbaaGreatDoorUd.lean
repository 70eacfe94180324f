/- Steele's barrier beside a marker: what stands in memory, its calls but for Remark; at this seat's numbers. (Prepared over a steele.go of our own.) Steele's barrier: New, Pre, Post, Reset, Rescans, Dirty; at this seat's numbers. (Prepared over a steele.go of our own.) Steele's laws: colours behind a remark, counts; plain but for the seat's names. Remark, plain: cells of one page after the other are made grey; at this seat's numbers. -/
import Derived.Test.YtooddbhlanjfbaaGreatDoorUm
import Derived.Test.YtooddbhlanjfbaaGreatDoorCdA
import Derived.Deep.RegionHeld3
namespace Go.Proofs.YtooddbhlanjfbaaGreatDoor
open Go Go.RowKit Go.Shelf
set_option linter.unusedSimpArgs false
set_option linter.unusedVariables false
attribute [local go_sem] Oper.semAt_some

/-- A barrier's blocks: itself, the table of dirty pages. -/
structure StB where
  t : Nat
  C : CdB
def StB.has (Z : StB) (k : Nat) : Prop := k = Z.t ∨ Z.C.has k
structure StAt (w : World) (Z : StB) (xa tm P : Nat) (D : Nat → Bool) : Prop where
  head : Blk w Z.t #[.pointer (some ⟨tm, 0, none⟩), .pointer (some ⟨Z.C.t, 0, none⟩)] 100
  cd : CdAt w Z.C xa P D
  far : ¬ Z.C.has Z.t
/-- What a call on a barrier has turned of itself. -/
structure StStep (Z : StB) (w : World) (Z' : StB) (w' : World) : Prop where
  t : Z'.t = Z.t
  new : ∀ k, Z'.has k → Z.has k ∨ w.heap.size ≤ k
  turn : Turn Z.has w w'
section
variable {w w' : World} {Z Z' : StB} {xa tm P : Nat} {D : Nat → Bool}
theorem StAt.lt (h : StAt w Z xa tm P D) : ∀ k, Z.has k → k < w.heap.size := by
  rintro k (e | e)
  · rw [e]; exact h.head.lt
  · exact h.cd.lt k e
theorem StAt.turn {M : Nat → Prop} (h : StAt w Z xa tm P D) (hT : Turn M w w') (hn : ∀ k, Z.has k → ¬ M k) : StAt w' Z xa tm P D :=
  ⟨h.head.turn hT (hn _ (.inl rfl)), h.cd.turn hT (fun k e => hn k (.inr e)), h.far⟩
theorem StAt.keep (h : StAt w Z xa tm P D) (hk : ∀ k, Z.has k → w'.heap[k]? = w.heap[k]?) : StAt w' Z xa tm P D :=
  ⟨by have h1 := h.head; unfold Blk at *; rw [hk _ (.inl rfl)]; exact h1, ⟨by have h1 := h.cd.head; unfold Blk at *; rw [hk _ (.inr (.inl rfl))]; exact h1, h.cd.set.keep (hk _ (.inr (.inr (.inl rfl)))) (fun l e => hk l (.inr (.inr (.inr e))))⟩, h.far⟩
end
/-- A graph, a marker, a barrier; other blocks E that their calls keep. -/
structure StIn (B mb n : Nat) (X : ArB) (s : ArS) (obs : List Ob) (vl : Value) (f : Int → Value) (adj : Int → List Int) (E : Nat → Prop) (T : MkB) (c : Col) (Z : StB) (D : Nat → Bool) (wb wr : World) : Prop where
  gm : GmIn B mb n X s obs vl f adj (fun k => E k ∨ Z.has k) T c wb wr
  st : StAt wr Z X.a T.m s.P D
  own : ∀ k, Z.has k → B ≤ k ∧ ¬ GoHas X mb vl f k ∧ ¬ E k
section
variable {B mb n : Nat} {X : ArB} {s : ArS} {obs : List Ob} {vl : Value} {f : Int → Value} {adj : Int → List Int} {E E' : Nat → Prop} {T T' : MkB} {c c' : Col} {Z Z' : StB} {D D' : Nat → Bool} {wb wr w' : World}
theorem StIn.ask (h : StIn B mb n X s obs vl f adj E T c Z D wb wr) (hB : Below wr.heap.size wr w') : StIn B mb n X s obs vl f adj E T c Z D wb w' :=
  ⟨h.gm.ask hB, h.st.keep (fun k e => hB.block k (h.st.lt k e)), h.own⟩
/-- A marker's call beside the barrier. -/
theorem StIn.went (h : StIn B mb n X s obs vl f adj E T c Z D wb wr) (hm : T'.m = T.m) (hG : GmIn B mb n X s obs vl f adj (fun k => E k ∨ Z.has k) T' c' wb w') (hk : ∀ k, (E k ∨ Z.has k) → w'.heap[k]? = wr.heap[k]?) :
    StIn B mb n X s obs vl f adj E T' c' Z D wb w' ∧ ∀ k, E k → w'.heap[k]? = wr.heap[k]? :=
  ⟨⟨hG, by rw [hm]; exact h.st.keep (fun k e => hk k (.inr e)), h.own⟩, fun k e => hk k (.inl e)⟩
theorem StIn.watch (h : StIn B mb n X s obs vl f adj E T c Z D wb wr) (hB : Below wr.heap.size wr w') (hE : ∀ k, E' k → E k ∨ (wr.heap.size ≤ k ∧ k < w'.heap.size)) : StIn B mb n X s obs vl f adj E' T c Z D wb w' :=
  ⟨h.gm.watch hB fun k e => by
    rcases e with e | e
    · rcases hE k e with e2 | e2
      · exact .inl (.inl e2)
      · exact .inr e2
    · exact .inl (.inr e), h.st.keep (fun k e => hB.block k (h.st.lt k e)), fun k e => ⟨(h.own k e).1, (h.own k e).2.1, fun e2 => by
    rcases hE k e2 with e3 | e3
    · exact (h.own k e).2.2 e3
    · have := h.st.lt k e; omega⟩⟩
/-- The barrier's own call. -/
theorem StIn.step (h : StIn B mb n X s obs vl f adj E T c Z D wb wr) (hA : StAt w' Z' X.a T.m s.P D') (hS : StStep Z wr Z' w') : StIn B mb n X s obs vl f adj E T c Z' D' wb w' ∧ ∀ k, E k → w'.heap[k]? = wr.heap[k]? := by
  have hs := h.gm.size
  have hnT : ∀ k, T.has k → ¬ Z.has k := fun k e e2 => (h.gm.own k e).2.2 (.inr e2)
  refine ⟨⟨⟨h.gm.go.turned hS.turn (fun k e e2 => (h.own k e2).2.1 e) (fun k hk e => by have := (h.own k e).1; omega), h.gm.mt.turn hS.turn hnT, fun k e => ⟨(h.gm.own k e).1, (h.gm.own k e).2.1, fun e2 => ?_⟩, fun k e => ?_, h.gm.inn, h.gm.ex⟩, hA, fun k e => ?_⟩, fun k e => hS.turn.block k (h.gm.ext k (.inl e)) (fun e2 => (h.own k e2).2.2 e)⟩
  · rcases e2 with e2 | e2
    · exact (h.gm.own k e).2.2 (.inl e2)
    · rcases hS.new k e2 with e3 | e3
      · exact hnT k e e3
      · have := h.gm.mt.lt k e; omega
  · rcases e with e | e
    · exact Nat.lt_of_lt_of_le (h.gm.ext k (.inl e)) hS.turn.size
    · exact hA.lt k e
  · rcases hS.new k e with e2 | e2
    · exact h.own k e2
    · exact ⟨by omega, fun e3 => by have := h.gm.go.lt k e3; omega, fun e3 => by have := h.gm.ext k (.inl e3); omega⟩
/-- The barrier's table beside the arena. -/
theorem StIn.tbl (h : StIn B mb n X s obs vl f adj E T c Z D wb wr) : CardIn B X Z.C s D wb wr :=
  ⟨h.gm.go.ar.at_.toArMem, h.st.cd, h.gm.go.ar.own, fun k e => (h.own k (.inr e)).1, fun k e e2 => (h.own k (.inr e)).2.1 (.inl e2), h.gm.go.ar.below, h.gm.go.ar.base⟩
/-- A call on the table. -/
theorem StIn.turned (h : StIn B mb n X s obs vl f adj E T c Z D wb wr) {C' : CdB} (hC : CdAt w' C' X.a s.P D') (ht : C'.t = Z.C.t) (hn : ∀ k, C'.has k → Z.C.has k ∨ wr.heap.size ≤ k) (hT : Turn Z.C.has wr w') :
    StIn B mb n X s obs vl f adj E T c { Z with C := C' } D' wb w' ∧ ∀ k, E k → w'.heap[k]? = wr.heap[k]? := by
  have hlt := h.st.lt _ (.inl rfl)
  refine h.step ⟨by rw [show ({ Z with C := C' } : StB).C.t = Z.C.t from ht]; exact h.st.head.turn hT h.st.far, hC, fun e => ?_⟩ ⟨rfl, fun k e => ?_, hT.mono fun k _ e => .inr e⟩
  · rcases hn _ e with e2 | e2
    · exact h.st.far e2
    · have e3 : wr.heap.size ≤ Z.t := e2
      omega
  · rcases e with e | e
    · exact .inl (.inl e)
    · rcases hn k e with e2 | e2
      · exact .inl (.inr e2)
      · exact .inr e2
end
end Go.Proofs.YtooddbhlanjfbaaGreatDoor

namespace Go.Proofs.YtooddbhlanjfbaaGreatDoor
open Go Go.RowKit Go.Shelf
set_option linter.unusedSimpArgs false
set_option linter.unusedVariables false
attribute [local go_sem] Oper.semAt_some

section
variable {B mb n : Nat} {X : ArB} {s : ArS} {obs : List Ob} {vl : Value} {f : Int → Value} {adj : Int → List Int} {E E' : Nat → Prop} {T T' : MkB} {c c' : Col} {Z Z' : StB} {D D' : Nat → Bool} {wb wr w' : World}
/-- Dirty, and which blocks of the table are new. -/
theorem cdDirtyN {C : CdB} {S : Nat → Bool} (h : CardIn B X C s S wb wr) (r : Int) (q : Bool) (hq : decide (1 ≤ r ∧ r ≤ 32 * s.P) = q) : Calls Tryz.prog 170 #[.pointer (some ⟨C.t, 0, none⟩), .int .i64 r] wr fun e w' =>
    e = .returned (.bool q) ∧ ∃ lo', CdAt w' (C.with lo') X.a s.P (dirtyS s.P S r) ∧ (lo' = C.lo ∨ C.lo = none ∧ ∃ l, lo' = some l ∧ wr.heap.size ≤ l) ∧ Turn C.has wr w' := by
  have c0 := h.cd.c0
  have c1 := h.cd.c1
  have hp := h.ar.p64
  by_cases hr : 1 ≤ r ∧ r ≤ 32 * s.P
  · rw [decide_eq_true hr] at hq
    subst hq
    obtain ⟨n, rfl⟩ : ∃ n : Nat, r = n := ⟨r.toNat, by omega⟩
    have cP := page_yes h.ar n (by omega) (by omega)
    have hpg : pg n < s.P := by unfold pg; omega
    have hpgI : ¬ ((pg n : Nat) : Int) < 0 := by omega
    have cS := put_x C.b C.lo s.P S ((pg n : Nat) : Int) wr h.cd.set
    have hSS : putS s.P S ((pg n : Nat) : Int) = dirtyS s.P S (n : Int) := by
      unfold dirtyS
      rw [if_pos hr]
      funext j
      unfold putS may
      rw [decide_eq_true (by omega : (0 : Int) ≤ ((pg n : Nat) : Int)), decide_eq_true (by omega : ((pg n : Nat) : Int) < (s.P : Int)), Int.toNat_natCast, Int.toNat_natCast]
      unfold pg
      simp
    rw [hSS] at cS
    clear hSS hpg
    go_enter Tryz.func170, Tryz.ntmps170
    go_wp2_with fail
    refine cP.mono ?_
    rintro e w1 ⟨rfl, rfl⟩
    clear cP
    go_wp2_with fail
    refine cS.mono ?_
    rintro e w2 ⟨lo', rfl, hS, hlo, hT⟩
    clear cS
    go_wp2_with fail
    go_ret
    exact ⟨rfl, lo', (h.step hS hlo hT).1.cd, hlo, (h.step hS hlo hT).2⟩
  · rw [decide_eq_false hr] at hq
    subst hq
    have cP := page_no h.ar r hr
    have e1 : dirtyS s.P S r = S := by unfold dirtyS; rw [if_neg hr]
    rw [e1]
    clear e1 hr
    go_enter Tryz.func170, Tryz.ntmps170
    go_wp2_with fail
    refine cP.mono ?_
    rintro e w1 ⟨rfl, rfl⟩
    clear cP
    go_wp2_with fail
    go_ret
    exact ⟨rfl, C.lo, h.cd, .inl rfl, Turn.refl _ _⟩
theorem with_new {C : CdB} {lo' : Option Nat} {w : World} (hlo : lo' = C.lo ∨ C.lo = none ∧ ∃ l, lo' = some l ∧ w.heap.size ≤ l) : ∀ k, (C.with lo').has k → C.has k ∨ w.heap.size ≤ k := by
  rintro k (e | e | e)
  · exact .inl (.inl e)
  · exact .inl (.inr (.inl e))
  · rcases hlo with e2 | ⟨_, l, e2, hl⟩
    · exact .inl (.inr (.inr (e2 ▸ e)))
    · have e3 : lo' = some k := e
      rw [e2] at e3
      cases e3
      exact .inr hl
theorem st_new (h : GmIn B mb n X s obs vl f adj E T c wb wr) : Calls Tryz.prog 24 #[.pointer (some ⟨T.m, 0, none⟩)] wr fun e w' =>
    ∃ Z : StB, e = .returned (.pointer (some ⟨Z.t, 0, none⟩)) ∧ StIn B mb n X s obs vl f adj E T c Z (fun _ => false) wb w' ∧ Below wr.heap.size wr w' := by
  have cA := mkArena h.mt
  have cN := cdNew h.go.ar.at_.toArMem h.go.ar.own h.go.ar.below h.go.ar.base
  go_enter Tryz.func24, Tryz.ntmps24
  go_wp2_with fail
  refine cA.mono ?_
  rintro e w1 ⟨rfl, rfl⟩
  clear cA
  go_wp2_with fail
  refine cN.mono ?_
  rintro e w2 ⟨C, rfl, hC, hCn, hB2⟩
  clear cN
  go_wp2_with fail
  go_ret
  have hB3 := (Below.refl w2.heap.size w2).alloc (Nat.le_refl _) (.cells #[.pointer (some ⟨T.m, 0, none⟩), .pointer (some ⟨C.t, 0, none⟩)] 100)
  have hB := below_step hB2 hB3
  have hlt := hC.cd.lt
  have hs2 := hB2.size
  have hsz := h.size
  have hnew : ∀ k, StB.has ⟨w2.heap.size, C⟩ k → wr.heap.size ≤ k ∧ k < (w2.alloc (.cells #[.pointer (some ⟨T.m, 0, none⟩), .pointer (some ⟨C.t, 0, none⟩)] 100)).heap.size := by
    rintro k (e | e)
    · have e2 : k = w2.heap.size := e
      simp; omega
    · have h1 := hlt k e
      have h2 := hCn k e
      simp; omega
  refine ⟨⟨w2.heap.size, C⟩, rfl, ⟨h.watch hB (fun k e => ?_), ⟨Blk.new w2 _ _, hC.cd.turn (Turn.ofBelow hB3) (fun k hk e => by have := hlt k hk; omega), fun e => by have := hlt _ e; exact Nat.lt_irrefl _ this⟩, fun k e => ⟨by have := (hnew k e).1; omega, fun e2 => by have := (hnew k e).1; have := h.go.lt k e2; omega, fun e2 => by have := (hnew k e).1; have := h.ext k e2; omega⟩⟩, hB⟩
  rcases e with e | e
  · exact .inl e
  · exact .inr (hnew k e)
theorem StIn.pre (h : StIn B mb n X s obs vl f adj E T c Z D wb wr) (a b : Int) : Calls Tryz.prog 166 #[.pointer (some ⟨Z.t, 0, none⟩), .int .i64 a, .int .i64 b] wr fun e w' => e = .returned (.tuple #[]) ∧ wr = w' := by
  go_enter Tryz.func166, Tryz.ntmps166
  go_wp2_with fail
  refine bodyPost_end (results_none rfl _ _ _) rfl ?_
  exact ⟨rfl, rfl⟩
theorem StIn.rescans (h : StIn B mb n X s obs vl f adj E T c Z D wb wr) : Calls Tryz.prog 168 #[.pointer (some ⟨Z.t, 0, none⟩)] wr fun e w' => e = .returned (.bool true) ∧ wr = w' := by
  go_enter Tryz.func168, Tryz.ntmps168
  go_wp2_with fail
  go_ret
  exact ⟨rfl, rfl⟩
theorem StIn.reset (h : StIn B mb n X s obs vl f adj E T c Z D wb wr) : Calls Tryz.prog 169 #[.pointer (some ⟨Z.t, 0, none⟩)] wr fun e w' =>
    e = .returned (.tuple #[]) ∧ StIn B mb n X s obs vl f adj E T c Z (fun _ => false) wb w' ∧ ∀ k, E k → w'.heap[k]? = wr.heap[k]? := by
  have c1 := h.st.head.cell 1
  simp only [List.getElem?_toArray, List.getElem?_cons_zero, List.getElem?_cons_succ] at c1
  have cC := h.tbl.clean
  go_enter Tryz.func169, Tryz.ntmps169
  go_wp2_with fail
  refine cC.mono ?_
  rintro e w1 ⟨rfl, hC, hT⟩
  clear cC
  go_wp2_with fail
  refine bodyPost_end (results_none rfl _ _ _) rfl ?_
  exact ⟨rfl, h.turned hC.cd rfl (fun k e => .inl e) hT⟩
/-- A write is told. -/
theorem StIn.post (h : StIn B mb n X s obs vl f adj E T c Z D wb wr) (a b d : Int) (p q : Bool) : Calls Tryz.prog 165 #[.pointer (some ⟨Z.t, 0, none⟩), .agg #[.int .i64 a, .int .i64 b, .int .i64 d, .bool p, .bool q]] wr fun e w' =>
    e = .returned (.tuple #[]) ∧ ∃ Z', Z'.t = Z.t ∧ StIn B mb n X s obs vl f adj E T c Z' (dirtyS s.P D a) wb w' ∧ ∀ k, E k → w'.heap[k]? = wr.heap[k]? := by
  have hB1 := (Below.refl wr.heap.size wr).alloc (Nat.le_refl _) (.cells #[.int .i64 a, .int .i64 b, .int .i64 d, .bool p, .bool q] 67)
  have hb := Blk.new wr #[.int .i64 a, .int .i64 b, .int .i64 d, .bool p, .bool q] 67
  have h1 := h.ask hB1
  have hD := h1.ask (Below.refl _ _).drew
  have c1 := h1.st.head.cell 1
  have c0 := hb.cell 0
  simp only [List.getElem?_toArray, List.getElem?_cons_zero, List.getElem?_cons_succ] at c1 c0
  have cC := cdDirtyN hD.tbl a _ rfl
  generalize decide (1 ≤ a ∧ a ≤ 32 * (s.P : Int)) = qq at cC
  have HD := Lib.hid hD
  have hsz : wr.heap.size < (wr.alloc (.cells #[.int .i64 a, .int .i64 b, .int .i64 d, .bool p, .bool q] 67)).heap.size := by simp
  clear hb h1 hD
  go_enter Tryz.func165, Tryz.ntmps165
  go_wp2_with fail
  go_region_held3 (fun w' => w'.cell? ⟨Z.t, 1, none⟩ = some (.pointer (some ⟨Z.C.t, 0, none⟩)) ∧ w'.cell? ⟨wr.heap.size, 0, none⟩ = some (.int .i64 a)) (first | exact hS9 | exact ⟨c1, c0⟩)
    (first
      | (go_at_call 170; refine cC.mono ?_; rintro e w2 ⟨rfl, lo', hC, hlo, hT⟩; obtain ⟨hS, hE⟩ := HD.out.turned hC rfl (with_new hlo) hT; have hS9 : w2.cell? ⟨Z.t, 1, none⟩ = some (.pointer (some ⟨Z.C.t, 0, none⟩)) ∧ w2.cell? ⟨wr.heap.size, 0, none⟩ = some (.int .i64 a) := ⟨hS.st.head.cell 1, (hT.cell (a := ⟨wr.heap.size, 0, none⟩) hsz (fun e => by have h2 := h.st.lt _ (.inr e); simp only at h2; omega)).trans c0⟩))
  all_goals
    go_wp2_with fail
    refine bodyPost_end (results_none rfl _ _ _) rfl ?_
    exact ⟨rfl, ⟨Z.t, Z.C.with lo'⟩, rfl, hS, fun k e => (hE k e).trans (hB1.block k (h.gm.ext k (.inl e)))⟩
end
end Go.Proofs.YtooddbhlanjfbaaGreatDoor

namespace Go.Proofs.YtooddbhlanjfbaaGreatDoor
open Go Go.RowKit Go.Shelf
set_option linter.unusedSimpArgs false
set_option linter.unusedVariables false

/-- Does it lie in a dirty page? -/
def remD (D : Nat → Bool) (x : Int) : Bool := decide (1 ≤ x) && D (pg x.toNat)
/-- Behind a remark: what was black in dirty pages is grey. -/
def Col.rem (c : Col) (D : Nat → Bool) : Col := ⟨c.ma, fun x => c.sc x && !remD D x⟩
theorem Col.rem_none (c : Col) : c.rem (fun _ => false) = c := by
  unfold Col.rem remD; simp
theorem Bl.ext {l m : List Int} {c : Col} (h : Bl l c) (hm : ∀ x, x ∈ l ↔ x ∈ m) : Bl m c := ⟨fun x => (h.ma x).trans (hm x), fun x => (h.sc x).trans (hm x)⟩
section
variable {P : Int → List Int} {c c' : Col} {l R : List Int}
theorem Scans.sc_iff (h : Scans P c l c') : ∀ x, c'.sc x = true ↔ c.sc x = true ∨ x ∈ l := by
  induction h with
  | nil c => intro x; simp
  | @cons c c' x l h1 h2 _ ih =>
    intro y
    rw [ih y]
    have e : (c.scan P x).sc y = updI c.sc x true y := rfl
    rw [e]
    by_cases hy : y = x
    · subst hy; rw [updI_at]; simp
    · rw [updI_ne hy]; simp [hy]
/-- Where all are marked, a trace to the end scans just the grey ones. -/
theorem Scans.greys (h : Scans P c l c') (hd : c'.dry) (hn : R.Nodup) (hall : ∀ x ∈ R, c.ma x = true) (hin : ∀ x, c'.ma x = true → x ∈ R) : l.length = (R.filter fun x => !c.sc x).length := by
  obtain ⟨h1, h2, h3⟩ := h.once
  refine same_length h1 (hn.filter _) fun x => ?_
  rw [List.mem_filter]
  constructor
  · intro hx
    obtain ⟨e1, e2⟩ := h2 x hx
    exact ⟨hin x e2, by rw [e1]; rfl⟩
  · rintro ⟨hx, hs⟩
    rcases (h.sc_iff x).1 (hd x (h3 x (hall x hx))) with e | e
    · rw [e] at hs; cases hs
    · exact e
end
/-- How many of the first are so. -/
def cntF (p : Int → Bool) (R : List Int) (i : Nat) : Nat := (R.take i).countP p
theorem cntF_yes {p : Int → Bool} {R : List Int} {i : Nat} {x : Int} (hx : R[i]? = some x) (h : p x = true) : cntF p R (i + 1) = cntF p R i + 1 := by
  unfold cntF
  rw [List.take_add_one, hx, List.countP_append]; simp [h]
theorem cntF_no {p : Int → Bool} {R : List Int} {i : Nat} {x : Int} (hx : R[i]? = some x) (h : p x = false) : cntF p R (i + 1) = cntF p R i := by
  unfold cntF
  rw [List.take_add_one, hx, List.countP_append]; simp [h]
theorem cntF_le (p : Int → Bool) (R : List Int) (i : Nat) : cntF p R i ≤ i := by
  unfold cntF
  have h1 := List.countP_le_length (p := p) (l := R.take i)
  have h2 := List.length_take_le i R
  omega
theorem cntF_all (p : Int → Bool) (R : List Int) : cntF p R R.length = (R.filter p).length := by
  unfold cntF
  rw [List.take_length, List.countP_eq_length_filter]
end Go.Proofs.YtooddbhlanjfbaaGreatDoor

namespace Go.Proofs.YtooddbhlanjfbaaGreatDoor
open Go Go.RowKit
/-- What of a list was black is grey. -/
def Col.dim (c : Col) (l : List Int) : Col := ⟨c.ma, fun x => c.sc x && !decide (x ∈ l)⟩
theorem Col.dim_nil (c : Col) : c.dim [] = c := by unfold Col.dim; simp
theorem Col.dim_regrey (c : Col) (l : List Int) (x : Int) : (c.dim l).regrey x = c.dim (l ++ [x]) := by
  unfold Col.dim Col.regrey
  congr 1
  funext y
  by_cases e : y = x
  · subst e; rw [updI_at]; simp
  · rw [updI_ne e]; simp [e]
/-- The taken cells of a page, as Cells tells them. -/
def cellsOf (S : Nat → Bool) (p : Nat) : List Int := (elems (inPage S p) 32).map fun j => ((32 * p + j + 1 : Nat) : Int)
theorem mem_cellsOf {S : Nat → Bool} {p m : Nat} (h1 : 1 ≤ m) (hS : S m = true) : ((m : Int) ∈ cellsOf S p) ↔ pg m = p := by
  unfold cellsOf elems
  simp only [List.mem_map, List.mem_filter, List.mem_range]
  have hpg : pg m = (m - 1) / 32 := rfl
  constructor
  · rintro ⟨j, ⟨hj, _⟩, e⟩
    have e2 : 32 * p + j + 1 = m := by exact_mod_cast e
    omega
  · intro e
    have e2 : 32 * p + (m - 1) % 32 + 1 = m := by omega
    refine ⟨(m - 1) % 32, ⟨Nat.mod_lt _ (by decide), ?_⟩, by rw [e2]⟩
    unfold inPage
    rw [e2]; exact hS
/-- One page more. -/
theorem Col.rem_page {c : Col} {S D : Nat → Bool} {p : Nat} (h : ∀ x, c.sc x = true → ∃ m : Nat, x = (m : Int) ∧ 1 ≤ m ∧ S m = true) : (c.rem D).dim (cellsOf S p) = c.rem (fun q => D q || decide (q = p)) := by
  unfold Col.dim Col.rem
  congr 1
  funext x
  show (c.sc x && !remD D x && !decide (x ∈ cellsOf S p)) = (c.sc x && !remD _ x)
  cases hx : c.sc x with
  | false => rfl
  | true =>
    obtain ⟨m, rfl, h1, hm⟩ := h x hx
    unfold remD
    have h1I : (1 : Int) ≤ (m : Int) := by omega
    rw [decide_eq_true h1I, Int.toNat_natCast]
    show _ = (true && !(true && (D (pg m) || decide (pg m = p))))
    by_cases e : pg m = p
    · rw [decide_eq_true ((mem_cellsOf h1 hm).2 e), decide_eq_true e]; simp
    · rw [decide_eq_false (fun e2 => e ((mem_cellsOf h1 hm).1 e2)), decide_eq_false e]; simp
/-- Pages told in a list. -/
theorem Col.rem_list (c : Col) (l : List Nat) (p : Nat) : c.rem (fun q => decide (q ∈ l) || decide (q = p)) = c.rem (fun q => decide (q ∈ l ++ [p])) := by
  congr 1
  funext q
  simp
end Go.Proofs.YtooddbhlanjfbaaGreatDoor
