/- ArenaCells, walked, at this seat's numbers. -/
import Derived.Test.YtlloanoohphgcaaDoorArSa
import Derived.Test.YtlloanoohphgcaaDoorArCs
import Derived.Test.YtlloanoohphgcaaDoorGrow
namespace Go.Proofs.YtlloanoohphgcaaDoor
open Go Go.RowKit Go.Shelf Go.MuLone Go.RwLone Go.Maps
set_option linter.unusedSimpArgs false
set_option linter.unusedVariables false
attribute [local go_sem] Oper.semAt_some

theorem elems_part {S : Nat → Bool} (p : Nat) : ∀ j, elems S (32 * p + 1 + j) = elems S (32 * p + 1) ++ (elems (inPage S p) j).map (fun k => 32 * p + k + 1)
  | 0 => by simp [elems]
  | j + 1 => by
    have ih := elems_part (S := S) p j
    rw [show 32 * p + 1 + (j + 1) = (32 * p + 1 + j) + 1 by omega]
    cases h : S (32 * p + 1 + j) with
    | true =>
      rw [elems_yes h, elems_yes (T := inPage S p) (by show S (32 * p + j + 1) = true; rw [show 32 * p + j + 1 = 32 * p + 1 + j by omega]; exact h), ih, List.map_append, List.append_assoc]
      simp; omega
    | false =>
      rw [elems_no h, elems_no (T := inPage S p) (by show S (32 * p + j + 1) = false; rw [show 32 * p + j + 1 = 32 * p + 1 + j by omega]; exact h), ih]
theorem elems_page {S : Nat → Bool} (p : Nat) : elems S (32 * (p + 1) + 1) = elems S (32 * p + 1) ++ (elems (inPage S p) 32).map (fun k => 32 * p + k + 1) := by
  rw [← elems_part p 32]
  congr 1
def pgRefs {S : Nat → Bool} {p : Nat} (q : List (InPg S p)) : List Nat := q.map fun x => 32 * p + x.1.val + 1
theorem pgRefs_all {S : Nat → Bool} {p : Nat} {q : List (InPg S p)} (h : pgVals q = elems (inPage S p) 32) : elems S (32 * (p + 1) + 1) = elems S (32 * p + 1) ++ pgRefs q := by
  rw [elems_page, ← h]
  unfold pgRefs pgVals
  rw [List.map_map]
  rfl
theorem S_zero1 {s : ArS} (hF : Fits s) : s.S 0 = false := by
  cases h : s.S 0 with
  | false => rfl
  | true => exact absurd (hF.at_ 0 h).1 (by omega)
theorem refs_slice {B : Nat} {w : World} {v : Value} {l : List Nat} {r : Nat} (h : RefsIn B w v (l ++ [r])) : ∃ g ln cp, v = .slice (some ⟨g, 0, none⟩) ln cp := by
  rcases h.is with ⟨_, e⟩ | ⟨g, cp, cur, e, _⟩
  · exact absurd e (by simp)
  · exact ⟨g, _, cp, e⟩
/-- A piece of code that always ends alike. -/
theorem wpIn_mid {F : Fence} {n : Nat} {P : Program} {c : Code} {Q : Exit → Act → World → Prop} {a : Act} {w : World} (w1 : World) {A : Act} (h : c.wpIn F n P (fun e a' w' => e = .normal ∧ a' = A ∧ w' = w1) a w) (hq : Q .normal A w1) : c.wpIn F n P Q a w :=
  wpIn_mono h fun e a' w' ⟨h1, h2, h3⟩ => by subst h1 h2 h3; exact hq
theorem KeepsOthers.ofTurn {M : Nat → Prop} {w w' : World} (h : Turn M w w') (hM : ∀ k o, M k → w.heap[k]? = some o → o.isCells = true) : KeepsOthers w w' :=
  ⟨h.size, fun k o ho hc => (h.block k (Array.getElem?_eq_some_iff.1 ho).1 (fun hm => by rw [hM k o hm ho] at hc; cases hc)).trans ho⟩

/-- Between two calls. -/
def CsRel (B : Nat) (X : ArB) (Y : MdB) (ba : Nat) (wb : World) (len : Nat) (v : Value) (wr : World) : Prop :=
  ∃ (i : Nat) (lo : Option Nat) (s : ArS), i ≤ len ∧ v = .int .i64 (i : Int) ∧ s.P = 3 ∧ TwoAt B (X.with lo) Y s s wb wr ∧ Blk wr ba #[.pointer (some ⟨X.a, 0, none⟩)] 24
/-- The list so far, in its box. -/
structure Gath (B : Nat) (X : ArB) (Y : MdB) (s : ArS) (ba bl hi : Nat) (ds : List Deferred) (l : List Nat) (wb W : World) : Prop where
  two : TwoAt B X Y s s wb W
  box : Blk W ba #[.pointer (some ⟨X.a, 0, none⟩)] 24
  list : ∃ v, Blk W bl #[v] 54 ∧ RefsIn B W v l
  far : B ≤ bl
  marks : Marks B hi ds W
  his : hi ≤ W.heap.size
section
variable {B : Nat} {X : ArB} {Y : MdB} {s : ArS} {ba bl hi : Nat} {ds : List Deferred} {l : List Nat} {wb W W' : World}
theorem Gath.grown (h : Gath B X Y s ba bl hi ds l wb W) (n0 : Nat) (hn : hi ≤ n0) (hB : B ≤ n0) (hY : ∀ k, Y.has k → k < n0) {row : Option Nat} (hg : W.grownBy W' row) (hr : ∀ r, row = some r → n0 ≤ r ∧ ∃ o : Obj, W.heap[r]? = some o ∧ o.isCells = false) : Gath B X Y s ba bl hi ds l wb W' := by
  obtain ⟨v, hb, hv⟩ := h.list
  refine ⟨h.two.far hg (fun r e => ⟨by have := (hr r e).1; omega, (hr r e).2⟩) (fun r e hk => by have := (hr r e).1; have := hY r hk; omega), h.box.kept hg (fun r e => (hr r e).2), ⟨v, hb.kept hg (fun r e => (hr r e).2), ?_⟩, h.far,
    h.marks.keep fun k h0 h1 h2 => (hg.block k (by have := h.his; omega) (fun e => by have := (hr k e.symm).1; omega)).trans h2, Nat.le_trans h.his hg.size⟩
  refine hv.turn (M := fun k => row = some k) ⟨hg.os, hg.tape, hg.output, hg.size, fun k hk hn => hg.block k hk (fun e => hn e.symm)⟩ (fun g cur hgb e => ?_)
  obtain ⟨_, o, ho, hc⟩ := hr g e
  unfold Blk at hgb
  rw [hgb] at ho; cases ho; cases hc
theorem Gath.ask (h : Gath B X Y s ba bl hi ds l wb W) (hBl : Below W.heap.size W W') : Gath B X Y s ba bl hi ds l wb W' := by
  obtain ⟨v, hb, hv⟩ := h.list
  exact ⟨h.two.ask hBl, h.box.below hBl, ⟨v, hb.below hBl, hv.below hBl⟩, h.far, h.marks.keep fun k h0 h1 h2 => (hBl.block k (by have := h.his; omega)).trans h2, Nat.le_trans h.his hBl.size⟩
theorem Gath.alloc (h : Gath B X Y s ba bl hi ds l wb W) (o : Obj) : Gath B X Y s ba bl hi ds l wb (W.alloc o) := h.ask ((Below.refl _ W).alloc (Nat.le_refl _) o)
theorem Gath.drew (h : Gath B X Y s ba bl hi ds l wb W) : Gath B X Y s ba bl hi ds l wb W.drew := h.ask (Below.refl _ W).drew
theorem Gath.push (h : Gath B X Y s ba bl hi ds l wb W) {v v' : Value} {r : Nat} {W1 w5 : World} (hb1 : Below W.heap.size W W1) (hb : Blk W bl #[v] 54) (hv : RefsIn B W v l) (hL : ListIn B X s v' (l ++ [r]) wb w5) (ht : Turn (fun k => v.ownBlock = some k) W1 w5) :
    Gath B X Y s ba bl hi ds (l ++ [r]) wb (w5.setCell ⟨bl, 0, none⟩ v') ∧ Turn (fun k => k = bl ∨ v.ownBlock = some k) W (w5.setCell ⟨bl, 0, none⟩ v') ∧ KeepsOthers W (w5.setCell ⟨bl, 0, none⟩ v') ∧ Blk (w5.setCell ⟨bl, 0, none⟩ v') bl #[v'] 54 := by
  have hown : ∀ k, v.ownBlock = some k → ∃ cur, Blk W k cur 30 := fun k hk => (hv.own hk).2
  have t1 : Turn (fun k => k = bl ∨ v.ownBlock = some k) W w5 := (⟨hb1.os, hb1.tape, hb1.output, hb1.size, fun k hk _ => hb1.block k hk⟩ : Turn (fun k => k = bl ∨ v.ownBlock = some k) W W1).trans ht (fun i _ hi => .inr hi)
  have t2 : Turn (fun k => k = bl ∨ v.ownBlock = some k) W (w5.setCell ⟨bl, 0, none⟩ v') := t1.set _ _ (.inr (.inl rfl))
  have t3 : Turn (fun k => k = bl) w5 (w5.setCell ⟨bl, 0, none⟩ v') := (Turn.refl (fun k => k = bl) w5).set _ _ (.inr rfl)
  have hnb : ¬ v.ownBlock = some bl := fun e => by
    obtain ⟨cur, hc⟩ := hown _ e
    exact blk_types hb hc (by decide)
  have hb5 : Blk w5 bl #[v] 54 := (hb.below hb1).turn ht hnb
  have hb6 : Blk (w5.setCell ⟨bl, 0, none⟩ v') bl #[v'] 54 := (hb5.setAt 0 v').is (by simp)
  have hM : ∀ k o', (k = bl ∨ v.ownBlock = some k) → W.heap[k]? = some o' → o'.isCells = true := by
    rintro k o' (rfl | e) ho
    · unfold Blk at hb; rw [hb] at ho; cases ho; rfl
    · obtain ⟨cur, hc⟩ := hown _ e
      unfold Blk at hc; rw [hc] at ho; cases ho; rfl
  refine ⟨⟨⟨hL.ar.turned t3 (fun k hk e => ?_) (fun k hk e => ?_), h.two.md.turn t2 (fun k hk e => ?_), h.two.own, h.two.sep⟩, h.box.turn t2 ?_, ⟨v', hb6, hL.refs.turn t3 (fun g cur hg e => ?_)⟩, h.far, h.marks.keep fun k h0 h1 h2 => ?_, ?_⟩, t2, KeepsOthers.ofTurn t2 hM, hb6⟩
  · have e2 : k = bl := e
    subst e2; exact hL.ar.at_.far hb5 (by decide) (by decide) (by decide) (by decide) hk
  · have e2 : k = bl := e
    have := h.far
    omega
  · rcases e with rfl | e
    · exact h.two.md.far hb (by decide) hk
    · obtain ⟨cur, hc⟩ := hown _ e
      exact h.two.md.far hc (by decide) hk
  · rintro (e | e)
    · have hbx := h.box
      rw [e] at hbx
      exact blk_types hbx hb (by decide)
    · obtain ⟨cur, hc⟩ := hown _ e
      exact blk_types h.box hc (by decide)
  · have e2 : g = bl := e
    subst e2; exact blk_types hb5 hg (by decide)
  · refine (t2.block k (by have := h.his; omega) (fun e => ?_)).trans h2
    have := hM k _ e h2
    cases this
  · have := t2.size; have := h.his; omega
theorem Gath.beside (h : Gath B X Y s ba bl hi ds l wb W) {b0 : Nat} {cs : Array Value} (hbx : Blk W b0 cs 3) (hX : ∀ k, X.has k → k < b0) (hY : ∀ k, Y.has k → k < b0) (hB : B ≤ b0) (hh : hi ≤ b0) (hT : Turn (fun k => k = b0) W W') : Gath B X Y s ba bl hi ds l wb W' := by
  obtain ⟨v, hb, hv⟩ := h.list
  refine ⟨⟨h.two.ar.turned hT (fun k hk e => by have := hX k hk; omega) (fun k hk e => by omega), h.two.md.turn hT (fun k hk e => by have := hY k hk; omega), h.two.own, h.two.sep⟩,
    h.box.turn hT (fun e => ?_), ⟨v, hb.turn hT (fun e => ?_), hv.turn hT (fun g cur hg e => ?_)⟩, h.far, h.marks.keep fun k h0 h1 h2 => (hT.block k (by have := h.his; omega) (fun e => by have e2 : k = b0 := e; omega)).trans h2, Nat.le_trans h.his hT.size⟩
  · have e2 : ba = b0 := e
    subst e2; exact blk_types h.box hbx (by decide)
  · have e2 : bl = b0 := e
    subst e2; exact blk_types hb hbx (by decide)
  · have e2 : g = b0 := e
    subst e2; exact blk_types hg hbx (by decide)
theorem Gath.marked (h : Gath B X Y s ba bl hi ds l wb W) {D : Nat} (hD : hi ≤ D) (hB : B ≤ D) (hK : W.heap[D]? = some (.deferred (some []))) : Gath B X Y s ba bl (D + 1) ({ target := .collected D, args := #[] } :: ds) l wb W :=
  ⟨h.two, h.box, h.list, h.far, (h.marks.mono hD).push hB (by omega) hK, (Array.getElem?_eq_some_iff.mp hK).1⟩
end
/-- However a range ends, it goes on alike. -/
theorem wpIn_ends {F : Fence} {n : Nat} {P : Program} {c : Code} {Q : Exit → Act → World → Prop} {a : Act} {w : World} (id : Nat) (R : Nat → World → Prop)
    (h : c.wpIn F n P (fun e a' w' => (e = .normal ∨ e = .exit id) ∧ ∃ D, a' = { a with defers := { target := .collected D, args := #[] } :: a.defers } ∧ R D w') a w)
    (hq : ∀ a' w', Q .normal a' w' → Q (.exit id) a' w') (hk : ∀ D w', R D w' → Q .normal { a with defers := { target := .collected D, args := #[] } :: a.defers } w') : c.wpIn F n P Q a w :=
  wpIn_mono h fun e a' w' ⟨he, D, ha, hR⟩ => by
    subst ha
    rcases he with rfl | rfl
    · exact hk D w' hR
    · exact hq _ _ (hk D w' hR)
/-- The iterator over the cells of a page that there is not: no round comes. -/
theorem cells_stops_none (n : Nat) {X : ArB} {s : ArS} (B : Nat) (p : Int) (hp : ¬ (0 ≤ p ∧ p < s.P)) (w : World) (hA : ArMem w X s) (hB0 : w.cell? ⟨B, 0, none⟩ = some (.pointer (some ⟨X.a, 0, none⟩))) (hB1 : w.cell? ⟨B + 1, 0, none⟩ = some (.int .i64 p)) :
    SeqStopsK Fence.wide n Tryd.prog 61 #[.pointer (some ⟨B, 0, none⟩), .pointer (some ⟨B + 1, 0, none⟩)] (cellArgs 0) (KpAr X B)
      (fun xs => xs = []) (fun _ => False) 0 w := fun l J Jx W hW hJa hJx _ h0 => by
  replace hA := hA.below hW
  replace hB0 := (hW.cell (p := ⟨B, 0, none⟩) (World.block_lt_of_cell? w _ hB0)).trans hB0
  replace hB1 := (hW.cell (p := ⟨B + 1, 0, none⟩) (World.block_lt_of_cell? w _ hB1)).trans hB1
  refine callsIn_of_wp Tryd.func61 rfl (by trivial) ?_ rfl
  simp only [Tryd.ntmps61, List.size_toArray, List.length_cons, List.length_nil, Nat.reduceAdd, Nat.reduceSub, Array.replicate_succ, Array.replicate_zero, List.push_toArray, List.append_toArray, List.nil_append, List.cons_append]
  have cK := knowsP_any hA p
  rw [decide_eq_false hp] at cK
  gi_wp2_with fail
  refine ⟨trivial, fun h => (by cases h), ?_⟩
  refine (callsIn_wide.2 cK).mono ?_
  rintro e w' ⟨rfl, rfl⟩
  clear cK
  gi_wp2_with fail
  refine bodyPost_ret (results_none rfl _ _ _) rfl ?_
  exact ⟨⟨_, rfl⟩, .inl ⟨[], rfl, h0⟩⟩
/-- A range that tells nothing. -/
theorem gath_none (n : Nat) (hn : 1 ≤ n) {g : Operand} {ps : Array Tmp} {body : Code} {Q : Exit → Act → World → Prop} {a : Act} {V : World} {B : Nat} {X : ArB} {Y : MdB} {s : ArS} {ba bl hi : Nat} {ds : List Deferred} {l : List Nat} {wb : World} (hG : Gath B X Y s ba bl hi ds l wb V)
    (s0 : Nat) (p : Int) (hp : ¬ (0 ≤ p ∧ p < s.P)) (hg : a.eval g = .func (.func 61) #[] #[.pointer (some ⟨s0, 0, none⟩), .pointer (some ⟨s0 + 1, 0, none⟩)]) (hps : ps.size = 1)
    (b0 : V.cell? ⟨s0, 0, none⟩ = some (.pointer (some ⟨X.a, 0, none⟩))) (b1 : V.cell? ⟨s0 + 1, 0, none⟩ = some (.int .i64 p))
    (hQ : ∀ D V', V.heap.size ≤ D → Gath B X Y s ba bl (D + 1) ({ target := .collected D, args := #[] } :: ds) l wb V' → Q .normal { a with defers := { target := .collected D, args := #[] } :: a.defers } V') :
    (Code.rangeFunc g ps .skip body).wpIn Fence.wide n Tryd.prog Q a V := by
  have hXlt := hG.two.ar.at_.lt
  have hYlt := hG.two.md.lt
  have hsB := hG.two.ar.size
  have hhi := hG.his
  have l0 := World.block_lt_of_cell? V _ b0
  have l1 := World.block_lt_of_cell? V _ b1
  simp only at l0 l1
  refine wpIn_rangeFunc_ownF rfl hn (gf := 61) (lb := #[.pointer (some ⟨s0, 0, none⟩), .pointer (some ⟨s0 + 1, 0, none⟩)]) hg trivial (enters_of Tryd.func61 (by kernel_rfl) rfl)
    (cells_stops_none (X := X) (s := s) (n - 1) s0 p hp V hG.two.ar.at_.toArMem b0 b1) KpAr.trans (fun W l o o' hl _ _ _ => KpAr.putObj (n0 := V.heap.size) (fun k hk => by have := hXlt k hk; omega) (by omega) W l o' hl) (Below.refl _ _) (fun _ => hps.symm)
    (fun _ W => Gath B X Y s ba bl hi ds l wb W) (fun _ _ _ => False)
    (fun pre W W' row hs hg hr => hs.grown V.heap.size hhi hsB hYlt hg hr)
    (fun _ _ _ _ _ hs _ _ => hs) hG (fun x => { tmps := (ps.zip (cellArgs 0 x)).foldl (fun t (p, v) => t.setIfInBounds p v) a.tmps, defers := [] }) ?assign ?body ?done ?stop
  case assign =>
    intro l0 x W K hK
    exact wpIn_skip hK
  case body =>
    rintro l0 pre x W _ hlen
    exact absurd hlen (Nat.not_lt_zero _)
  case done =>
    rintro D xs W hD _ hs hK
    exact hQ D W hD (hs.marked (by omega) (by omega) hK)
  case stop =>
    rintro D c pre W hD _ hs _
    exact hs.elim
theorem elems_lt {S : Nat → Bool} {n : Nat} {i j : Nat} (hij : i < j) {x y : Nat} (hx : (elems S n)[i]? = some x) (hy : (elems S n)[j]? = some y) : x < y := by
  have hp : (elems S n).Pairwise (· < ·) := List.Pairwise.filter _ List.pairwise_lt_range
  obtain ⟨h1, rfl⟩ := List.getElem?_eq_some_iff.1 hx
  obtain ⟨h2, rfl⟩ := List.getElem?_eq_some_iff.1 hy
  exact List.pairwise_iff_getElem.1 hp i j h1 h2 hij
theorem elems_pre {S : Nat → Bool} {n m : Nat} (h : n ≤ m) {i : Nat} {x : Nat} (hx : (elems S n)[i]? = some x) : (elems S m)[i]? = some x := by
  obtain ⟨d, rfl⟩ := Nat.exists_eq_add_of_le h
  have e : elems S (n + d) = elems S n ++ ((List.range d).map (n + ·)).filter S := by
    unfold elems; rw [List.range_add, List.filter_append]
  rw [e, List.getElem?_append_left (List.getElem?_eq_some_iff.1 hx).1]
  exact hx

set_option maxRecDepth 100000 in
set_option maxHeartbeats 16000000 in
theorem cells_true (a0 : Option Addr) (len cap : Nat) (K N : Nat → Int) (lv : Nat) (hlv : lv < 256) (w : World) (_ : len ≤ 9223372036854775807) (hC : CallsAt w a0 len K N) (hTab : TabAt w) (hT : TableAt w) :
    Calls Tryd.prog 6 #[.slice a0 len cap, .int .u8 (lv : Int)] w fun e w' => e = .returned (.bool true) ∧ Below w.heap.size w w' := by
  have hg := hT.lt
  have HCA := Lib.hid hC
  clear hC
  obtain ⟨M, hM6⟩ : ∃ M : Nat, 8 ≤ M := ⟨8, Nat.le_refl _⟩
  refine calls_of_wp_marks Tryd.func6 rfl M ?_
  simp only [Tryd.ntmps6, List.size_toArray, List.length_cons, List.length_nil, Nat.reduceAdd, Nat.reduceSub, Array.replicate_succ, Array.replicate_zero, List.push_toArray, List.append_toArray, List.nil_append, List.cons_append]
  gi_wp2_with fail
  refine ⟨trivial, fun h => (by cases h), ?_⟩
  have hL0 := (Blk.new w #[.int .u8 (lv : Int)] 5).alloc (.cells #[.bool false] 4)
  have hR := Blk.new (w.alloc (.cells #[.int .u8 (lv : Int)] 5)) #[.bool false] 4
  simp only [World.size_alloc] at hR
  have hBb := ((Below.refl w.heap.size w).alloc (Nat.le_refl _) (.cells #[.int .u8 (lv : Int)] 5)).alloc (by simp) (.cells #[.bool false] 4)
  have hTb : TableAt ((w.alloc (.cells #[.int .u8 (lv : Int)] 5)).alloc (.cells #[.bool false] 4)) := hT.below (((Below.refl w.heap.size w).alloc (Nat.le_refl _) _).alloc (by simp) _)
  have hDb : TabAt ((w.alloc (.cells #[.int .u8 (lv : Int)] 5)).alloc (.cells #[.bool false] 4)) := fun j hj => cell_allocKeep (cell_allocKeep (hTab j hj) _) _
  have hsb : ((w.alloc (.cells #[.int .u8 (lv : Int)] 5)).alloc (.cells #[.bool false] 4)).heap.size = w.heap.size + 2 := by simp
  have hgd := hTab.lt
  generalize (w.alloc (.cells #[.int .u8 (lv : Int)] 5)).alloc (.cells #[.bool false] 4) = wb at *
  refine (callsIn_wide.2 (fit_true wb hTb)).mono ?_
  rintro e w1 ⟨rfl, hB⟩
  have hR1 : w1.cell? ⟨w.heap.size + 1, 0, none⟩ = some (.bool false) := (hB.cell (p := ⟨w.heap.size + 1, 0, none⟩) hR.lt).trans (hR.cell 0)
  have hZ1 : w1.frozen? ⟨w.heap.size + 1, 0, none⟩ = false := (hB.frozen (p := ⟨w.heap.size + 1, 0, none⟩) hR.lt).trans (hR.free 0)
  by_cases hbig : 60 < (len : Int)
  · gi_wp2_with fail
    refine ⟨.bool true, ?_, rfl, (hBb.trans (hB.mono (by omega))).setCell (p := ⟨w.heap.size + 1, 0, none⟩) (by show w.heap.size ≤ w.heap.size + 1; omega) (.bool true)⟩
    have hc := World.cell?_setCell_same w1 ⟨w.heap.size + 1, 0, none⟩ (.bool true) hR1
    simp [results, Tryd.f6, go_sem, hc]
  clear hR1 hZ1
  gi_wp2_with fail
  refine ⟨trivial, fun h => (by cases h), ?_⟩
  refine (callsIn_wide.2 (new_in 3 3 (by decide) wb.heap.size wb _ hB (Nat.le_refl _) hTb (by omega))).mono ?_
  rintro e w2 ⟨X, rfl, h2, _, _⟩
  clear hB
  gi_wp2_with fail
  refine ⟨trivial, fun h => (by cases h), ?_⟩
  refine (callsIn_wide.2 (two_new (P := 3) (by omega) h2)).mono ?_
  rintro e w3 ⟨Y, rfl, h3, _⟩
  clear h2
  gi_wp2_with fail
  have hk3 := Blk.new w3 #[.pointer (some ⟨X.a, 0, none⟩)] 24
  have h4 := h3.alloc (.cells #[.pointer (some ⟨X.a, 0, none⟩)] 24)
  clear h3
  generalize w3.alloc (.cells #[.pointer (some ⟨X.a, 0, none⟩)] 24) = w4 at *
  generalize w3.heap.size = ba at *
  gi_loopw [24] (fun v wr => CsRel wb.heap.size X Y ba wb len v wr) (fun v _ => len - (intOf v).toNat)
  case atStart => exact ⟨0, X.lo, .new 3, Nat.zero_le _, rfl, rfl, h4, hk3⟩
  case round =>
    clear h4 hk3
    obtain ⟨i, lo, s, hi, rfl, hsP, h1, hk1⟩ := hrel
    have HSP := Lib.hid hsP
    clear hsP
    by_cases hlt : i < len
    · obtain ⟨bk, off, rfl, hbk, hc0, hc1, hk0w, hk1w⟩ := HCA.out i hlt
      replace hc0 := ((hBb.trans (h1.ar.below.mono (by omega))).cell (p := ⟨bk, off + i * 2, none⟩) hbk).trans hc0
      replace hc1 := ((hBb.trans (h1.ar.below.mono (by omega))).cell (p := ⟨bk, off + i * 2 + 1, none⟩) hbk).trans hc1
      have i0 : 0 ≤ (i : Int) := by omega
      have i1 : (i : Int) < (len : Int) := by omega
      obtain ⟨q, hq3, hq⟩ := i64_and_mask (K i) 3 (by decide)
      replace hq : bits .and .i64 (K i) 3 = (q : Int) := hq
      have h2 := h1.alloc (.cells #[.int .i64 (K i), .int .i64 (N i)] 29)
      have hk2 := hk1.alloc (.cells #[.int .i64 (K i), .int .i64 (N i)] 29)
      have hcx := Blk.new wr #[.int .i64 (K i), .int .i64 (N i)] 29
      have hk1lt := hk1.lt
      clear h1 hk1
      by_cases hq4 : (q : Int) = 3
      · rw [hq4] at hq
        gi_wp2_with fail
        refine ⟨trivial, fun h => (by cases h), ?_⟩
        refine (callsIn_wide.2 (h2.nth (N i))).mono ?_
        rintro e w5 ⟨r, hr8, rfl, h5, hB5⟩
        have hk5 := hk2.below hB5
        clear h2 hk2 hc0 hc1 hcx hB5
        have hwr : (Lit.int .i64 (r : Int)).wf = true := wf_of (by omega) (by omega)
        have hc5 := hk5.cell 0
        simp only [List.getElem?_toArray, List.getElem?_cons_zero] at hc5
        gi_wp2_with fail
        refine ⟨trivial, fun h => (by cases h), ?_⟩
        refine (callsIn_wide.2 (h5.giveA (r : Int))).mono ?_
        rintro e w6 ⟨rfl, lo7, h6, bx6, _⟩
        have hk6 := bx6 _ _ _ (by decide) hk5
        clear h5 hk5 hc5
        gi_wp2_with fail
        refine ⟨trivial, fun h => (by cases h), ?_⟩
        refine (callsIn_wide.2 (h6.giveM (r : Int) hwr)).mono ?_
        rintro e w7 ⟨rfl, h7, bx7, _⟩
        have hk7 := bx7 _ _ _ (by decide) hk6
        clear h6 hk6
        gi_wp2_with fail
        go_roundw
        case rel => exact ⟨i + 1, lo7, s.giveI (r : Int), by omega, by go_num, by rw [giveI_P]; exact HSP.out, h7, hk7⟩
        case measure => simp [intOf]; omega
      · have hqE : ((q : Int) == 3) = false := not_eqb hq4
        have hc2 := hk2.cell 0
        have hcx0 := hcx.cell 0
        simp only [List.getElem?_toArray, List.getElem?_cons_zero] at hc2 hcx0
        have HCX := Lib.hid hcx
        clear hcx
        gi_wp2_with fail
        refine ⟨trivial, fun h => (by cases h), ?_⟩
        refine (callsIn_wide.2 (h2.takeA (q : Int))).mono ?_
        rintro e w5 ⟨rfl, lo5, h5, bx5, _⟩
        have hk5 := bx5 _ _ _ (by decide) hk2
        have hx5 := (bx5 _ _ _ (by decide) HCX.out).cell 0
        simp only [List.getElem?_toArray, List.getElem?_cons_zero] at hx5
        clear h2 hk2 hc0 hc1 hc2 hcx0
        generalize seekF s (q : Int) = x at *
        generalize decide (x ≠ 0) = bq at *
        gi_wp2_with fail
        refine ⟨trivial, fun h => (by cases h), ?_⟩
        refine (callsIn_wide.2 (h5.takeM (q : Int))).mono ?_
        rintro e w6 ⟨rfl, h6, bx6, _⟩
        have hk6 := bx6 _ _ _ (by decide) hk5
        clear h5 hk5 hx5
        gi_wp2_with fail
        go_roundw
        case rel => exact ⟨i + 1, lo5, s.take (q : Int), by omega, by go_num, by rw [take_P]; exact HSP.out, h6, hk6⟩
        case measure => simp [intOf]; omega
    · obtain rfl : i = len := by omega
      have hF := Lib.hid h1.ar.at_.fits
      have hXlt0 := h1.ar.at_.lt
      have hYlt0 := h1.md.lt
      have htb := h1.ar.tabB
      have hS1 : elems s.S (32 * 0 + 1) = [] := by
        rw [show 32 * 0 + 1 = 0 + 1 from rfl, elems_no (S_zero1 hF.out)]; rfl
      have hG : Gath wb.heap.size (X.with lo) Y s ba wr.heap.size 0 [] (elems s.S (32 * 0 + 1)) wb (wr.alloc (.cells #[.slice none 0 0] 54)) := by
        rw [hS1]
        exact ⟨h1.alloc _, hk1.alloc _, ⟨_, Blk.new wr _ _, RefsIn.nil _ _⟩, h1.ar.size, trivial, by omega⟩
      clear h1 hk1 hS1
      gi_wp2_with fail
      generalize wr.alloc (.cells #[.slice none 0 0] 54) = w8 at *
      generalize wr.heap.size = bl at *
      refine wpIn_loop_grow (fun T u => spl (spl T u 11 2) u 53 17) (fun u ds W => ∃ p hi : Nat, p ≤ 3 ∧ u 53 = .int .i64 (p : Int) ∧ Gath wb.heap.size (X.with lo) Y s ba bl hi ds (elems s.S (32 * p + 1)) wb W) (fun u => 3 - (intOf (u 53)).toNat) rfl ⟨0, 0, by omega, rfl, hG⟩ ?_
      clear hG
      rintro u ds W ⟨p, hi, hp, hu, hG⟩
      simp only [spl, List.take_succ_cons, List.take_zero, List.drop_succ_cons, List.drop_zero, List.cons_append, List.nil_append, List.range'_succ, List.range'_zero, List.map_cons, List.map_nil, Nat.reduceAdd, hu]
      have hc := hG.box.cell 0
      simp only [List.getElem?_toArray, List.getElem?_cons_zero] at hc
      by_cases hp3 : p < 3
      · have hp1 : (p : Int) < 3 := by omega
        have hp0 : (0 : Int) ≤ (p : Int) := by omega
        have hXlt := hG.two.ar.at_.lt
        have hYlt := hG.two.md.lt
        have hsB := hG.two.ar.size
        have hhi := hG.his
        have hbal := hG.box.lt
        have hG6 := ((hG.alloc (.cells #[.int .i64 (p : Int)] 3)).alloc (.cells #[.pointer (some ⟨X.a, 0, none⟩)] 24)).alloc (.cells #[.int .i64 (p : Int)] 3)
        have hbox : Blk (((W.alloc (.cells #[.int .i64 (p : Int)] 3)).alloc (.cells #[.pointer (some ⟨X.a, 0, none⟩)] 24)).alloc (.cells #[.int .i64 (p : Int)] 3)) W.heap.size #[.int .i64 (p : Int)] 3 := ((Blk.new W _ _).alloc _).alloc _
        have k0 : Blk (((W.alloc (.cells #[.int .i64 (p : Int)] 3)).alloc (.cells #[.pointer (some ⟨X.a, 0, none⟩)] 24)).alloc (.cells #[.int .i64 (p : Int)] 3)) (W.heap.size + 1) #[.pointer (some ⟨X.a, 0, none⟩)] 24 := by
          have := (Blk.new (W.alloc (.cells #[.int .i64 (p : Int)] 3)) #[.pointer (some ⟨X.a, 0, none⟩)] 24).alloc (.cells #[.int .i64 (p : Int)] 3)
          simpa using this
        have k1 : Blk (((W.alloc (.cells #[.int .i64 (p : Int)] 3)).alloc (.cells #[.pointer (some ⟨X.a, 0, none⟩)] 24)).alloc (.cells #[.int .i64 (p : Int)] 3)) (W.heap.size + 1 + 1) #[.int .i64 (p : Int)] 3 := by
          have := Blk.new ((W.alloc (.cells #[.int .i64 (p : Int)] 3)).alloc (.cells #[.pointer (some ⟨X.a, 0, none⟩)] 24)) #[.int .i64 (p : Int)] 3
          simpa using this
        have K0 := Lib.hid k0
        have K1 := Lib.hid k1
        clear k0 k1
        have hs6 : (((W.alloc (.cells #[.int .i64 (p : Int)] 3)).alloc (.cells #[.pointer (some ⟨X.a, 0, none⟩)] 24)).alloc (.cells #[.int .i64 (p : Int)] 3)).heap.size = W.heap.size + 3 := by simp
        have hbll : bl < W.heap.size := by obtain ⟨v, hb, _⟩ := hG.list; exact hb.lt
        clear hG
        gi_wp2_with fail
        refine ⟨trivial, fun h => (by cases h), ?_⟩
        refine (callsIn_wide.2 (cellsfn_any X.a (p : Int) _)).mono ?_
        rintro e w' ⟨rfl, rfl⟩
        gi_wp2_with fail
        generalize (((W.alloc (.cells #[.int .i64 (p : Int)] 3)).alloc (.cells #[.pointer (some ⟨X.a, 0, none⟩)] 24)).alloc (.cells #[.int .i64 (p : Int)] 3)) = W6 at *
        generalize W.heap.size = s0 at *
        refine wpIn_rangeFunc_ownF rfl (by omega) (gf := 61) (lb := #[.pointer (some ⟨s0 + 1, 0, none⟩), .pointer (some ⟨s0 + 1 + 1, 0, none⟩)]) rfl trivial (enters_of Tryd.func61 (by kernel_rfl) rfl)
          (pg_stops (X := X.with lo) (s := s) (M - 1) (s0 + 1) p (by have := HSP.out; omega) W6 hG6.two.ar.at_.toArMem (K0.out.cell 0) (K1.out.cell 0)) KpAr.trans (fun V l o o' hl _ _ _ => KpAr.putObj (n0 := W6.heap.size) (fun k hk => by have := hXlt k hk; omega) (by omega) V l o' hl) (Below.refl _ _) (fun _ => rfl)
          (fun pre V => Gath wb.heap.size (X.with lo) Y s ba bl hi ds (elems s.S (32 * p + 1) ++ pgRefs pre) wb V ∧ Blk V s0 #[.int .i64 (p : Int)] 3 ∧ W6.heap.size ≤ V.heap.size ∧ Blk V (s0 + 1) #[.pointer (some ⟨X.a, 0, none⟩)] 24 ∧ Blk V (s0 + 1 + 1) #[.int .i64 (p : Int)] 3) (fun _ _ _ => False)
          (fun pre V V' row hs hg hr => ⟨hs.1.grown W6.heap.size (by omega) (by omega) (fun k hk => by have := hYlt k hk; omega) hg hr, hs.2.1.kept hg (fun r e => (hr r e).2), Nat.le_trans hs.2.2.1 hg.size, hs.2.2.2.1.kept hg (fun r e => (hr r e).2), hs.2.2.2.2.kept hg (fun r e => (hr r e).2)⟩)
          (fun _ _ _ _ _ hs _ _ => hs) ⟨by rw [show pgRefs ([] : List (InPg s.S p)) = [] from rfl, List.append_nil]; exact hG6, hbox, Nat.le_refl _, K0.out, K1.out⟩ ?a1 ?assign ?body ?done ?stop
        case assign =>
          intro l0 x V K hK
          unfold pgArgs
          gi_wp2
          exact hK
        case body =>
          rintro l0 pre x V ⟨hG, hbV, hVs, k0, k1⟩ hpl
          have hcb := hbV.cell 0
          have hck := hG.box.cell 0
          simp only [List.getElem?_toArray, List.getElem?_cons_zero] at hcb hck
          obtain ⟨r, hr⟩ : ∃ r, r = 32 * p + x.1.val + 1 := ⟨_, rfl⟩
          have hxl := x.1.isLt
          have hri : 32 * (p : Int) + ((x.1.val : Nat) : Int) + 1 = (r : Int) := by omega
          have hpg : pg r = p := by rw [hr]; unfold pg; omega
          have hpr : pgRefs (pre ++ [x]) = pgRefs pre ++ [r] := by unfold pgRefs; rw [List.map_append, hr]; rfl
          simp only [hri]
          have cP := page_yes hG.two.ar.at_.toArMem r (by omega) (by have := HSP.out; omega)
          have cPd := page_yes hG.drew.two.ar.at_.toArMem r (by omega) (by have := HSP.out; omega)
          rw [hpg] at cP cPd
          have hpp : ((p : Int) != (p : Int)) = false := by simp
          have hmx : Tryd.prog.follows .mixedOrders = true := by kernel_rfl
          have f1 : Fence.wide.fn 32 := trivial
          have hd : 1 ≤ M - 1 - 1 := by omega
          have HPR := Lib.hid hpr
          clear hr hri hpg hxl hpr
          gi_wp2_with fail
          apply wpIn_mid V.drew
          · gi_region_with_o (gi_at_call 32; first | (refine (CallsIn.inRound l0 (callsIn_wide.2 cP)).mono ?_; rintro e w' ⟨rfl, rfl⟩) | (refine (CallsIn.inRound l0 (callsIn_wide.2 cPd)).mono ?_; rintro e w' ⟨rfl, rfl⟩))
            all_goals exact ⟨rfl, rfl, rfl⟩
          ·
            clear cP cPd hcb hck
            obtain ⟨v, hb, hv⟩ := hG.list
            have hbc := hb.cell 0
            simp only [List.getElem?_toArray, List.getElem?_cons_zero] at hbc
            have h1 : Below V.heap.size V (V.alloc (.cells #[.int .i64 (r : Int)] 30)).drew := ((Below.refl _ V).alloc (Nat.le_refl _) _).drew
            have hLd : ListIn wb.heap.size (X.with lo) s v (elems s.S (32 * p + 1) ++ pgRefs pre) wb (V.alloc (.cells #[.int .i64 (r : Int)] 30)).drew := ⟨hG.two.ar.ask h1, hv.below h1⟩
            have hrc : (V.alloc (.cells #[.int .i64 (r : Int)] 30)).drew.cell? ⟨V.heap.size, 0, none⟩ = some (.int .i64 (r : Int)) := (Blk.new V #[.int .i64 (r : Int)] 30).cell 0
            have HRC := Lib.hid hrc
            clear hrc
            have hlen : (elems s.S (32 * p + 1) ++ pgRefs pre).length ≤ 100000 := by
              have := elems_length s.S (32 * p + 1)
              rw [List.length_append]
              unfold pgRefs
              rw [List.length_map]
              omega
            have hnb : ∀ {b cs T}, Blk V b cs T → T ≠ 30 → ¬ v.ownBlock = some b := fun hB hT e => by
              obtain ⟨_, cur, hc⟩ := hv.own e
              exact blk_types hB hc hT
            have hbld : bl < V.heap.size := hb.lt
            have HG := Lib.hid hG
            have HB := Lib.hid hb
            have HVV := Lib.hid hv
            have H1 := Lib.hid h1
            generalize hll : elems s.S (32 * p + 1) ++ pgRefs pre = l at *
            have HLL := Lib.hid hll
            clear hG hb hv hll h1
            gi_wp2_with (gi_at_builtin; refine wpListIn_push rfl _ _ rfl hLd hlen V.heap.size 1 r (by exact HRC.out) (by rfl) (by rfl) ?_; intro v' w5 hL5 ht5; obtain ⟨g9, ln9, cp9, rfl⟩ := refs_slice hL5.refs; have hb5 := (HB.out.below H1.out).turn ht5 (hnb HB.out (by decide)); have hc5 := hb5.cell 0; have hz5 := hb5.free 0; simp only [List.getElem?_toArray, List.getElem?_cons_zero] at hc5; have HB5 := Lib.hid hb5; clear hb5)
            obtain ⟨g1, g2, g3, g4⟩ := HG.out.push H1.out HB.out HVV.out hL5 ht5
            have far : ∀ {b cs T}, Blk V b cs T → T ≠ 30 → T ≠ 54 → ¬ (b = bl ∨ v.ownBlock = some b) := fun hB h1 h2 e => by
              rcases e with e | e
              · subst e; exact blk_types hB HB.out h2
              · exact hnb hB h1 e
            refine ⟨g3, ⟨fun k hk => g2.block k (by have := hXlt k hk; omega) (fun e => ?_), g2.block _ (by omega) (far k0 (by decide) (by decide)), g2.block _ (by omega) (far k1 (by decide) (by decide))⟩, ?_, hbV.turn g2 (far hbV (by decide) (by decide)), Nat.le_trans hVs g2.size, k0.turn g2 (far k0 (by decide) (by decide)), k1.turn g2 (far k1 (by decide) (by decide))⟩
            · rcases e with e | e
              · subst e; exact HG.out.two.ar.at_.far HB.out (by decide) (by decide) (by decide) (by decide) hk
              · obtain ⟨_, cur, hc⟩ := HVV.out.own e
                exact HG.out.two.ar.at_.far hc (by decide) (by decide) (by decide) (by decide) hk
            · rw [HPR.out, ← List.append_assoc, HLL.out]; exact g1
        case done =>
          rintro D xs V hD hxs ⟨hG, hbV, hVs, _, _⟩ hK
          have hall := pgRefs_all hxs
          rw [← hall] at hG
          gi_wp2_with fail
          have hDl := (Array.getElem?_eq_some_iff.mp hK).1
          refine ⟨_, rfl, rfl, ⟨p + 1, D + 1, by omega, ?_, hG.two, hG.box, hG.list, hG.far, (hG.marks.mono (show hi ≤ D by omega)).push (by omega) (by omega) hK, by omega⟩, ?_⟩
          · show Value.int .i64 ((p : Int) + 1) = _
            congr 1
          · show 3 - (intOf (Value.int .i64 ((p : Int) + 1))).toNat < 3 - (intOf (Value.int .i64 (p : Int))).toNat
            simp [intOf]; omega
        case stop =>
          rintro D c pre V hD _ hs _
          exact hs.elim
      · obtain rfl : p = 3 := by omega
        obtain ⟨L, hL⟩ : ∃ L, elems s.S (32 * 3 + 1) = L := ⟨_, rfl⟩
        have HL := Lib.hid hL
        rw [hL] at hG
        clear hL
        have hXlt := hG.two.ar.at_.lt
        have hYlt := hG.two.md.lt
        have hsB := hG.two.ar.size
        have hhi := hG.his
        have hbal := hG.box.lt
        have hLen : L.length ≤ 97 := by rw [← HL.out]; exact elems_length _ _
        have hG6 := (hG.alloc (.cells #[.int .i64 0] 3)).alloc (.cells #[.pointer (some ⟨X.a, 0, none⟩)] 24)
        have hbox : Blk ((W.alloc (.cells #[.int .i64 0] 3)).alloc (.cells #[.pointer (some ⟨X.a, 0, none⟩)] 24)) W.heap.size #[.int .i64 0] 3 := (Blk.new W _ _).alloc _
        have b0 : ((W.alloc (.cells #[.int .i64 0] 3)).alloc (.cells #[.pointer (some ⟨X.a, 0, none⟩)] 24)).cell? ⟨W.heap.size + 1, 0, none⟩ = some (.pointer (some ⟨X.a, 0, none⟩)) := by
          have := (Blk.new (W.alloc (.cells #[.int .i64 0] 3)) #[.pointer (some ⟨X.a, 0, none⟩)] 24).cell 0
          simp only [World.size_alloc] at this
          exact this
        have hs6 : W.heap.size + 2 ≤ ((W.alloc (.cells #[.int .i64 0] 3)).alloc (.cells #[.pointer (some ⟨X.a, 0, none⟩)] 24)).heap.size := by simp
        clear hG
        gi_wp2_with fail
        refine ⟨trivial, fun h => (by cases h), ?_⟩
        refine (callsIn_wide.2 (allfn_any X.a _)).mono ?_
        rintro e w' ⟨rfl, rfl⟩
        clear hc
        gi_wp2_with fail
        generalize (W.alloc (.cells #[.int .i64 0] 3)).alloc (.cells #[.pointer (some ⟨X.a, 0, none⟩)] 24) = W6 at *
        generalize W.heap.size = s0 at *
        have hD6 : TabAt W6 := fun j hj => (hG6.two.ar.below.cell (p := ⟨1, j, none⟩) (by show (1 : Nat) < _; omega)).trans (hDb j hj)
        refine wpIn_ends 6 (fun D V => Gath wb.heap.size (X.with lo) Y s ba bl (D + 1) ({ target := .collected D, args := #[] } :: ds) L wb V) ?rng (fun _ _ h => h) ?tail
        case rng =>
          refine wpIn_rangeO rfl (by omega) (gf := 56) (lb := #[.pointer (some ⟨s0 + 1, 0, none⟩)]) rfl trivial (enters_of Tryd.func56 (by kernel_rfl) rfl)
            (allA_seq (X := X.with lo) (M - 1) (by omega) (s0 + 1) W6 hG6.two.ar.at_.toArMem hD6 b0) KpAll.trans
            (fun V l o hl => KpAll.putObj (n0 := W6.heap.size) (fun k hk => by have := hXlt k hk; omega) (by omega) (by omega) V l o hl) (Below.refl _ _) (fun _ => rfl)
            (fun st V => Gath wb.heap.size (X.with lo) Y s ba bl hi ds L wb V ∧ Blk V s0 #[.int .i64 (st.1.length : Int)] 3 ∧ W6.heap.size ≤ V.heap.size)
            (fun c (st : List (Fin 4096) × (Nat → Prop)) V => (c = .exit 6 ∧ Gath wb.heap.size (X.with lo) Y s ba bl hi ds L wb V) ∨ ∃ (q : List (Fin 4096)) (x : Fin 4096), st.1 = q ++ [x] ∧ L[q.length]? ≠ some x.val)
            (fun st V V' row hs hg hr => ⟨hs.1.grown W6.heap.size (by omega) (by omega) (fun k hk => by have := hYlt k hk; omega) hg hr, hs.2.1.kept hg (fun k e => (hr k e).2), Nat.le_trans hs.2.2 hg.size⟩)
            (fun c st V V' row hs hg hr => hs.imp (fun h => ⟨h.1, h.2.grown W6.heap.size (by omega) (by omega) (fun k hk => by have := hYlt k hk; omega) hg hr⟩) (fun h => h)) ⟨hG6, hbox, Nat.le_refl _⟩ ?a9 ?assign9 ?body9 ?done9 ?stop9
          case assign9 =>
            intro l0 x V K hK
            gi_wp2
            exact hK
          case body9 =>
            rintro l0 pre O x V ⟨hG, hbV, hsV⟩ hpl
            obtain ⟨v, hbl, hv⟩ := hG.list
            obtain ⟨k, hk⟩ : ∃ k, pre.length = k := ⟨_, rfl⟩
            rw [hk] at hbV
            have hcb := hbV.cell 0
            have hzb := hbV.free 0
            have hbc := hbl.cell 0
            simp only [List.getElem?_toArray, List.getElem?_cons_zero] at hcb hbc
            have hlr := hv.lenRun 3
            have hLV : V.cell? ⟨w.heap.size, 0, none⟩ = some (.int .u8 (lv : Int)) := (hG.two.ar.below.cell (p := ⟨w.heap.size, 0, none⟩) hL0.lt).trans (hL0.cell 0)
            have hRW : V.cell? ⟨w.heap.size + 1, 0, none⟩ = some (.bool false) := (hG.two.ar.below.cell (p := ⟨w.heap.size + 1, 0, none⟩) hR.lt).trans (hR.cell 0)
            have hZW : V.frozen? ⟨w.heap.size + 1, 0, none⟩ = false := (hG.two.ar.below.frozen (p := ⟨w.heap.size + 1, 0, none⟩) hR.lt).trans (hR.free 0)
            have hk0 : (0 : Int) ≤ (k : Int) := by omega
            have hk1 : (k : Int) ≤ 4096 := by have := HSP.out; omega
            have HV := Lib.hid hbV
            have HG := Lib.hid hG
            have HK := Lib.hid hk
            have leave : L[pre.length]? ≠ some x.val → ∃ O', Owned W6.heap.size O O' V (V.setCell ⟨w.heap.size + 1, 0, none⟩ (.bool false)) ∧ ((Code.ret = .exit 6 ∧ Gath wb.heap.size (X.with lo) Y s ba bl hi ds L wb (V.setCell ⟨w.heap.size + 1, 0, none⟩ (.bool false))) ∨ ∃ (q : List (Fin 4096)) (y : Fin 4096), pre ++ [x] = q ++ [y] ∧ L[q.length]? ≠ some y.val) := fun hne =>
              ⟨O, Owned.ofTurn ((Turn.refl (fun k => k = w.heap.size + 1) V).set _ _ (.inr rfl)) (fun k e => by have e2 : k = w.heap.size + 1 := e; omega), .inr ⟨pre, x, rfl, hne⟩⟩
            have HLv := Lib.hid leave
            have hs0 : s0 < W6.heap.size := by omega
            have hws : w.heap.size < s0 := by omega
            have go_on : ∃ O', Owned W6.heap.size O O' V (V.setCell ⟨s0, 0, none⟩ (.int .i64 ((k : Int) + 1))) ∧ KpAll (X.with lo) (s0 + 1) V (V.setCell ⟨s0, 0, none⟩ (.int .i64 ((k : Int) + 1))) ∧ Gath wb.heap.size (X.with lo) Y s ba bl hi ds L wb (V.setCell ⟨s0, 0, none⟩ (.int .i64 ((k : Int) + 1))) ∧ Blk (V.setCell ⟨s0, 0, none⟩ (.int .i64 ((k : Int) + 1))) s0 #[.int .i64 (((pre ++ [x]).length : Nat) : Int)] 3 ∧ W6.heap.size ≤ (V.setCell ⟨s0, 0, none⟩ (.int .i64 ((k : Int) + 1))).heap.size := by
              have hTs : Turn (fun k => k = s0) V (V.setCell ⟨s0, 0, none⟩ (.int .i64 ((k : Int) + 1))) := (Turn.refl _ V).set _ _ (.inr rfl)
              refine ⟨O, Owned.ofTurn hTs (fun k e => by have e2 : k = s0 := e; omega), KpAll.ofTurn hTs (fun k hk => by have := hXlt k hk; omega) (by omega) (by omega) (by omega) (by omega), hG.beside hbV hXlt hYlt hsB hhi hTs, (hbV.setAt 0 _).is ?_, by simpa using hsV⟩
              rw [List.length_append, hk]
              simp
            have HGo := Lib.hid go_on
            clear leave go_on hbV hG hk hbl hsb
            by_cases hkL : k < L.length
            · have hkl : (k : Int) < (L.length : Int) := by omega
              rcases hv.is with ⟨_, e0⟩ | ⟨g, cp, cur, rfl, hg2, hgb, hcp, hat⟩
              · rw [e0] at hkL; exact absurd hkL (by simp)
              have hcell := hat k hkL
              have hLk : L[k]? = some L[k] := List.getElem?_eq_getElem hkL
              have HAT := Lib.hid hat
              have HLK := Lib.hid hLk
              clear hat hLk hgb
              generalize L[k] = y at *
              by_cases hyx : y = x.val
              · have HYX := Lib.hid hyx
                have hyy : ((y : Int) != ((x.val : Nat) : Int)) = false := by rw [hyx]; simp
                clear hyx
                have hwl : IntKind.i64.wrap (lv : Int) = (lv : Int) := IntWalk.i64_in _ (by omega)
                have hLV2 : (V.setCell ⟨s0, 0, none⟩ (.int .i64 ((k : Int) + 1))).cell? ⟨w.heap.size, 0, none⟩ = some (.int .u8 (lv : Int)) := cell_setBlock hLV (by show w.heap.size ≠ s0; omega)
                have hcb2 : (V.setCell ⟨s0, 0, none⟩ (.int .i64 ((k : Int) + 1))).cell? ⟨s0, 0, none⟩ = some (.int .i64 ((k : Int) + 1)) := World.cell?_setCell_same _ _ _ hcb
                have hcl : ∀ b, ((k : Int) + 1 == (lv : Int)) = b → True := fun _ _ => trivial
                obtain ⟨be, hbe⟩ : ∃ be, ((k : Int) + 1 == (lv : Int)) = be := ⟨_, rfl⟩
                clear hcl
                by_cases hkz : 0 < (k : Int)
                · obtain ⟨k', hk'⟩ : ∃ k', k' + 1 = k := ⟨k - 1, by omega⟩
                  have hw : IntKind.i64.wrap ((k : Int) - 1) = (k' : Int) := by rw [show (k : Int) - 1 = (k' : Int) by omega]; exact IntWalk.i64_in _ (by omega)
                  have hk'0 : (0 : Int) ≤ (k' : Int) := by omega
                  have hk'1 : (k' : Int) < (L.length : Int) := by omega
                  have hcell' := HAT.out k' (by omega)
                  have hyp : L[k'] < y := by
                    have h1 : (elems s.S (32 * 3 + 1))[k']? = some L[k'] := by rw [HL.out]; exact List.getElem?_eq_getElem (by omega)
                    have h2 : (elems s.S (32 * 3 + 1))[k]? = some y := by rw [HL.out]; exact HLK.out
                    exact elems_lt (by omega) h1 h2
                  generalize L[k'] = z at *
                  have hzy : ¬ ((x.val : Nat) : Int) ≤ (z : Int) := by have := HYX.out; omega
                  clear hv hyp hk'
                  obtain ⟨O', g1, g2, g3, g4, g5⟩ := HGo.out
                  cases be <;> gi_wp2_with fail
                  · exact ⟨O', g1, g2, g3, g4, g5⟩
                  · exact ⟨O', g1, .inl ⟨rfl, g3⟩⟩
                · clear hv
                  obtain ⟨O', g1, g2, g3, g4, g5⟩ := HGo.out
                  cases be <;> gi_wp2_with fail
                  · exact ⟨O', g1, g2, g3, g4, g5⟩
                  · exact ⟨O', g1, .inl ⟨rfl, g3⟩⟩
              · have hyy : ((y : Int) != ((x.val : Nat) : Int)) = true := by simp; omega
                have HYX := Lib.hid hyx
                clear hyx
                clear hv
                gi_wp2_with fail
                exact HLv.out (by rw [HK.out, HLK.out]; intro e; injection e with e; exact HYX.out e)
            · have hkl : ¬ (k : Int) < (L.length : Int) := by omega
              have HKL := Lib.hid hkL
              clear hv hkL
              gi_wp2_with fail
              exact HLv.out (by rw [HK.out, List.getElem?_eq_none (by have := HKL.out; omega)]; exact fun e => by cases e)
          case done9 =>
            rintro D xs O V hD hxs ⟨hG, hbV, hsV⟩ hK
            exact ⟨.inl rfl, D, rfl, hG.marked (by omega) (by omega) hK⟩
          case stop9 =>
            rintro D c pre O V hD ⟨i, j, hj, hpre⟩ (⟨rfl, hG⟩ | ⟨q, x, e1, e2⟩) hK
            · refine wpIn_exit ?_
              exact ⟨.inr rfl, D, rfl, hG.marked (by omega) (by omega) hK⟩
            · exfalso
              have e3 : pre = q ++ [x] := e1
              have h1 : (elems s.S (j + 1))[q.length]? = some x.val := by
                rw [← hpre, e3, List.map_append, List.getElem?_append_right (by simp)]
                simp
              apply e2
              rw [← HL.out]
              refine elems_pre (n := j + 1) ?_ h1
              have := hF.out.at_ j hj.2.1
              have := HSP.out
              omega
        case tail =>
          intro D V hG
          have hXltV := hG.two.ar.at_.lt
          have hbal2 := hG.box.lt
          have hc := hG.box.cell 0
          simp only [List.getElem?_toArray, List.getElem?_cons_zero] at hc
          have hG2 := (hG.alloc (.cells #[.pointer (some ⟨X.a, 0, none⟩)] 24)).alloc (.cells #[.int .i64 3] 3)
          have b0 : ((V.alloc (.cells #[.pointer (some ⟨X.a, 0, none⟩)] 24)).alloc (.cells #[.int .i64 3] 3)).cell? ⟨V.heap.size, 0, none⟩ = some (.pointer (some ⟨X.a, 0, none⟩)) := ((Blk.new V _ _).alloc _).cell 0
          have b1 : ((V.alloc (.cells #[.pointer (some ⟨X.a, 0, none⟩)] 24)).alloc (.cells #[.int .i64 3] 3)).cell? ⟨V.heap.size + 1, 0, none⟩ = some (.int .i64 3) := by simp
          clear hG
          gi_wp2_with fail
          refine ⟨trivial, fun h => (by cases h), ?_⟩
          refine (callsIn_wide.2 (cellsfn_any X.a 3 _)).mono ?_
          rintro e w' ⟨rfl, rfl⟩
          clear hc
          gi_wp2_with fail
          generalize (V.alloc (.cells #[.pointer (some ⟨X.a, 0, none⟩)] 24)).alloc (.cells #[.int .i64 3] 3) = V2 at *
          refine gath_none M (by omega) hG2 V.heap.size 3 (by rw [HSP.out]; omega) rfl rfl b0 b1 fun D2 V3 hD2 hG => ?_
          clear hG2 b0 b1 hbal2
          have hbal2 := hG.box.lt
          have hc := hG.box.cell 0
          simp only [List.getElem?_toArray, List.getElem?_cons_zero] at hc
          have hG2 := (hG.alloc (.cells #[.pointer (some ⟨X.a, 0, none⟩)] 24)).alloc (.cells #[.int .i64 (-1)] 3)
          have b0 : ((V3.alloc (.cells #[.pointer (some ⟨X.a, 0, none⟩)] 24)).alloc (.cells #[.int .i64 (-1)] 3)).cell? ⟨V3.heap.size, 0, none⟩ = some (.pointer (some ⟨X.a, 0, none⟩)) := ((Blk.new V3 _ _).alloc _).cell 0
          have b1 : ((V3.alloc (.cells #[.pointer (some ⟨X.a, 0, none⟩)] 24)).alloc (.cells #[.int .i64 (-1)] 3)).cell? ⟨V3.heap.size + 1, 0, none⟩ = some (.int .i64 (-1)) := by simp
          clear hG
          gi_wp2_with fail
          refine ⟨trivial, fun h => (by cases h), ?_⟩
          refine (callsIn_wide.2 (cellsfn_any X.a (-1) _)).mono ?_
          rintro e w' ⟨rfl, rfl⟩
          clear hc
          gi_wp2_with fail
          generalize (V3.alloc (.cells #[.pointer (some ⟨X.a, 0, none⟩)] 24)).alloc (.cells #[.int .i64 (-1)] 3) = V4 at *
          refine gath_none M (by omega) hG2 V3.heap.size (-1) (by omega) rfl rfl b0 b1 fun D3 V5 hD3 hG => ?_
          clear hG2 b0 b1 hbal2
          have hlen : (elems s.S 2049).length = L.length := by
            rw [elems_end (i := 32 * 3 + 1) (m := 2049) (by omega) (fun k hk => by
              cases e : s.S k with
              | false => rfl
              | true => have := (hF.out.at_ k e).2.1; have := HSP.out; omega), HL.out]
          obtain ⟨v, hb, hv⟩ := hG.list
          have hcb := hb.cell 0
          have hc := hG.box.cell 0
          simp only [List.getElem?_toArray, List.getElem?_cons_zero] at hcb hc
          have hlr := hv.lenRun 3
          have hml := hG.two.md.map.len 3
          have hmlD := hG.two.drew.md.map.len 3
          rw [hlen] at hml hmlD
          have hm1 := hG.two.md.c1
          have hAm := hG.two.drew.ar.at_.toArMem
          have hc3 : clsI s 3 = -1 := by unfold clsI; rw [if_neg (by have := HSP.out; omega)]
          have hc1 : clsI s (-1) = -1 := by unfold clsI; rw [if_neg (by omega)]
          have hnn : ((L.length : Int) == (L.length : Int)) = true := by simp
          have hRV : V5.cell? ⟨w.heap.size + 1, 0, none⟩ = some (.bool false) := (hG.two.ar.below.cell (p := ⟨w.heap.size + 1, 0, none⟩) hR.lt).trans (hR.cell 0)
          have hZV : V5.frozen? ⟨w.heap.size + 1, 0, none⟩ = false := (hG.two.ar.below.frozen (p := ⟨w.heap.size + 1, 0, none⟩) hR.lt).trans (hR.free 0)
          have HG := Lib.hid hG
          have hTs : Turn (fun k => k = w.heap.size + 1) V5 (V5.setCell ⟨w.heap.size + 1, 0, none⟩ (.bool true)).drew := ((Turn.refl (fun k => k = w.heap.size + 1) V5).set ⟨w.heap.size + 1, 0, none⟩ (.bool true) (.inr rfl)).drew
          have hbw : bl ≠ w.heap.size + 1 := by have := hG.far; omega
          have haw : ba ≠ w.heap.size + 1 := fun e => by
            have h1 := hG.box
            have h2 : Blk V5 (w.heap.size + 1) #[.bool false] 4 := (hG.two.ar.below.block _ hR.lt).trans hR
            rw [e] at h1
            exact blk_types h1 h2 (by decide)
          have hMd9 := hG.two.md.turn hTs (fun k hk e => by have := hG.two.own k hk; omega)
          have hml9 := hMd9.map.len 3
          rw [hlen] at hml9
          have hm9 := hMd9.c1
          have hb9 := (hb.turn hTs hbw).cell 0
          have ha9 := (hG.box.turn hTs haw).cell 0
          simp only [List.getElem?_toArray, List.getElem?_cons_zero] at hb9 ha9
          have hlr1 := hlr V5.drew
          have hlr9 := hlr (V5.setCell ⟨w.heap.size + 1, 0, none⟩ (.bool true)).drew
          clear hlen hb hv hG hMd9 hTs hlr
          generalize L.length = n at *
          gi_wp2_with fail
          refine wpIn_wide.2 ?_
          go_region_held3 (fun W' => W'.cell? ⟨bl, 0, none⟩ = some v ∧ (Builtin.len_ #[54] 3 #[v]).run Tryd.prog W' = .ok (.int .i64 (n : Int)) W' ∧ W'.cell? ⟨Y.m, 1, none⟩ = some (.map (some Y.t)) ∧ (Builtin.len_ #[42] 3 #[.map (some Y.t)]).run Tryd.prog W' = .ok (.int .i64 (n : Int)) W' ∧ W'.cell? ⟨ba, 0, none⟩ = some (.pointer (some ⟨X.a, 0, none⟩)))
            (first | exact ⟨hcb, hlr1, hm1, hmlD, hc⟩ | exact ⟨hb9, hlr9, hm9, hml9, ha9⟩)
            (first
              | (go_at_call 26; refine (class_any hAm _).mono ?_; rintro e w7 ⟨rfl, rfl⟩))
          clear hb9 hlr9 hm9 hml9 ha9 hcb hlr1 hm1 hmlD hc hml hc3 hc1
          have hG := HG.out
          have hBW := (hBb.trans (hG.two.ar.below.mono (by omega))).setCell (p := ⟨w.heap.size + 1, 0, none⟩) (by show w.heap.size ≤ w.heap.size + 1; omega) (.bool true)
          have hR9 : (V5.setCell ⟨w.heap.size + 1, 0, none⟩ (.bool true)).drew.cell? ⟨w.heap.size + 1, 0, none⟩ = some (.bool true) := World.cell?_setCell_same V5 _ _ hRV
          have hRl : w.heap.size + 1 < V5.heap.size := by have := hR.lt; have := hG.two.ar.below.size; omega
          have hM9 : Marks wb.heap.size (D3 + 1) ({ target := .collected D3, args := #[] } :: { target := .collected D2, args := #[] } :: { target := .collected D, args := #[] } :: ds) (V5.setCell ⟨w.heap.size + 1, 0, none⟩ (.bool true)).drew := hG.marks.keep fun k h0 _ h2 => (Below.heap_setCell _ _ _ _ (fun e => by have e2 : k = w.heap.size + 1 := e; omega)).trans h2
          have hs9 : (V5.setCell ⟨w.heap.size + 1, 0, none⟩ (.bool true)).drew.heap.size = V5.heap.size := by simp
          have hB9 := hBW.drew
          have h39 := hG.his
          clear hG hBW hRV hZV hAm
          gi_wp2_with fail
          generalize (V5.setCell ⟨w.heap.size + 1, 0, none⟩ (.bool true)).drew = V9 at *
          refine leavesP_marks hM9 (by omega) fun w' hb _ hcs => ?_
          have hRF := hcs ⟨w.heap.size + 1, 0, none⟩ _ (by show w.heap.size + 1 < _; omega) hR9
          refine ⟨.bool true, ?_, rfl, hB9.trans (hb.mono (by omega))⟩
          simp [results, Tryd.f6, go_sem, hRF]
theorem cells_frame (a0 : Option Addr) (len cap : Nat) (K N : Nat → Int) (lv : Int) (h : (Lit.int .u8 lv).wf = true) (w : World) (hl : len ≤ 9223372036854775807) (hC : CallsAt w a0 len K N) (hTab : TabAt w) (hT : TableAt w) :
    Calls Tryd.prog 6 #[.slice a0 len cap, .int .u8 lv] w fun e w' => e = .returned (.bool true) ∧ Below w.heap.size w w' := by
  have h2 : 0 ≤ lv ∧ lv ≤ 255 := by
    simp [Lit.wf, IntKind.min, IntKind.max, IntKind.signed, IntKind.bits] at h
    omega
  obtain ⟨n, rfl⟩ : ∃ n : Nat, lv = n := ⟨lv.toNat, by omega⟩
  exact cells_true a0 len cap K N n (by omega) w hl hC hTab hT
end Go.Proofs.YtlloanoohphgcaaDoor
