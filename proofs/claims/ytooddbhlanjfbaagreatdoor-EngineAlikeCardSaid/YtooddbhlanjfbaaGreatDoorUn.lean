/- A barrier of one block, which names its marker (Dijkstra's, Yuasa's), beside a graph and the marker; t: its type. At this seat's numbers. (Prepared over barriers of our own.) Plain: what Dijkstra's and Yuasa's barriers keep; at this seat's names alone. Dijkstra's barrier: its calls; at this seat's numbers. (Prepared over a dijkstra.go of our own.) A map of colours, unboxed, beside a marker and other blocks; at this seat's numbers. Between two steps of YuasaSnapshot: a graph that is written to, a marker, a barrier; at this seat's numbers. Yuasa's barrier: its calls; at this seat's numbers. (Prepared over a yuasa.go of our own.) -/
import Derived.Test.YtooddbhlanjfbaaGreatDoorUm
import Derived.Deep.RegionHeld3
namespace Go.Proofs.YtooddbhlanjfbaaGreatDoor
open Go Go.RowKit Go.Shelf
set_option linter.unusedSimpArgs false
set_option linter.unusedVariables false

/-- Shaded, if it is anything. -/
def Col.shadeZ (c : Col) (x : Int) : Col := if x = 0 then c else c.shade x
theorem Col.shadeZ_no (c : Col) : c.shadeZ 0 = c := if_pos rfl
theorem Col.shadeZ_yes {c : Col} {x : Int} (h : x ≠ 0) : c.shadeZ x = c.shade x := if_neg h
theorem row_cellB {w : World} {g m cap i : Nat} {l : List Int} {x : Int} (h : RefRow w (.slice (some ⟨g, 0, none⟩) m cap) l) (hi : l[i]? = some x) : w.cell? ⟨g, i, none⟩ = some (.int .i64 x) := by
  obtain ⟨hl, hx⟩ := List.getElem?_eq_some_iff.1 hi
  rcases h.is with ⟨e, _⟩ | ⟨g', cap', cur, e, _, _, _, _, hc⟩
  · cases e
  · cases e
    rw [hc i hl, hx]
/-- A kind of barrier: its type, what its one cell has. -/
structure BrK where
  t : TypeId
  v : Nat → Value
def BrCells (K : BrK) (tm : Nat) : Array Value := #[K.v tm]
/-- A graph, a marker, a barrier at b; other blocks E that their calls keep. -/
structure BrIn (t : BrK) (B mb n : Nat) (X : ArB) (s : ArS) (obs : List Ob) (vl : Value) (f : Int → Value) (adj : Int → List Int) (E : Nat → Prop) (T : MkB) (c : Col) (b tm : Nat) (wb wr : World) : Prop where
  gm : GmIn B mb n X s obs vl f adj (fun k => E k ∨ k = b) T c wb wr
  at_ : Blk wr b (BrCells t tm) t.t
  tm : T.m = tm
section
variable {t : BrK} {B mb n : Nat} {X : ArB} {s : ArS} {obs : List Ob} {vl : Value} {f : Int → Value} {adj : Int → List Int} {E E' : Nat → Prop} {T T' : MkB} {c c' : Col} {b tm : Nat} {wb wr w' : World}
theorem BrIn.ask (h : BrIn t B mb n X s obs vl f adj E T c b tm wb wr) (hB : Below wr.heap.size wr w') : BrIn t B mb n X s obs vl f adj E T c b tm wb w' :=
  ⟨h.gm.ask hB, h.at_.turn (Turn.ofBelow hB) (fun e => Nat.lt_irrefl _ (Nat.lt_of_lt_of_le h.at_.lt e)), h.tm⟩
theorem BrIn.drew (h : BrIn t B mb n X s obs vl f adj E T c b tm wb wr) : BrIn t B mb n X s obs vl f adj E T c b tm wb wr.drew := h.ask (Below.refl _ wr).drew
theorem BrIn.alloc (h : BrIn t B mb n X s obs vl f adj E T c b tm wb wr) (o : Obj) : BrIn t B mb n X s obs vl f adj E T c b tm wb (wr.alloc o) := h.ask ((Below.refl _ wr).alloc (Nat.le_refl _) o)
/-- A marker's call beside the barrier. -/
theorem BrIn.went (h : BrIn t B mb n X s obs vl f adj E T c b tm wb wr) (hm : T'.m = T.m) (hG : GmIn B mb n X s obs vl f adj (fun k => E k ∨ k = b) T' c' wb w') (hk : ∀ k, (E k ∨ k = b) → w'.heap[k]? = wr.heap[k]?) :
    BrIn t B mb n X s obs vl f adj E T' c' b tm wb w' ∧ ∀ k, E k → w'.heap[k]? = wr.heap[k]? :=
  ⟨⟨hG, by have h1 := h.at_; unfold Blk at *; rw [hk b (.inr rfl)]; exact h1, hm.trans h.tm⟩, fun k e => hk k (.inl e)⟩
theorem BrIn.cell (h : BrIn t B mb n X s obs vl f adj E T c b tm wb wr) : wr.cell? ⟨b, 0, none⟩ = some (t.v tm) := h.at_.cell 0
/-- The barrier is laid. -/
theorem BrIn.made (h : GmIn B mb n X s obs vl f adj E T c wb wr) (hm : T.m = tm) : BrIn t B mb n X s obs vl f adj E T c wr.heap.size tm wb (wr.alloc (.cells (BrCells t tm) t.t)) :=
  ⟨h.watch ((Below.refl _ wr).alloc (Nat.le_refl _) _) (fun k e => by
    rcases e with e | e
    · exact .inl e
    · exact .inr ⟨by omega, by simp; omega⟩), Blk.new wr _ _, hm⟩
/-- An object, or nothing, is shaded. -/
theorem BrIn.shade (h : BrIn t B mb n X s obs vl f adj E T c b tm wb wr) (x : Int) (hx : x ∈ refsI obs ∨ x = 0) (hb : ∀ y ∈ refsI obs, 1 ≤ y ∧ y ≤ 2048) :
    Calls Tryz.prog 15 #[.pointer (some ⟨tm, 0, none⟩), .int .i64 x] wr fun e w' =>
    ∃ q, e = .returned (.bool q) ∧ ∃ T', BrIn t B mb n X s obs vl f adj E T' (c.shadeZ x) b tm wb w' ∧ ∀ k, (E k ∨ k = b) → w'.heap[k]? = wr.heap[k]? := by
  rcases hx with hx | rfl
  · obtain ⟨h1, h2⟩ := hb x hx
    have hS := h.gm.shade x hx h1 h2
    rw [h.tm] at hS
    refine hS.mono ?_
    rintro e w1 ⟨rfl, T', hm, hG, hk⟩
    have hne : x ≠ 0 := by omega
    rw [Col.shadeZ_yes hne]
    exact ⟨_, rfl, T', (h.went (hm.trans h.tm.symm) hG hk).1, hk⟩
  · have hS := mkShadeNo h.gm.mt h.gm.go.ar.at_.toArMem 0 (by
      cases hS : inS s.S 0 with
      | false => rfl
      | true =>
        have h2 : s.S 0 = true := by simpa [inS] using hS
        have := (h.gm.go.ar.at_.fits.at_ 0 h2).1
        omega)
    rw [h.tm] at hS
    refine hS.mono ?_
    rintro e w1 ⟨rfl, hB⟩
    rw [Col.shadeZ_no]
    exact ⟨_, rfl, T, h.ask hB, fun k e => hB.block k (h.gm.ext k e)⟩
theorem BrIn.watch (h : BrIn t B mb n X s obs vl f adj E T c b tm wb wr) (hB : Below wr.heap.size wr w') (hE : ∀ k, E' k → E k ∨ (wr.heap.size ≤ k ∧ k < w'.heap.size)) : BrIn t B mb n X s obs vl f adj E' T c b tm wb w' :=
  ⟨h.gm.watch hB fun k e => by
    rcases e with e | e
    · rcases hE k e with e2 | e2
      · exact .inl (.inl e2)
      · exact .inr e2
    · exact .inl (.inr e), (h.ask hB).at_, h.tm⟩
theorem BrIn.less (h : BrIn t B mb n X s obs vl f adj E T c b tm wb wr) (hE : ∀ k, E' k → E k) : BrIn t B mb n X s obs vl f adj E' T c b tm wb wr :=
  ⟨h.gm.reE fun k e => by
    rcases e with e | e
    · exact ⟨fun e2 => (h.gm.own k e2).2.2 (.inl (hE k e)), h.gm.ext k (.inl (hE k e))⟩
    · exact ⟨fun e2 => (h.gm.own k e2).2.2 (.inr e), h.gm.ext k (.inr e)⟩, h.at_, h.tm⟩
/-- A box beside it, among what calls keep. -/
theorem BrIn.box (h : BrIn t B mb n X s obs vl f adj E T c b tm wb wr) (o : Obj) : BrIn t B mb n X s obs vl f adj (fun k => E k ∨ k = wr.heap.size) T c b tm wb (wr.alloc o) :=
  h.watch ((Below.refl _ wr).alloc (Nat.le_refl _) _) fun k e => by
    rcases e with e | e
    · exact .inl e
    · exact .inr ⟨by omega, by simp; omega⟩
end
end Go.Proofs.YtooddbhlanjfbaaGreatDoor

namespace Go.Proofs.YtooddbhlanjfbaaGreatDoor
open Go Go.RowKit
/-- No black object points to a white one. -/
structure Clo (P : Int → List Int) (c : Col) : Prop where
  sub : ∀ x, c.sc x = true → c.ma x = true
  clo : ∀ x, c.sc x = true → ∀ y ∈ P x, c.ma y = true
/-- What is marked, or one that is safe and not black leads to it. -/
inductive Safe (P : Int → List Int) (c : Col) : Int → Prop
  | ma {x : Int} : c.ma x = true → Safe P c x
  | step {x y : Int} : Safe P c x → y ∈ P x → c.sc x = false → Safe P c y
section
variable {P P' : Int → List Int} {c c' : Col} {l : List Int} {x y z : Int}
theorem shade_ma (h : c.ma y = true) : (c.shade x).ma y = true := by
  show updI c.ma x true y = true
  by_cases e : y = x
  · rw [e, updI_at]
  · rw [updI_ne e]; exact h
theorem shadeZ_ma (h : c.ma y = true) : (c.shadeZ x).ma y = true := by
  unfold Col.shadeZ; split
  · exact h
  · exact shade_ma h
theorem shadeZ_at (h : x ≠ 0) : (c.shadeZ x).ma x = true := by
  rw [Col.shadeZ_yes h]; exact updI_at _ _ _
theorem shadeZ_sc : (c.shadeZ x).sc = c.sc := by unfold Col.shadeZ; split <;> rfl
theorem shadeZ_ma_iff : (c.shadeZ x).ma y = true ↔ c.ma y = true ∨ y = x ∧ x ≠ 0 := by
  unfold Col.shadeZ
  by_cases e : x = 0
  · rw [if_pos e]; simp [e]
  · rw [if_neg e]
    show updI c.ma x true y = true ↔ _
    by_cases e2 : y = x
    · rw [e2, updI_at]; simp [e]
    · rw [updI_ne e2]; simp [e2]
theorem scan_ma (h : c.ma y = true) : (c.scan P x).ma y = true := by show (c.ma y || _) = true; rw [h]; rfl
theorem scan_pt (h : y ∈ P x) : (c.scan P x).ma y = true := by show (_ || decide (y ∈ P x)) = true; rw [decide_eq_true h]; simp
theorem clo_white : Clo P Col.white := ⟨fun x h => (by cases h), fun x h => (by cases h)⟩
theorem Clo.shade (h : Clo P c) (x : Int) : Clo P (c.shade x) := ⟨fun y hy => shade_ma (h.sub y hy), fun y hy z hz => shade_ma (h.clo y hy z hz)⟩
theorem Clo.shadeZ (h : Clo P c) (x : Int) : Clo P (c.shadeZ x) := by
  unfold Col.shadeZ; split
  · exact h
  · exact h.shade x
theorem Clo.scan (h : Clo P c) (hm : c.ma x = true) : Clo P (c.scan P x) := by
  have cut : ∀ y, (c.scan P x).sc y = true → y = x ∨ c.sc y = true := fun y hy => by
    have hy2 : updI c.sc x true y = true := hy
    by_cases e : y = x
    · exact .inl e
    · rw [updI_ne e] at hy2; exact .inr hy2
  refine ⟨fun y hy => ?_, fun y hy z hz => ?_⟩
  · rcases cut y hy with e | e
    · rw [e]; exact scan_ma hm
    · exact scan_ma (h.sub y e)
  · rcases cut y hy with e | e
    · rw [e] at hz; exact scan_pt hz
    · exact scan_ma (h.clo y e z hz)
theorem Clo.scans (h : Clo P c) (hs : Scans P c l c') : Clo P c' := by
  induction hs with
  | nil c => exact h
  | cons h1 h2 _ ih => exact ih (h.scan h1)
/-- A field is written, and what was written is shaded. -/
theorem Clo.write (h : Clo P c) (hP : ∀ z, z ≠ x → P' z = P z) (hx : ∀ u ∈ P' x, u ∈ P x ∨ u = y) (hz : ∀ u ∈ P' x, u ≠ 0) : Clo P' (c.shadeZ y) := by
  refine ⟨(h.shadeZ y).sub, fun z hz0 u hu => ?_⟩
  rw [shadeZ_sc] at hz0
  by_cases e : z = x
  · rw [e] at hu hz0
    rcases hx u hu with e2 | e2
    · exact shadeZ_ma (h.clo x hz0 u e2)
    · have := hz u hu
      rw [e2] at this ⊢; exact shadeZ_at this
  · rw [hP z e] at hu; exact shadeZ_ma (h.clo z hz0 u hu)
theorem Safe.shade (h : Safe P c z) (x : Int) : Safe P (c.shade x) z := by
  induction h with
  | ma h => exact .ma (shade_ma h)
  | step _ h2 h3 ih => exact .step ih h2 h3
theorem Safe.shadeZ (h : Safe P c z) (x : Int) : Safe P (c.shadeZ x) z := by
  unfold Col.shadeZ; split
  · exact h
  · exact h.shade x
theorem Safe.scan (h : Safe P c z) : Safe P (c.scan P x) z := by
  induction h with
  | ma h => exact .ma (scan_ma h)
  | @step u v _ h2 h3 ih =>
    by_cases e : u = x
    · rw [e] at h2; exact .ma (scan_pt h2)
    · exact .step ih h2 (by show updI c.sc x true u = false; rw [updI_ne e]; exact h3)
theorem Safe.scans (hs : Scans P c l c') : Safe P c z → Safe P c' z := by
  induction hs with
  | nil c => exact id
  | cons h1 h2 _ ih => exact fun h => ih h.scan
/-- A field is written, and what was taken away is shaded. -/
theorem Safe.write (h : Safe P c z) (hP : ∀ u, u ≠ x → P' u = P u) (hx : ∀ u ∈ P x, u ∈ P' x ∨ u = y) (h0 : ∀ u ∈ P x, u ≠ 0) : Safe P' (c.shadeZ y) z := by
  induction h with
  | ma h => exact .ma (shadeZ_ma h)
  | @step u v _ h2 h3 ih =>
    have h3' : (c.shadeZ y).sc u = false := by rw [shadeZ_sc]; exact h3
    by_cases e : u = x
    · subst e
      rcases hx v h2 with e2 | e2
      · exact .step ih e2 h3'
      · have := h0 v h2
        rw [e2] at this ⊢; exact .ma (shadeZ_at this)
    · exact .step ih (by rw [hP u e]; exact h2) h3'
/-- Where none is grey, all that is safe is marked. -/
theorem Safe.dry (h : Safe P c z) (hd : c.dry) : c.ma z = true := by
  induction h with
  | ma h => exact h
  | step _ _ h3 ih => rw [hd _ ih] at h3; cases h3
theorem Safe.ofRch {fr : List Int} (h : Rch fr P z) (hr : ∀ x ∈ fr, x ≠ 0 → c.ma x = true) (hw : ∀ x, c.sc x = false) : Safe P c z := by
  induction h with
  | root h1 h2 => exact .ma (hr _ h1 h2)
  | step _ h2 _ ih => exact .step ih h2 (hw _)
end
end Go.Proofs.YtooddbhlanjfbaaGreatDoor

namespace Go.Proofs.YtooddbhlanjfbaaGreatDoor
open Go Go.RowKit Go.Shelf
set_option linter.unusedSimpArgs false
set_option linter.unusedVariables false
attribute [local go_sem] Oper.semAt_some

def djK : BrK := ⟨102, fun tm => .pointer (some ⟨tm, 0, none⟩)⟩
theorem dj_new (tm : Nat) (w : World) : Calls Tryz.prog 25 #[.pointer (some ⟨tm, 0, none⟩)] w fun e w' => e = .returned (.pointer (some ⟨w.heap.size, 0, none⟩)) ∧ w.alloc (.cells (BrCells djK tm) djK.t) = w' := by
  go_enter Tryz.func25, Tryz.ntmps25
  go_wp2_with fail
  go_ret
  exact ⟨rfl, rfl⟩
theorem dj_pre (b : Nat) (x y : Int) (w : World) : Calls Tryz.prog 181 #[.pointer (some ⟨b, 0, none⟩), .int .i64 x, .int .i64 y] w fun e w' => e = .returned (.tuple #[]) ∧ w = w' := by
  go_enter Tryz.func181, Tryz.ntmps181
  go_wp2_with fail
  refine bodyPost_end (results_none rfl _ _ _) rfl ?_
  exact ⟨rfl, rfl⟩
theorem dj_remark (b : Nat) (w : World) : Calls Tryz.prog 182 #[.pointer (some ⟨b, 0, none⟩)] w fun e w' => e = .returned (.tuple #[]) ∧ w = w' := by
  go_enter Tryz.func182, Tryz.ntmps182
  go_wp2_with fail
  refine bodyPost_end (results_none rfl _ _ _) rfl ?_
  exact ⟨rfl, rfl⟩
theorem dj_reset (b : Nat) (w : World) : Calls Tryz.prog 184 #[.pointer (some ⟨b, 0, none⟩)] w fun e w' => e = .returned (.tuple #[]) ∧ w = w' := by
  go_enter Tryz.func184, Tryz.ntmps184
  go_wp2_with fail
  refine bodyPost_end (results_none rfl _ _ _) rfl ?_
  exact ⟨rfl, rfl⟩
theorem dj_rescans (b : Nat) (w : World) : Calls Tryz.prog 183 #[.pointer (some ⟨b, 0, none⟩)] w fun e w' => e = .returned (.bool true) ∧ w = w' := by
  go_enter Tryz.func183, Tryz.ntmps183
  go_wp2_with fail
  go_ret
  exact ⟨rfl, rfl⟩
section
variable {B mb n : Nat} {X : ArB} {s : ArS} {obs : List Ob} {vl : Value} {f : Int → Value} {adj : Int → List Int} {E E' : Nat → Prop} {T T' : MkB} {c c' : Col} {b tm : Nat} {wb wr w' : World}
/-- A write is told: what is written is shaded. -/
theorem dj_post (h : BrIn djK B mb n X s obs vl f adj E T c b tm wb wr) (x o y : Int) (p q : Bool) (hy : y ∈ refsI obs ∨ y = 0) (hb : ∀ y ∈ refsI obs, 1 ≤ y ∧ y ≤ 2048) :
    Calls Tryz.prog 180 #[.pointer (some ⟨b, 0, none⟩), .agg #[.int .i64 x, .int .i64 o, .int .i64 y, .bool p, .bool q]] wr fun e w' =>
    e = .returned (.tuple #[]) ∧ ∃ T', BrIn djK B mb n X s obs vl f adj E T' (c.shadeZ y) b tm wb w' ∧ ∀ k, E k → w'.heap[k]? = wr.heap[k]? := by
  have hB1 := (Below.refl wr.heap.size wr).alloc (Nat.le_refl _) (.cells #[.int .i64 x, .int .i64 o, .int .i64 y, .bool p, .bool q] 67)
  have hW := Blk.new wr #[.int .i64 x, .int .i64 o, .int .i64 y, .bool p, .bool q] 67
  have c1 : (wr.alloc (.cells #[.int .i64 x, .int .i64 o, .int .i64 y, .bool p, .bool q] 67)).cell? ⟨b, 0, none⟩ = some (.pointer (some ⟨tm, 0, none⟩)) := (h.ask hB1).cell
  have c2 := hW.cell 2
  simp only [List.getElem?_toArray, List.getElem?_cons_zero, List.getElem?_cons_succ] at c2
  have cC := (h.box (.cells #[.int .i64 x, .int .i64 o, .int .i64 y, .bool p, .bool q] 67)).drew.shade y hy hb
  clear hW
  go_enter Tryz.func180, Tryz.ntmps180
  go_wp2_with fail
  go_region_held3 (fun w' => w'.cell? ⟨b, 0, none⟩ = some (.pointer (some ⟨tm, 0, none⟩)) ∧ w'.cell? ⟨wr.heap.size, 2, none⟩ = some (.int .i64 y)) (first | exact hS9 | exact ⟨c1, c2⟩)
    (first
      | (go_at_call 15; refine cC.mono ?_; rintro e w2 ⟨qq, rfl, T', hS, hE⟩; have hS9 : w2.cell? ⟨b, 0, none⟩ = some (.pointer (some ⟨tm, 0, none⟩)) ∧ w2.cell? ⟨wr.heap.size, 2, none⟩ = some (.int .i64 y) := ⟨hS.cell, (World.cell?_of_block (a := ⟨wr.heap.size, 2, none⟩) (hE _ (.inl (.inr rfl)))).trans c2⟩))
  all_goals
    go_wp2_with fail
    refine bodyPost_end (results_none rfl _ _ _) rfl ?_
    exact ⟨rfl, T', hS.less (fun k e => .inl e), fun k e => (hE k (.inl (.inl e))).trans (hB1.block k (h.gm.ext k (.inl e)))⟩
end
end Go.Proofs.YtooddbhlanjfbaaGreatDoor

namespace Go.Proofs.YtooddbhlanjfbaaGreatDoor
open Go Go.RowKit Go.Shelf
set_option linter.unusedSimpArgs false
set_option linter.unusedVariables false

/-- Block rb is a map of numbers, one of those that a marker's calls keep. -/
structure HuA (B mb n rb q : Nat) (X : ArB) (s : ArS) (obs : List Ob) (vl : Value) (f : Int → Value) (adj : Int → List Int) (E : Nat → Prop) (wb : World) (hue : Int → Int) (T : MkB) (c : Col) (wr : World) : Prop where
  gm : GmIn B mb n X s obs vl f adj E T c wb wr
  hE : E rb
  map : ∃ nn K cc, nn ≤ q ∧ MapIn wr rb nn hue K cc
  far : B ≤ rb ∧ ¬ GoHas X mb vl f rb
section
variable {B mb n rb q : Nat} {X : ArB} {s : ArS} {obs : List Ob} {vl : Value} {f : Int → Value} {adj : Int → List Int} {E E' : Nat → Prop} {T T' : MkB} {c c' : Col} {wb wr w' : World} {hue : Int → Int}
theorem HuA.ask (h : HuA B mb n rb q X s obs vl f adj E wb hue T c wr) (hB : Below wr.heap.size wr w') : HuA B mb n rb q X s obs vl f adj E wb hue T c w' := by
  obtain ⟨nn, K, cc, hn, hM⟩ := h.map
  exact ⟨h.gm.ask hB, h.hE, ⟨nn, K, cc, hn, hM.ask hB⟩, h.far⟩
theorem HuA.up {q' : Nat} (h : HuA B mb n rb q X s obs vl f adj E wb hue T c wr) (hq : q ≤ q') : HuA B mb n rb q' X s obs vl f adj E wb hue T c wr := by
  obtain ⟨nn, K, cc, hn, hM⟩ := h.map
  exact ⟨h.gm, h.hE, ⟨nn, K, cc, by omega, hM⟩, h.far⟩
theorem HuA.look (h : HuA B mb n rb q X s obs vl f adj E wb hue T c wr) (x : Int) (hx : (Lit.int .i64 x).wf = true) (v : Int) (hv : hue x = v) :
    (Instr.lookup 42 (.map (some rb)) (.int .i64 x) false).run Tryz.prog wr = .ok (.int .i64 v) wr := by
  obtain ⟨nn, K, cc, hn, hM⟩ := h.map
  subst hv
  exact hM.look x hx
/-- A marker's call, or a barrier's. -/
theorem HuA.went (h : HuA B mb n rb q X s obs vl f adj E wb hue T c wr) (hG : GmIn B mb n X s obs vl f adj E T' c' wb w') (hk : w'.heap[rb]? = wr.heap[rb]?) : HuA B mb n rb q X s obs vl f adj E wb hue T' c' w' := by
  obtain ⟨nn, K, cc, hn, hM⟩ := h.map
  exact ⟨hG, h.hE, ⟨nn, K, cc, hn, hM.keep hk⟩, h.far⟩
/-- The map is told a colour. -/
theorem HuA.put (h : HuA B mb n rb q X s obs vl f adj E wb hue T c wr) (hq : q ≤ 100000) (x : Int) (hx : (Lit.int .i64 x).wf = true) (v : Int) (hv : (Lit.int .i64 v).wf = true) :
    ∃ w', (Instr.mapUpdate 42 (.map (some rb)) (.int .i64 x) (.int .i64 v)).run Tryz.prog wr = .ok () w' ∧ HuA B mb n rb (q + 1) X s obs vl f adj E wb (updI hue x v) T c w' ∧ Turn (fun k => k = rb) wr w' := by
  obtain ⟨nn, K, cc, hn, hM⟩ := h.map
  obtain ⟨w', hrun, hM', hT⟩ := hM.store (by omega) x hx v hv
  exact ⟨w', hrun, ⟨h.gm.turnE hT (fun k e => ⟨e ▸ h.hE, e ▸ h.far.1, e ▸ h.far.2⟩), h.hE, ⟨_, _, _, by omega, hM'⟩, h.far⟩, hT⟩
theorem HuA.reE (h : HuA B mb n rb q X s obs vl f adj E wb hue T c wr) (hG : GmIn B mb n X s obs vl f adj E' T c wb wr) (hE : E' rb) : HuA B mb n rb q X s obs vl f adj E' wb hue T c wr := ⟨hG, hE, h.map, h.far⟩
/-- A new map. -/
theorem HuA.made (h : GmIn B mb n X s obs vl f adj (fun _ => False) T c wb wr) : HuA B mb n wr.heap.size 0 X s obs vl f adj (fun k => k = wr.heap.size) wb (fun _ => 0) T c (wr.alloc (.map #[] 0)) :=
  ⟨h.watch ((Below.refl _ wr).alloc (Nat.le_refl _) _) fun k e => .inr ⟨Nat.le_of_eq (show wr.heap.size = k from e.symm), by have e2 : k = wr.heap.size := e; simp; omega⟩, rfl, ⟨0, _, 0, Nat.le_refl _, MapIn.made wr⟩, h.size, fun e => by have := h.go.lt _ e; omega⟩
end
/-- A map of colours, and a barrier beside it. -/
structure HuB (t : BrK) (B mb n rb q : Nat) (X : ArB) (s : ArS) (obs : List Ob) (vl : Value) (f : Int → Value) (adj : Int → List Int) (wb : World) (hue : Int → Int) (T : MkB) (c : Col) (b tm : Nat) (wr : World) : Prop where
  br : BrIn t B mb n X s obs vl f adj (fun k => k = rb) T c b tm wb wr
  map : ∃ nn K cc, nn ≤ q ∧ MapIn wr rb nn hue K cc
  far : B ≤ rb ∧ ¬ GoHas X mb vl f rb
section
variable {t : BrK} {B mb n rb q b tm : Nat} {X : ArB} {s : ArS} {obs : List Ob} {vl : Value} {f : Int → Value} {adj : Int → List Int} {T T' : MkB} {c c' : Col} {wb wr w' : World} {hue : Int → Int}
theorem HuB.hu (h : HuB t B mb n rb q X s obs vl f adj wb hue T c b tm wr) : HuA B mb n rb q X s obs vl f adj (fun k => k = rb ∨ k = b) wb hue T c wr := ⟨h.br.gm, .inl rfl, h.map, h.far⟩
theorem HuB.ask (h : HuB t B mb n rb q X s obs vl f adj wb hue T c b tm wr) (hB : Below wr.heap.size wr w') : HuB t B mb n rb q X s obs vl f adj wb hue T c b tm w' := ⟨h.br.ask hB, (h.hu.ask hB).map, h.far⟩
theorem HuB.look (h : HuB t B mb n rb q X s obs vl f adj wb hue T c b tm wr) (x : Int) (hx : (Lit.int .i64 x).wf = true) (v : Int) (hv : hue x = v) :
    (Instr.lookup 42 (.map (some rb)) (.int .i64 x) false).run Tryz.prog wr = .ok (.int .i64 v) wr := h.hu.look x hx v hv
theorem HuB.went (h : HuB t B mb n rb q X s obs vl f adj wb hue T c b tm wr) (hG : BrIn t B mb n X s obs vl f adj (fun k => k = rb) T' c' b tm wb w') (hk : w'.heap[rb]? = wr.heap[rb]?) : HuB t B mb n rb q X s obs vl f adj wb hue T' c' b tm w' := by
  obtain ⟨nn, K, cc, hn, hM⟩ := h.map
  exact ⟨hG, ⟨nn, K, cc, hn, hM.keep hk⟩, h.far⟩
theorem HuB.put (h : HuB t B mb n rb q X s obs vl f adj wb hue T c b tm wr) (hq : q ≤ 100000) (x : Int) (hx : (Lit.int .i64 x).wf = true) (v : Int) (hv : (Lit.int .i64 v).wf = true) :
    ∃ w', (Instr.mapUpdate 42 (.map (some rb)) (.int .i64 x) (.int .i64 v)).run Tryz.prog wr = .ok () w' ∧ HuB t B mb n rb (q + 1) X s obs vl f adj wb (updI hue x v) T c b tm w' := by
  obtain ⟨w', hrun, h2, hT⟩ := h.hu.put hq x hx v hv
  obtain ⟨nn, K, cc, hn, hM⟩ := h.map
  have hne : ¬ b = rb := fun e => hM.farBlk h.br.at_ e
  exact ⟨w', hrun, ⟨h2.gm, h.br.at_.turn hT hne, h.br.tm⟩, h2.map, h2.far⟩
theorem HuB.made (h : HuA B mb n rb q X s obs vl f adj (fun k => k = rb) wb hue T c wr) (hm : T.m = tm) : HuB t B mb n rb q X s obs vl f adj wb hue T c wr.heap.size tm (wr.alloc (.cells (BrCells t tm) t.t)) :=
  ⟨BrIn.made h.gm hm, (h.ask ((Below.refl _ wr).alloc (Nat.le_refl _) _)).map, h.far⟩
end
/-- Colours by the map, behind a shading. -/
theorem Hue.shadeZ {R : List Int} {c : Col} {f : Int → Int} {x v : Int} (h : Hue R c f) (hx : x ∈ R) (h0 : x ≠ 0) (hv : f x = v) : Hue R (c.shadeZ x) (updI f x (if v < 1 then 1 else v)) := by
  rw [Col.shadeZ_yes h0, ← hv]; exact h.shade hx
/-- Only of the first some are marked. -/
def Fro (R : List Int) (i : Nat) (c : Col) : Prop := ∀ z, c.ma z = true → z ∈ R.take i
section
variable {R : List Int} {i : Nat} {c : Col} {x : Int} {f : Int → Int}
theorem not_take (hn : R.Nodup) (hx : R[i]? = some x) : x ∉ R.take i := fun h => by
  obtain ⟨j, hj⟩ := List.mem_iff_getElem?.1 h
  rw [List.getElem?_take] at hj
  split at hj
  · obtain ⟨l1, e1⟩ := List.getElem?_eq_some_iff.1 hj
    obtain ⟨l2, e2⟩ := List.getElem?_eq_some_iff.1 hx
    exact List.pairwise_iff_getElem.1 hn j i l1 l2 (by assumption) (by rw [e1, e2])
  · cases hj
theorem fro_white (R : List Int) : Fro R 0 Col.white := fun z h => by cases h
theorem Fro.next (h : Fro R i c) (hx : R[i]? = some x) : Fro R (i + 1) c := fun z hz => by rw [take_nextR hx]; exact List.mem_append.2 (.inl (h z hz))
theorem Fro.put (h : Fro R i c) (hx : R[i]? = some x) : ∀ z, updI c.ma x true z = true → z ∈ R.take (i + 1) := fun z hz => by
  rw [take_nextR hx]
  by_cases e : z = x
  · rw [e]; simp
  · rw [updI_ne e] at hz; exact List.mem_append.2 (.inl (h z hz))
/-- The next one is white yet: it is shaded, and its colour is 1. -/
theorem Fro.hue (h : Fro R i c) (hn : R.Nodup) (hx : R[i]? = some x) (hH : Hue R c f) : Hue R (c.shade x) (updI f x 1) := by
  have hxR : x ∈ R := List.mem_of_getElem? hx
  have hm : c.ma x = false := by
    cases e : c.ma x with
    | false => rfl
    | true => exact absurd (h x e) (not_take hn hx)
  have h0 := hH.zero hxR
  rw [hm] at h0
  have h1 : f x = 0 := by simpa using h0
  have h2 := hH.shade hxR
  rw [h1] at h2
  simpa using h2
end
end Go.Proofs.YtooddbhlanjfbaaGreatDoor

namespace Go.Proofs.YtooddbhlanjfbaaGreatDoor
open Go Go.RowKit Go.Shelf
set_option linter.unusedSimpArgs false
set_option linter.unusedVariables false

structure YsA (t : BrK) (B mb n tm bt xa : Nat) (R : List Int) (vl : Value) (f : Int → Value) (adj : Int → List Int) (E : Nat → Prop) (wb : World) (X : ArB) (s : ArS) (obs : List Ob) (T : MkB) (c : Col) (wr : World) : Prop where
  br : BrIn t B mb n X s obs vl f adj E T c bt tm wb wr
  far : ∀ k, (E k ∨ k = bt) → ¬ X.has k
  xa : X.a = xa
  re : refsI obs = R
  cl : Closed obs
section
variable {t : BrK} {B mb n tm bt xa : Nat} {R : List Int} {vl : Value} {f : Int → Value} {adj : Int → List Int} {E E' : Nat → Prop} {wb : World} {X : ArB} {s : ArS} {obs : List Ob} {T T' : MkB} {c c' : Col} {wr w' : World}
theorem YsA.watch (h : YsA t B mb n tm bt xa R vl f adj E wb X s obs T c wr) (hB : Below wr.heap.size wr w') (hE : ∀ k, E' k → E k ∨ (wr.heap.size ≤ k ∧ k < w'.heap.size)) : YsA t B mb n tm bt xa R vl f adj E' wb X s obs T c w' :=
  ⟨h.br.watch hB hE, fun k e e2 => by
    rcases e with e | e
    · rcases hE k e with e3 | e3
      · exact h.far k (.inl e3) e2
      · have := h.br.gm.go.ar.at_.lt k e2; omega
    · exact h.far k (.inr e) e2, h.xa, h.re, h.cl⟩
theorem YsA.ask (h : YsA t B mb n tm bt xa R vl f adj E wb X s obs T c wr) (hB : Below wr.heap.size wr w') : YsA t B mb n tm bt xa R vl f adj E wb X s obs T c w' := h.watch hB (fun _ e => .inl e)
theorem YsA.less (h : YsA t B mb n tm bt xa R vl f adj E wb X s obs T c wr) (hE : ∀ k, E' k → E k) : YsA t B mb n tm bt xa R vl f adj E' wb X s obs T c wr := ⟨h.br.less hE, fun k e => h.far k (e.imp (hE k) id), h.xa, h.re, h.cl⟩
/-- A marker's call. -/
theorem YsA.went (h : YsA t B mb n tm bt xa R vl f adj E wb X s obs T c wr) (hm : T'.m = tm) (hG : GmIn B mb n X s obs vl f adj (fun k => E k ∨ k = bt) T' c' wb w') (hk : ∀ k, (E k ∨ k = bt) → w'.heap[k]? = wr.heap[k]?) : YsA t B mb n tm bt xa R vl f adj E wb X s obs T' c' w' :=
  ⟨(h.br.went (hm.trans h.br.tm.symm) hG hk).1, h.far, h.xa, h.re, h.cl⟩
/-- The barrier's. -/
theorem YsA.told (h : YsA t B mb n tm bt xa R vl f adj E wb X s obs T c wr) (hG : BrIn t B mb n X s obs vl f adj E T' c' bt tm wb w') : YsA t B mb n tm bt xa R vl f adj E wb X s obs T' c' w' := ⟨hG, h.far, h.xa, h.re, h.cl⟩
/-- What a field that is written over led to. -/
theorem ptsAt_lost {s s' : ArS} {obs : List Ob} {i j : Nat} {x : Ob} {y : Int} (ho : Objs s obs) (ho' : Objs s' (obs.set i { x with F := Go.Proofs.YtooddbhlanjfbaaGreatDoor.upd x.F j y })) (hx : obs[i]? = some x) :
    ∀ u ∈ ptsAt obs (x.r : Int), u ∈ ptsAt (obs.set i { x with F := Go.Proofs.YtooddbhlanjfbaaGreatDoor.upd x.F j y }) (x.r : Int) ∨ u = x.F j := by
  intro u hu
  have hi : i < obs.length := (List.getElem?_eq_some_iff.1 hx).1
  have hxm : x ∈ obs := List.mem_of_getElem? hx
  have hym : ({ x with F := Go.Proofs.YtooddbhlanjfbaaGreatDoor.upd x.F j y } : Ob) ∈ obs.set i { x with F := Go.Proofs.YtooddbhlanjfbaaGreatDoor.upd x.F j y } := List.mem_of_getElem? (i := i) (by simp [hi])
  have e1' : ptsAt (obs.set i { x with F := Go.Proofs.YtooddbhlanjfbaaGreatDoor.upd x.F j y }) (x.r : Int) = pts { x with F := Go.Proofs.YtooddbhlanjfbaaGreatDoor.upd x.F j y } := ptsAt_mem ho' hym
  rw [ptsAt_mem ho hxm] at hu
  rw [e1']
  unfold pts elems nz at hu ⊢
  obtain ⟨t, ht, rfl⟩ := List.mem_map.1 hu
  obtain ⟨ht1, ht2⟩ := List.mem_filter.1 ht
  by_cases e : t = j
  · right; rw [e]
  · left
    have e3 : Go.Proofs.YtooddbhlanjfbaaGreatDoor.upd x.F j y t = x.F t := by simp [Go.Proofs.YtooddbhlanjfbaaGreatDoor.upd, e]
    refine List.mem_map.2 ⟨t, List.mem_filter.2 ⟨ht1, ?_⟩, e3⟩
    show (!decide (Go.Proofs.YtooddbhlanjfbaaGreatDoor.upd x.F j y t = 0)) = true
    rw [e3]; exact ht2
/-- A field is set. -/
theorem YsA.set (h : YsA t B mb n tm bt xa R vl f adj E wb X s obs T c wr) {i j : Nat} {x y : Ob} (hx : obs[i]? = some x) (hy : y ∈ obs) (hj : j < x.k) :
    Calls Tryz.prog 36 #[.pointer (some ⟨xa, 0, none⟩), .int .i64 (x.r : Int), .int .i64 (j : Int), .int .i64 (y.r : Int)] wr fun e w' =>
      e = .returned (.int .i64 0) ∧ ∃ X' s', YsA t B mb n tm bt xa R vl f adj E wb X' s' (obs.set i { x with F := Go.Proofs.YtooddbhlanjfbaaGreatDoor.upd x.F j (y.r : Int) }) T c w' ∧ (∀ k, E k → w'.heap[k]? = wr.heap[k]?) ∧
        (∀ z : Int, z ≠ (x.r : Int) → ptsAt (obs.set i { x with F := Go.Proofs.YtooddbhlanjfbaaGreatDoor.upd x.F j (y.r : Int) }) z = ptsAt obs z) ∧ ∀ u ∈ ptsAt obs (x.r : Int), u ∈ ptsAt (obs.set i { x with F := Go.Proofs.YtooddbhlanjfbaaGreatDoor.upd x.F j (y.r : Int) }) (x.r : Int) ∨ u = x.F j := by
  have cS := h.br.gm.setField hx hj (y.r : Int) h.far
  rw [h.xa] at cS
  refine cS.mono ?_
  rintro e w5 ⟨rfl, lo, hG, hk, hf⟩
  exact ⟨rfl, X.with lo, _, ⟨⟨hG, by have h1 := h.br.at_; unfold Blk at *; rw [hk bt (.inr rfl)]; exact h1, h.br.tm⟩, hf, h.xa, (refsI_set (x := { x with F := Go.Proofs.YtooddbhlanjfbaaGreatDoor.upd x.F j (y.r : Int) }) hx rfl).trans h.re, h.cl.set hx hy rfl⟩, fun k e => hk k (.inl e), (ptsAt_set h.br.gm.go.ob hG.go.ob hx).1, ptsAt_lost h.br.gm.go.ob hG.go.ob hx⟩
end
/-- The least of some numbers. -/
theorem least_of {P : Nat → Prop} (h : ∃ k, P k) : ∃ k, P k ∧ ∀ j, P j → k ≤ j := by
  obtain ⟨k, hk⟩ := h
  induction k using Nat.strongRecOn with
  | _ k ih =>
    by_cases e : ∃ j, j < k ∧ P j
    · obtain ⟨j, hj, hp⟩ := e; exact ih j hj hp
    · exact ⟨k, hk, fun j hj => Nat.le_of_not_lt fun h => e ⟨j, h, hj⟩⟩
open Classical in
noncomputable def leastN (P : Nat → Prop) : Nat := if h : ∃ k, P k then Classical.choose (least_of h) else 0
theorem leastN_is {P : Nat → Prop} (h : ∃ k, P k) : P (leastN P) := by
  unfold leastN; rw [dif_pos h]; exact (Classical.choose_spec (least_of h)).1
theorem leastN_le {P : Nat → Prop} {k : Nat} (h : P k) : leastN P ≤ k := by
  unfold leastN; rw [dif_pos ⟨k, h⟩]; exact (Classical.choose_spec (least_of ⟨k, h⟩)).2 k h
/-- How many are not scanned yet. -/
def leftU (R : List Int) (c : Col) : Nat := (R.filter fun x => !c.sc x).length
theorem leftU_less {P : Int → List Int} {c c' : Col} {l R : List Int} {x : Int} (h : Scans P c (x :: l) c') (hx : x ∈ R) : leftU R c' < leftU R c := by
  have h1 := h.once
  have hsc : c.sc x = false := (h1.2.1 x (by simp)).1
  have hmono : ∀ {c c' : Col} {l : List Int}, Scans P c l c' → ∀ y, c.sc y = true → c'.sc y = true := fun {c c' l} h => by
    induction h with
    | nil c => exact fun _ h => h
    | @cons c c' u l _ _ _ ih =>
      intro y hy
      refine ih y ?_
      show updI c.sc u true y = true
      by_cases e : y = u
      · rw [e, updI_at]
      · rw [updI_ne e]; exact hy
  have hsc' : c'.sc x = true := by
    cases h with
    | cons _ _ h3 => exact hmono h3 x (updI_at _ _ _)
  unfold leftU
  have sub : ∀ R : List Int, (R.filter fun x => !c'.sc x).length ≤ (R.filter fun x => !c.sc x).length := fun R => by
    induction R with
    | nil => exact Nat.le_refl _
    | cons y R ih =>
      have := hmono h y
      cases e : c.sc y <;> cases e' : c'.sc y <;> simp_all <;> omega
  induction R with
  | nil => cases hx
  | cons y R ih =>
    rcases List.mem_cons.1 hx with e | e
    · subst e
      have := sub R
      simp [hsc, hsc']; omega
    · have h2 := ih e
      have := hmono h y
      cases e : c.sc y <;> cases e' : c'.sc y <;> simp_all <;> omega
end Go.Proofs.YtooddbhlanjfbaaGreatDoor

namespace Go.Proofs.YtooddbhlanjfbaaGreatDoor
open Go Go.RowKit Go.Shelf
set_option linter.unusedSimpArgs false
set_option linter.unusedVariables false
attribute [local go_sem] Oper.semAt_some

def yuK : BrK := ⟨104, fun tm => .func (.func 15) #[.pointer (some ⟨tm, 0, none⟩)] #[]⟩
theorem yu_new (tm : Nat) (w : World) : Calls Tryz.prog 26 #[.pointer (some ⟨tm, 0, none⟩)] w fun e w' => e = .returned (.pointer (some ⟨w.heap.size, 0, none⟩)) ∧ w.alloc (.cells (BrCells yuK tm) yuK.t) = w' := by
  have hmf : ∀ (fn : Fn) (first cap : Array Value) (w : World), (Instr.makeFunc fn first cap).run Tryz.prog w = .ok (.func fn first cap) w := fun _ _ _ _ => rfl
  go_enter Tryz.func26, Tryz.ntmps26
  go_wp2_with fail
  go_ret
  exact ⟨rfl, rfl⟩
theorem yu_remark (b : Nat) (w : World) : Calls Tryz.prog 187 #[.pointer (some ⟨b, 0, none⟩)] w fun e w' => e = .returned (.tuple #[]) ∧ w = w' := by
  go_enter Tryz.func187, Tryz.ntmps187
  go_wp2_with fail
  refine bodyPost_end (results_none rfl _ _ _) rfl ?_
  exact ⟨rfl, rfl⟩
theorem yu_reset (b : Nat) (w : World) : Calls Tryz.prog 189 #[.pointer (some ⟨b, 0, none⟩)] w fun e w' => e = .returned (.tuple #[]) ∧ w = w' := by
  go_enter Tryz.func189, Tryz.ntmps189
  go_wp2_with fail
  refine bodyPost_end (results_none rfl _ _ _) rfl ?_
  exact ⟨rfl, rfl⟩
theorem yu_rescans (b : Nat) (w : World) : Calls Tryz.prog 188 #[.pointer (some ⟨b, 0, none⟩)] w fun e w' => e = .returned (.bool false) ∧ w = w' := by
  go_enter Tryz.func188, Tryz.ntmps188
  go_wp2_with fail
  go_ret
  exact ⟨rfl, rfl⟩
section
variable {B mb n : Nat} {X : ArB} {s : ArS} {obs : List Ob} {vl : Value} {f : Int → Value} {adj : Int → List Int} {E E' : Nat → Prop} {T T' : MkB} {c c' : Col} {b tm : Nat} {wb wr w' : World}
/-- What is taken away is shaded. -/
theorem yu_pre (h : BrIn yuK B mb n X s obs vl f adj E T c b tm wb wr) (x o : Int) (ho : o ∈ refsI obs ∨ o = 0) (hb : ∀ y ∈ refsI obs, 1 ≤ y ∧ y ≤ 2048) :
    Calls Tryz.prog 186 #[.pointer (some ⟨b, 0, none⟩), .int .i64 x, .int .i64 o] wr fun e w' =>
    e = .returned (.tuple #[]) ∧ ∃ T', BrIn yuK B mb n X s obs vl f adj E T' (c.shadeZ o) b tm wb w' ∧ ∀ k, E k → w'.heap[k]? = wr.heap[k]? := by
  have c1 : wr.cell? ⟨b, 0, none⟩ = some (.func (.func 15) #[.pointer (some ⟨tm, 0, none⟩)] #[]) := h.cell
  have cC := h.shade o ho hb
  go_enter Tryz.func186, Tryz.ntmps186
  go_wp2_with fail
  refine cC.mono ?_
  rintro e w2 ⟨qq, rfl, T', hS, hE⟩
  clear cC c1
  go_wp2_with fail
  refine bodyPost_end (results_none rfl _ _ _) rfl ?_
  exact ⟨rfl, T', hS, fun k e => hE k (.inl e)⟩
/-- A write is told: what was taken away is shaded; early on what is written is, too. -/
theorem yu_post (h : BrIn yuK B mb n X s obs vl f adj E T c b tm wb wr) (x o y : Int) (p q : Bool) (ho : o ∈ refsI obs ∨ o = 0) (hy : y ∈ refsI obs ∨ y = 0) (hb : ∀ y ∈ refsI obs, 1 ≤ y ∧ y ≤ 2048) :
    Calls Tryz.prog 185 #[.pointer (some ⟨b, 0, none⟩), .agg #[.int .i64 x, .int .i64 o, .int .i64 y, .bool p, .bool q]] wr fun e w' =>
    e = .returned (.tuple #[]) ∧ ∃ T', BrIn yuK B mb n X s obs vl f adj E T' ((c.shadeZ o).shadeZ (if q then y else 0)) b tm wb w' ∧ ∀ k, E k → w'.heap[k]? = wr.heap[k]? := by
  have hB1 := (Below.refl wr.heap.size wr).alloc (Nat.le_refl _) (.cells #[.int .i64 x, .int .i64 o, .int .i64 y, .bool p, .bool q] 67)
  have hW := Blk.new wr #[.int .i64 x, .int .i64 o, .int .i64 y, .bool p, .bool q] 67
  have c1 : (wr.alloc (.cells #[.int .i64 x, .int .i64 o, .int .i64 y, .bool p, .bool q] 67)).cell? ⟨b, 0, none⟩ = some (.func (.func 15) #[.pointer (some ⟨tm, 0, none⟩)] #[]) := (h.ask hB1).cell
  have c2 := hW.cell 1
  have d2 := hW.cell 2
  have d4 := hW.cell 4
  simp only [List.getElem?_toArray, List.getElem?_cons_zero, List.getElem?_cons_succ] at c2 d2 d4
  have cC := (h.box (.cells #[.int .i64 x, .int .i64 o, .int .i64 y, .bool p, .bool q] 67)).drew.shade o ho hb
  have HD := Lib.hid (And.intro d2 d4)
  clear hW d2 d4
  go_enter Tryz.func185, Tryz.ntmps185
  go_wp2_with fail
  go_region_held3 (fun w' => w'.cell? ⟨b, 0, none⟩ = some (.func (.func 15) #[.pointer (some ⟨tm, 0, none⟩)] #[]) ∧ w'.cell? ⟨wr.heap.size, 1, none⟩ = some (.int .i64 o)) (first | exact hS9 | exact ⟨c1, c2⟩)
    (first
      | (go_at_call 15; refine cC.mono ?_; rintro e w2 ⟨qq, rfl, T', hS, hE⟩; have hS9 : w2.cell? ⟨b, 0, none⟩ = some (.func (.func 15) #[.pointer (some ⟨tm, 0, none⟩)] #[]) ∧ w2.cell? ⟨wr.heap.size, 1, none⟩ = some (.int .i64 o) := ⟨hS.cell, (World.cell?_of_block (a := ⟨wr.heap.size, 1, none⟩) (hE _ (.inl (.inr rfl)))).trans c2⟩))
  all_goals
    have hkW := hE _ (.inl (.inr rfl))
    have e2 := (World.cell?_of_block (a := ⟨wr.heap.size, 2, none⟩) hkW).trans HD.out.1
    have e4 := (World.cell?_of_block (a := ⟨wr.heap.size, 4, none⟩) hkW).trans HD.out.2
    have hE' : ∀ k, E k → w2.heap[k]? = wr.heap[k]? := fun k e => (hE k (.inl (.inl e))).trans (hB1.block k (h.gm.ext k (.inl e)))
    have HS := Lib.hid (And.intro (hS.less (E' := E) (fun k e => .inl e)) hE')
    have f1 : w2.cell? ⟨b, 0, none⟩ = some (.func (.func 15) #[.pointer (some ⟨tm, 0, none⟩)] #[]) := hS.cell
    have cC2 := hS.drew.shade y hy hb
    clear cC c1 c2 hS9 hS hE hkW hE'
    cases q with
    | false =>
      clear cC2
      go_wp2_with fail
      refine bodyPost_end (results_none rfl _ _ _) rfl ?_
      rw [Col.shadeZ_no]
      exact ⟨rfl, ⟨T', HS.out.1⟩, HS.out.2⟩
    | true =>
      go_wp2_with fail
      go_region_held3 (fun w' => w'.cell? ⟨b, 0, none⟩ = some (.func (.func 15) #[.pointer (some ⟨tm, 0, none⟩)] #[]) ∧ w'.cell? ⟨wr.heap.size, 2, none⟩ = some (.int .i64 y)) (first | exact hS8 | exact ⟨f1, e2⟩)
        (first
          | (go_at_call 15; refine cC2.mono ?_; rintro e w3 ⟨qq3, rfl, T3, hS3, hE3⟩; have hS8 : w3.cell? ⟨b, 0, none⟩ = some (.func (.func 15) #[.pointer (some ⟨tm, 0, none⟩)] #[]) ∧ w3.cell? ⟨wr.heap.size, 2, none⟩ = some (.int .i64 y) := ⟨hS3.cell, (World.cell?_of_block (a := ⟨wr.heap.size, 2, none⟩) (hE3 _ (.inl (.inr rfl)))).trans e2⟩))
      all_goals
        go_wp2_with fail
        refine bodyPost_end (results_none rfl _ _ _) rfl ?_
        exact ⟨rfl, ⟨T3, hS3.less (fun k e => .inl e)⟩, fun k e => (hE3 k (.inl (.inl e))).trans (HS.out.2 k e)⟩
end
end Go.Proofs.YtooddbhlanjfbaaGreatDoor
