/- A graph's arena, and a marker beside it: what a law's calls leave; Small; at this seat's numbers. -/
import Derived.Test.YtkjpeacnponcfaaGreatDoorLGmA
namespace Go.Proofs.YtkjpeacnponcfaaGreatDoor
open Go Go.RowKit Go.Shelf
set_option linter.unusedSimpArgs false
set_option linter.unusedVariables false
attribute [local go_sem] Oper.semAt_some

structure GmIn (B mb n : Nat) (X : ArB) (s : ArS) (obs : List Ob) (vl : Value) (f : Int → Value) (adj : Int → List Int) (E : Nat → Prop) (T : MkB) (c : Col) (wb wr : World) : Prop where
  go : GoIn B mb n X s obs vl f adj wb wr
  mt : MkAt wr T X.a c
  own : ∀ k, T.has k → B ≤ k ∧ ¬ GoHas X mb vl f k ∧ ¬ E k
  ext : ∀ k, E k → k < wr.heap.size
  inn : ∀ x, c.ma x = true → x ∈ refsI obs
  ex : GmEx B s.P T wb
section
variable {B mb n : Nat} {X : ArB} {s : ArS} {obs : List Ob} {vl : Value} {f : Int → Value} {adj : Int → List Int} {E E' : Nat → Prop} {T T' : MkB} {c c' : Col} {wb wr w' : World}
theorem GmIn.size (h : GmIn B mb n X s obs vl f adj E T c wb wr) : B ≤ wr.heap.size := h.go.ar.size
theorem GmIn.at_ (h : GmIn B mb n X s obs vl f adj E T c wb wr) : MkBy B X s obs T c wb wr := ⟨h.go.ar, h.go.ob, h.mt, fun k e => ⟨(h.own k e).1, fun e2 => (h.own k e).2.1 (.inl e2)⟩, h.inn, h.ex⟩
theorem GmIn.below (h : GmIn B mb n X s obs vl f adj E T c wb wr) : Below B wb wr := h.go.ar.below
theorem GmIn.ask (h : GmIn B mb n X s obs vl f adj E T c wb wr) (hB : Below wr.heap.size wr w') : GmIn B mb n X s obs vl f adj E T c wb w' :=
  ⟨h.go.ask hB, h.mt.turn (Turn.ofBelow hB) (fun k e e2 => Nat.lt_irrefl _ (Nat.lt_of_lt_of_le (h.mt.lt k e) e2)), h.own, fun k e => Nat.lt_of_lt_of_le (h.ext k e) hB.size, h.inn, h.ex⟩
theorem GmIn.alloc (h : GmIn B mb n X s obs vl f adj E T c wb wr) (o : Obj) : GmIn B mb n X s obs vl f adj E T c wb (wr.alloc o) := h.ask ((Below.refl _ wr).alloc (Nat.le_refl _) o)
theorem GmIn.drew (h : GmIn B mb n X s obs vl f adj E T c wb wr) : GmIn B mb n X s obs vl f adj E T c wb wr.drew := h.ask (Below.refl _ wr).drew
theorem GmIn.step (h : GmIn B mb n X s obs vl f adj E T c wb wr) (hA : MkAt w' T' X.a c') (hS : MkStep T wr T' w') (hi : ∀ x, c'.ma x = true → x ∈ refsI obs) : GmIn B mb n X s obs vl f adj E T' c' wb w' ∧ ∀ k, E k → w'.heap[k]? = wr.heap[k]? := by
  have hs := h.size
  refine ⟨⟨h.go.turned hS.turn (fun k e e2 => (h.own k e2).2.1 e) (fun k hk e => by have := (h.own k e).1; omega), hA, fun k e => ?_, fun k e => Nat.lt_of_lt_of_le (h.ext k e) hS.turn.size, hi, h.ex.step hS⟩, fun k e => hS.turn.block k (h.ext k e) (fun e2 => (h.own k e2).2.2 e)⟩
  rcases hS.new k e with e2 | e2
  · exact h.own k e2
  · exact ⟨by omega, fun e3 => by have := h.go.lt k e3; omega, fun e3 => by have := h.ext k e3; omega⟩
/-- Other blocks are watched, that lie in none of the marker's. -/
theorem GmIn.watch (h : GmIn B mb n X s obs vl f adj E T c wb wr) (hB : Below wr.heap.size wr w') (hE : ∀ k, E' k → E k ∨ (wr.heap.size ≤ k ∧ k < w'.heap.size)) : GmIn B mb n X s obs vl f adj E' T c wb w' := by
  have h1 := h.ask hB
  refine ⟨h1.go, h1.mt, fun k e => ⟨(h1.own k e).1, (h1.own k e).2.1, fun e2 => ?_⟩, fun k e => ?_, h1.inn, h1.ex⟩
  · rcases hE k e2 with e3 | ⟨e3, _⟩
    · exact (h.own k e).2.2 e3
    · have := h.mt.lt k e; omega
  · rcases hE k e with e3 | ⟨_, e3⟩
    · exact h1.ext k e3
    · exact e3
theorem gm_new (h : GoIn B mb n X s obs vl f adj wb wr) (hP : s.P = 64) (room : Int) (hE : ∀ k, E k → k < wr.heap.size) (hr : room ≤ 4096) (hD : TabQ wb) (hDB : True) : Calls Tryz.prog 11 #[.pointer (some ⟨X.a, 0, none⟩), .int .i64 room] wr fun e w' =>
    ∃ T : MkB, e = .returned (.pointer (some ⟨T.m, 0, none⟩)) ∧ GmIn B mb n X s obs vl f adj E T Col.white wb w' ∧ Below wr.heap.size wr w' := by
  refine (mkNewM h.ar.at_.toArMem room hr).mono ?_
  rintro e w1 ⟨T, rfl, hTn, hA, hN, hB⟩
  have hs := h.ar.size
  exact ⟨T, rfl, ⟨h.ask hB, hA, fun k e => ⟨by have := hN k e; omega, fun e2 => by have := hN k e; have := h.lt k e2; omega, fun e2 => by have := hN k e; have := hE k e2; omega⟩, fun k e => Nat.lt_of_lt_of_le (hE k e) hB.size, (fun x hx => by cases hx), ⟨hD, hDB, hTn⟩⟩, hB⟩
theorem GmIn.shade (h : GmIn B mb n X s obs vl f adj E T c wb wr) (x : Int) (hx : x ∈ refsI obs) (h1 : 1 ≤ x) (h2 : x ≤ 2048) : Calls Tryz.prog 51 #[.pointer (some ⟨T.m, 0, none⟩), .int .i64 x] wr fun e w' =>
    e = .returned (.bool (!c.ma x)) ∧ ∃ T', T'.m = T.m ∧ GmIn B mb n X s obs vl f adj E T' (c.shade x) wb w' ∧ ∀ k, E k → w'.heap[k]? = wr.heap[k]? := by
  refine (h.at_.shade x hx).mono ?_
  rintro e w1 ⟨rfl, T', hA, hS⟩
  obtain ⟨g, hE⟩ := h.step hA hS fun y hy => by
    have hy2 : updI c.ma x true y = true := hy
    by_cases e : y = x
    · rw [e]; exact hx
    · rw [updI_ne e] at hy2; exact h.inn y hy2
  exact ⟨rfl, T', hS.m, g, hE⟩
end
theorem refs_bound {s : ArS} {obs : List Ob} (ho : Objs s obs) (hF : Fits s) : ∀ x ∈ refsI obs, 1 ≤ x ∧ x ≤ 2048 := fun x hx => by
  obtain ⟨y, hy, rfl⟩ := List.mem_map.1 hx
  obtain ⟨i, hi⟩ := List.mem_iff_getElem?.1 hy
  have := (ho.at_ i y hi).pos hF
  exact ⟨by omega, by omega⟩
theorem refs_nodup {s : ArS} {obs : List Ob} (ho : Objs s obs) : (refsI obs).Nodup := by
  refine List.pairwise_iff_getElem.2 fun i j hi0 hj0 hij h => ?_
  have hi1 := hi0
  have hj1 := hj0
  rw [refsI_length] at hi1 hj1
  have hi : obs[i]? = some obs[i] := List.getElem?_eq_getElem hi1
  have hj2 : obs[j]? = some obs[j] := List.getElem?_eq_getElem hj1
  have e1 := refsI_at hi
  have e2 := refsI_at hj2
  rw [List.getElem?_eq_getElem hi0] at e1
  rw [List.getElem?_eq_getElem hj0, ← h, e1] at e2
  have := ho.apart i j _ _ (by omega) hi hj2
  have h3 := Option.some.inj e2
  omega
theorem ptsAt_no {obs : List Ob} {r : Int} (h : ∀ x ∈ obs, (x.r : Int) ≠ r) : ptsAt obs r = [] := by
  unfold ptsAt
  cases hf : obs.find? (fun y => decide ((y.r : Int) = r)) with
  | none => rfl
  | some y => have := List.find?_some hf; exact absurd (by simpa using this) (h y (List.mem_of_find?_eq_some hf))
theorem pts_zero {x : Ob} : ∀ y ∈ pts x, y ≠ 0 := fun y hy => by
  unfold pts at hy
  obtain ⟨j, hj, rfl⟩ := List.mem_map.1 hy
  unfold elems at hj
  have := (List.mem_filter.1 hj).2
  unfold nz at this
  simpa using this
theorem ptsAt_zero {obs : List Ob} (x : Int) : ∀ y ∈ ptsAt obs x, y ≠ 0 := fun y hy => by
  unfold ptsAt at hy
  split at hy
  · exact pts_zero y hy
  · cases hy
theorem pts_in {obs : List Ob} (hc : Closed obs) {x : Ob} (hx : x ∈ obs) : ∀ y ∈ pts x, y ∈ refsI obs := fun y hy => by
  have h0 := pts_zero y hy
  unfold pts at hy
  obtain ⟨j, hj, rfl⟩ := List.mem_map.1 hy
  unfold elems at hj
  have hj2 := List.mem_range.1 (List.mem_filter.1 hj).1
  rcases hc x hx j hj2 with e | ⟨z, hz, e⟩
  · exact absurd e h0
  · rw [e]; exact List.mem_map.2 ⟨z, hz, rfl⟩
theorem pts_few {s : ArS} {obs : List Ob} (ho : Objs s obs) (hF : Fits s) {x : Ob} (hx : x ∈ obs) : (pts x).length ≤ 6 := by
  obtain ⟨i, hi⟩ := List.mem_iff_getElem?.1 hx
  have h6 := (ho.at_ i x hi).k6 hF
  unfold pts
  rw [List.length_map]
  have := elems_length (nz x.F) x.k
  omega
/-- adj, as Made left it, is where each points. -/
theorem adj_ptsAt {s : ArS} {obs : List Ob} {adj : Int → List Int} (ho : Objs s obs) (h1 : ∀ x ∈ obs, adj (x.r : Int) = pts x) (h2 : ∀ r : Int, (∀ x ∈ obs, (x.r : Int) ≠ r) → adj r = []) : adj = ptsAt obs := by
  funext r
  by_cases h : ∃ x ∈ obs, (x.r : Int) = r
  · obtain ⟨x, hx, rfl⟩ := h
    rw [h1 x hx, ptsAt_mem ho hx]
  · have h3 : ∀ x ∈ obs, (x.r : Int) ≠ r := fun x hx e => h ⟨x, hx, e⟩
    rw [h2 r h3, ptsAt_no h3]
theorem scans_in {obs : List Ob} {s : ArS} (ho : Objs s obs) (hc : Closed obs) {c c' : Col} {l : List Int} (hs : Scans (ptsAt obs) c l c') (hi : ∀ x, c.ma x = true → x ∈ refsI obs) : ∀ x, c'.ma x = true → x ∈ refsI obs := by
  induction hs with
  | nil c => exact hi
  | cons h1 h2 _ ih =>
    refine ih fun y hy => ?_
    rename_i c0 _ x0 _ _
    have hy2 : (c0.ma y || decide (y ∈ ptsAt obs x0)) = true := hy
    cases e : c0.ma y with
    | true => exact hi y e
    | false =>
      rw [e] at hy2
      have e2 : y ∈ ptsAt obs x0 := by simpa using hy2
      obtain ⟨z, hz, hze⟩ := List.mem_map.1 (hi x0 h1)
      rw [← hze, ptsAt_mem ho hz] at e2
      exact pts_in hc hz y e2
section
variable {B mb n : Nat} {X : ArB} {s : ArS} {obs : List Ob} {vl : Value} {f : Int → Value} {adj : Int → List Int} {E E' : Nat → Prop} {T T' : MkB} {c c' : Col} {wb wr w' : World}
end
section
variable {B mb n : Nat} {X : ArB} {s : ArS} {obs : List Ob} {vl : Value} {f : Int → Value} {adj : Int → List Int} {E : Nat → Prop} {T : MkB} {c : Col} {wb wr : World}
end
theorem small_any (a0 : Option Addr) (nf cf : Nat) (e0 : Option Addr) (ne ce : Nat) (w : World) (q : Bool) (hq : (decide (nf ≤ 40) && decide (ne ≤ 120)) = q) : Calls Tryz.prog 9 #[.agg #[.slice a0 nf cf, .slice e0 ne ce]] w fun e w' => e = .returned (.bool q) ∧ Below w.heap.size w w' := by
  have hG := Blk.new w #[.slice a0 nf cf, .slice e0 ne ce] 25
  have c0 := hG.cell 0
  have c1 := hG.cell 1
  simp only [List.getElem?_toArray, List.getElem?_cons_zero, List.getElem?_cons_succ] at c0 c1
  have hB := (Below.refl w.heap.size w).alloc (Nat.le_refl _) (.cells #[.slice a0 nf cf, .slice e0 ne ce] 25)
  by_cases h1 : nf ≤ 40
  · have h1I : (nf : Int) ≤ 40 := by omega
    by_cases h2 : ne ≤ 120
    · have h2I : (ne : Int) ≤ 120 := by omega
      have e : q = true := by rw [← hq, decide_eq_true h1, decide_eq_true h2]; rfl
      subst e
      clear hq h1 h2
      go_enter Tryz.func9, Tryz.ntmps9
      go_wp2_with fail
      go_ret
      exact ⟨rfl, hB⟩
    · have h2I : ¬ (ne : Int) ≤ 120 := by omega
      have e : q = false := by rw [← hq, decide_eq_true h1, decide_eq_false h2]; rfl
      subst e
      clear hq h1 h2
      go_enter Tryz.func9, Tryz.ntmps9
      go_wp2_with fail
      go_ret
      exact ⟨rfl, hB⟩
  · have h1I : ¬ (nf : Int) ≤ 40 := by omega
    have e : q = false := by rw [← hq, decide_eq_false h1]; rfl
    subst e
    clear hq h1
    go_enter Tryz.func9, Tryz.ntmps9
    go_wp2_with fail
    go_ret
    exact ⟨rfl, hB⟩
end Go.Proofs.YtkjpeacnponcfaaGreatDoor
