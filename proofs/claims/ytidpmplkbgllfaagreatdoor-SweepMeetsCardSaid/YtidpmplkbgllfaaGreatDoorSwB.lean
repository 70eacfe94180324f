/- slices.Collect over a page's cells; at this seat's numbers. -/
import Derived.Test.YtidpmplkbgllfaaGreatDoorArCs
import Derived.Test.YtidpmplkbgllfaaGreatDoorRange
import Derived.Test.YtidpmplkbgllfaaGreatDoorSwP
import Derived.Test.YtidpmplkbgllfaaGreatDoorGoB
import Derived.Test.YtidpmplkbgllfaaGreatDoorUa
namespace Go.Proofs.YtidpmplkbgllfaaGreatDoor
open Go Go.RowKit Go.Shelf Go.MuLone Go.RwLone
set_option linter.unusedSimpArgs false
set_option linter.unusedVariables false
attribute [local go_sem] Oper.semAt_some

def clL (p : Nat) (q : List Nat) : List Int := q.map fun o => ((32 * p + o + 1 : Nat) : Int)
theorem clL_snoc (p : Nat) (q : List Nat) (o : Nat) : clL p (q ++ [o]) = clL p q ++ [((32 * p + o + 1 : Nat) : Int)] := by unfold clL; simp
def intsN (l : List Nat) : List Int := l.map fun (r : Nat) => (r : Int)
theorem clL_all (S : Nat → Bool) (p : Nat) : clL p (elems (inPage S p) 32) = intsN (pgL S p) := by
  unfold clL intsN pgL; rw [List.map_map]; rfl
theorem pgVals_append {S : Nat → Bool} {p : Nat} (q : List (InPg S p)) (x : InPg S p) : pgVals (q ++ [x]) = pgVals q ++ [x.1.val] := by unfold pgVals; simp
theorem RefRow.keepSw {w w' : World} {v : Value} {l : List Int} (h : RefRow w v l) (hk : ∀ k, v.ownBlock = some k → w'.heap[k]? = w.heap[k]?) : RefRow w' v l := by
  refine ⟨h.1, ?_⟩
  rcases h.2 with h1 | ⟨g, cap, cur, rfl, hb, hg, rest⟩
  · exact .inl h1
  · exact .inr ⟨g, cap, cur, rfl, hb, (hk g rfl).trans hg, rest⟩
theorem blk_notDefSw {w : World} {k : Nat} {cs : Array Value} {T : TypeId} (h : Blk w k cs T) : ¬ IsDef w k := by
  rintro ⟨ds, hd⟩
  unfold Blk at h
  rw [h] at hd; cases hd
/-- Between two cells. -/
def ClcI {S : Nat → Bool} {p : Nat} (w0 V7 : World) (st : List (InPg S p) × (Nat → Prop)) (V : World) : Prop :=
  ∃ v, RefRow V v (clL p (pgVals st.1)) ∧ Blk V w0.heap.size #[v] 28 ∧ Below w0.heap.size w0 V ∧ V7.heap.size ≤ V.heap.size ∧ (∀ k, v.ownBlock = some k → st.2 k) ∧ (∀ k, st.2 k → V7.heap.size ≤ k)
theorem clcI_own {S : Nat → Bool} {p : Nat} {w0 V7 : World} (h0 : w0.heap.size ≤ V7.heap.size) : OwnFrom V7.heap.size (ClcI (S := S) (p := p) w0 V7) := by
  rintro st V V' row ⟨v, hR, hb1, hB, hs, ho, ho2⟩ hg hr
  exact ⟨v, hR.keepSw (fun k e => hg.block k (hR.lt e) (fun e2 => by
    obtain ⟨_, o, ho3, hc⟩ := hr k e2.symm
    obtain ⟨cur, hcur⟩ := hR.own e
    rw [blk_not hcur ho3] at hc; cases hc)), hb1.kept hg (fun r e => (hr r e).2), (ownFrom_below (β := Unit) (Nat.le_refl _) h0) () V V' row hB hg hr, Nat.le_trans hs hg.size, ho, ho2⟩
section
variable {X : ArB} {s : ArS} {wr : World}
set_option maxRecDepth 100000 in
set_option maxHeartbeats 4000000 in
theorem appendCells (hA : ArMem wr X s) (p : Nat) (hp : p < s.P) (b0 : Nat) (hb : wr.cell? ⟨b0, 0, none⟩ = some (.pointer (some ⟨X.a, 0, none⟩))) (hb1 : wr.cell? ⟨b0 + 1, 0, none⟩ = some (.int .i64 (p : Int))) (hX0 : ∀ k, X.has k → k < b0) :
    Calls Tryz.prog 71 #[.slice none 0 0, .func (.func 44) #[] #[.pointer (some ⟨b0, 0, none⟩), .pointer (some ⟨b0 + 1, 0, none⟩)]] wr fun e w' =>
      ∃ v, e = .returned v ∧ RefRow w' v (intsN (pgL s.S p)) ∧ Below wr.heap.size wr w' ∧ ∀ k, v.ownBlock = some k → wr.heap.size ≤ k := by
  obtain ⟨M, hMM⟩ : ∃ M : Nat, 10 ≤ M := ⟨10, Nat.le_refl _⟩
  have hB1 := (Below.refl wr.heap.size wr).alloc (Nat.le_refl _) (.cells #[.slice none 0 0] 28)
  have hk := Blk.new wr #[.slice none 0 0] 28
  have hs1 : (wr.alloc (.cells #[.slice none 0 0] 28)).heap.size = wr.heap.size + 1 := by simp
  have hA7 := hA.below hB1
  have hl0 := World.block_lt_of_cell? wr _ hb
  have hl1 := World.block_lt_of_cell? wr _ hb1
  have e0 := (hB1.cell (p := ⟨b0, 0, none⟩) hl0).trans hb
  have e1 := (hB1.cell (p := ⟨b0 + 1, 0, none⟩) hl1).trans hb1
  have HW := Lib.hid (And.intro hB1 (And.intro hk (And.intro hs1 (And.intro hA7 (And.intro e0 e1)))))
  clear hB1 hk hs1 hA7 e0 e1
  refine calls_of_wp_marks Tryz.func71 rfl M ?_
  simp only [Tryz.ntmps71, List.size_toArray, List.length_cons, List.length_nil, Nat.reduceAdd, Nat.reduceSub, Array.replicate_succ, Array.replicate_zero, List.push_toArray, List.append_toArray, List.nil_append, List.cons_append]
  gi_wp2_with fail
  obtain ⟨hBw, hk, hs1, hA7, e0, e1⟩ := HW.out
  generalize wr.alloc (.cells #[.slice none 0 0] 28) = V7 at *
  have hXlt := hA7.lt
  have hl0 : b0 < wr.heap.size := hl0
  have hl1 : b0 + 1 < wr.heap.size := hl1
  have h0 : ClcI (S := s.S) (p := p) wr V7 ([], fun _ => False) V7 := ⟨.slice none 0 0, World.ownsRow_nil _ _ _ _, hk, hBw, Nat.le_refl _, fun k e => (by cases e), fun k e => e.elim⟩
  have HS3 := Lib.hid hs1
  refine wpIn_rangeO rfl (by omega) (gf := 44) (lb := #[.pointer (some ⟨b0, 0, none⟩), .pointer (some ⟨b0 + 1, 0, none⟩)]) rfl trivial (enters_of Tryz.func44 (by kernel_rfl) rfl)
    (SeqO.ofK (pg_stops (X := X) (s := s) (M - 1) b0 p hp V7 hA7 e0 e1)) KpAr.trans
    (fun V l o hl => KpAr.putObj (n0 := V7.heap.size) hXlt (by omega) V l o hl) (Below.refl _ _) (fun _ => rfl)
    (ClcI wr V7)
    (fun c st V => False)
    (clcI_own (by omega)) (fun c s V V' row hs hg hr => hs)
    h0 ?a1 ?assign ?body ?done ?stop
  case assign =>
    intro l0 x W K hK
    unfold pgArgs
    gi_wp2
    exact hK
  case body =>
    rintro l0 pre O x V ⟨v, hR, hb1, hB, hVs, ho, ho2⟩ hpl
    have ck1 := hb1.cell 0
    simp only [List.getElem?_toArray, List.getElem?_cons_zero] at ck1
    obtain ⟨xr, hxr⟩ : ∃ xr, xr = 32 * p + x.1.val + 1 := ⟨_, rfl⟩
    have HI := Lib.hid (And.intro hR (And.intro hb1 (And.intro hB (And.intro hVs (And.intro ho (And.intro ho2 hxr))))))
    have hl5 : (clL p (pgVals pre)).length ≤ 100000 := by
      unfold clL pgVals
      rw [List.length_map, List.length_map]
      omega
    have hri : 32 * (p : Int) + ((x.1.val : Nat) : Int) + 1 = (xr : Int) := by omega
    simp only [hri]
    clear hb1 hB hVs ho ho2 hxr hri
    have hBa := (Below.refl V.heap.size V).alloc (Nat.le_refl _) (.cells #[.int .i64 (xr : Int)] 41)
    have hRa := hR.keepSw (w' := V.alloc (.cells #[.int .i64 (xr : Int)] 41)) (fun k e => hBa.block k (hR.lt e))
    have hb1a := HI.out.2.1.alloc (.cells #[.int .i64 (xr : Int)] 41)
    have hvn : ¬ v.ownBlock = some wr.heap.size := fun e => by have := HI.out.2.2.2.2.2.1 _ (HI.out.2.2.2.2.1 _ e); have := HS3.out; omega
    have HBA := Lib.hid (And.intro hBa hvn)
    clear hBa hvn hR
    gi_wp2_with (gi_at_builtin; refine wpListIn_pushT rfl _ _ rfl hRa hl5 V.heap.size 1 (xr : Int) ((Blk.new V _ _).cell 0) rfl rfl ?_; intro g6 n6 c6 w6 hR6 hT6 hN6; have hb6 := hb1a.turn hT6 HBA.out.2; have cb6 := hb6.cell 0; have zb6 := hb6.free 0; simp only [List.getElem?_toArray, List.getElem?_cons_zero] at cb6; have H6 := Lib.hid (And.intro hR6 (And.intro hT6 (And.intro hN6 hb6))); clear hR6 hT6 hN6 hb6 hRa hb1a hl5)
    obtain ⟨hR6, hT6, hN6, hb6⟩ := H6.out
    obtain ⟨hBa, hvn⟩ := HBA.out
    obtain ⟨hR, hb1, hB, hVs, ho, ho2, hxr⟩ := HI.out
    have hs3 := HS3.out
    have t1 : Turn (fun k => k = wr.heap.size ∨ v.ownBlock = some k ∨ V.heap.size ≤ k) V (V.alloc (.cells #[.int .i64 (xr : Int)] 41)) := (Turn.ofBelow hBa).mono fun k _ e => .inr (.inr e)
    have t2 := t1.trans hT6 (fun i _ e => .inr (.inl e))
    have t3 := t2.set ⟨wr.heap.size, 0, none⟩ (.slice (some ⟨g6, 0, none⟩) n6 c6) (.inr (.inl rfl))
    have hlow : ∀ k, k < V7.heap.size → k ≠ wr.heap.size → ¬ (k = wr.heap.size ∨ v.ownBlock = some k ∨ V.heap.size ≤ k) := fun k h1 h2 e => by
      rcases e with e | e | e
      · exact h2 e
      · have := ho2 _ (ho _ e); omega
      · omega
    have hgn : g6 ≠ wr.heap.size := fun e => by
      rcases hN6 with e2 | e2
      · rw [e] at e2; exact hvn e2
      · have e3 := e2; rw [World.size_alloc] at e3; omega
    refine ⟨fun k => O k ∨ V.heap.size ≤ k, ⟨t3.size, fun k hk hkl hn => t3.block k hkl fun e => ?_, fun k e => e⟩, ⟨fun k hk => t3.block k (by have := hXlt k hk; omega) (hlow k (by have := hXlt k hk; omega) (by have := hX0 k hk; omega)), t3.block _ (by omega) (hlow _ (by omega) (by omega)), t3.block _ (by omega) (hlow _ (by omega) (by omega))⟩, .slice (some ⟨g6, 0, none⟩) n6 c6, ?_, (hb6.setAt 0 _).is rfl, hB.trans (t3.below wr.heap.size (by omega) fun k hk => hlow k (by omega) (by omega)), Nat.le_trans hVs t3.size, fun k e => ?_, fun k e => ?_⟩
    · rcases e with e | e | e
      · omega
      · exact hn (ho k e)
      · omega
    · show RefRow _ _ (clL p (pgVals (pre ++ [x])))
      rw [pgVals_append, clL_snoc, ← hxr]
      exact hR6.turn ((Turn.refl (fun k => k = wr.heap.size) w6).set _ _ (.inr rfl)) (fun k e e2 => by
        have e3 := own_slice e
        exact hgn (e3.trans e2))
    · have e3 : g6 = k := own_slice e
      rcases hN6 with e2 | e2
      · rw [e3] at e2; exact .inl (ho k e2)
      · right; rw [World.size_alloc] at e2; omega
    · rcases e with e | e
      · exact ho2 k e
      · omega
  case done =>
    rintro D xs O V hD hxs ⟨v, hR, hb1, hB, hVs, ho, ho2⟩ hK
    have ck1 := hb1.cell 0
    simp only [List.getElem?_toArray, List.getElem?_cons_zero] at ck1
    have hxs2 : pgVals xs = elems (inPage s.S p) 32 := hxs
    rw [show (xs, O).1 = xs from rfl, hxs2, clL_all] at hR
    have hDl : D < V.heap.size := (Array.getElem?_eq_some_iff.mp hK).1
    have HI := Lib.hid (And.intro hR (And.intro hB (And.intro ho ho2)))
    clear hxs hxs2 hR hb1 hb hB ho ho2
    gi_wp2_with fail
    refine leavesP_marksG (B := V7.heap.size) (hi := D + 1) ⟨D, rfl, by omega, by omega, hK, trivial⟩ fun w' hTd => ?_
    refine ⟨_, by simp [results, Tryz.f71, go_sem], v, rfl, ?_, ?_, fun k e => ?_⟩
    · exact HI.out.1.keepSw fun k e => hTd.block k (HI.out.1.lt e) (fun e2 => by
        obtain ⟨cur, hcur⟩ := HI.out.1.own e
        exact blk_notDefSw hcur e2.2)
    · exact HI.out.2.1.trans (hTd.below wr.heap.size (by have := HS3.out; omega) fun k hk e => by have := e.1; have := HS3.out; omega)
    · have := HI.out.2.2.2 k (HI.out.2.2.1 k e); have := HS3.out; omega
  case stop =>
    rintro D c' pre O V hD _ h
    exact h.elim
theorem collectCells (hA : ArMem wr X s) (p : Nat) (hp : p < s.P) (b0 : Nat) (hb : wr.cell? ⟨b0, 0, none⟩ = some (.pointer (some ⟨X.a, 0, none⟩))) (hb1 : wr.cell? ⟨b0 + 1, 0, none⟩ = some (.int .i64 (p : Int))) (hX0 : ∀ k, X.has k → k < b0) :
    Calls Tryz.prog 54 #[.func (.func 44) #[] #[.pointer (some ⟨b0, 0, none⟩), .pointer (some ⟨b0 + 1, 0, none⟩)]] wr fun e w' =>
      ∃ v, e = .returned v ∧ RefRow w' v (intsN (pgL s.S p)) ∧ Below wr.heap.size wr w' ∧ ∀ k, v.ownBlock = some k → wr.heap.size ≤ k := by
  have cA := appendCells hA p hp b0 hb hb1 hX0
  clear hA hb hb1 hX0
  go_enter Tryz.func54, Tryz.ntmps54
  go_wp2_with fail
  refine cA.mono ?_
  rintro e w1 ⟨v, rfl, hR, hB, ho⟩
  have H := Lib.hid (And.intro hR (And.intro hB ho))
  clear cA hR hB ho
  go_wp2_with fail
  go_ret
  exact ⟨v, rfl, H.out⟩
end
end Go.Proofs.YtidpmplkbgllfaaGreatDoor
