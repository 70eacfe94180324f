/- law 16's order: of all cells those that a map counts, rising; at this seat's numbers. -/
import Derived.Test.YtooddbhlanjfbaaGreatDoorArQ
import Derived.Test.YtooddbhlanjfbaaGreatDoorEnP
import Derived.Test.YtooddbhlanjfbaaGreatDoorUk
import Derived.Test.YtooddbhlanjfbaaGreatDoorUn
import Derived.Test.YtooddbhlanjfbaaGreatDoorEnC
namespace Go.Proofs.YtooddbhlanjfbaaGreatDoor
open Go Go.RowKit Go.Shelf Go.MuLone Go.RwLone
set_option linter.unusedSimpArgs false
set_option linter.unusedVariables false
attribute [local go_sem] Oper.semAt_some

def ordL (hue : Int → Int) (q : List Nat) : List Int := (q.map fun j => ((j : Nat) : Int)).filter fun z => decide (0 < hue z)
theorem ordL_snoc (hue : Int → Int) (q : List Nat) (j : Nat) : ordL hue (q ++ [j]) = ordL hue q ++ (if 0 < hue (j : Int) then [(j : Int)] else []) := by
  unfold ordL
  rw [List.map_append, List.filter_append]
  congr 1
  simp only [List.map_cons, List.map_nil, List.filter_cons, List.filter_nil]
  by_cases h : 0 < hue (j : Int)
  · rw [decide_eq_true h, if_pos h]; rfl
  · rw [decide_eq_false h, if_neg h]; rfl
theorem ordL_length (hue : Int → Int) (q : List Nat) : (ordL hue q).length ≤ q.length := by
  unfold ordL; exact Nat.le_trans (List.length_filter_le _ _) (by rw [List.length_map]; exact Nat.le_refl _)
/-- Between two cells. -/
def OrdI (w0 V7 : World) (rb : Nat) (hue : Int → Int) (st : List (Fin 4096) × (Nat → Prop)) (V : World) : Prop :=
  ∃ v, RefRow V v (ordL hue (st.1.map Fin.val)) ∧ Blk V (w0.heap.size + 1) #[v] 33 ∧ Blk V w0.heap.size #[.map (some rb)] 42 ∧ Below w0.heap.size w0 V ∧ V7.heap.size ≤ V.heap.size ∧ (∀ k, v.ownBlock = some k → st.2 k) ∧ (∀ k, st.2 k → V7.heap.size ≤ k)
theorem ordI_own {w0 V7 : World} {rb : Nat} {hue : Int → Int} (h0 : w0.heap.size ≤ V7.heap.size) : OwnFrom V7.heap.size (OrdI w0 V7 rb hue) := by
  rintro st V V' row ⟨v, hR, hb1, hb0, hB, hs, ho, ho2⟩ hg hr
  exact ⟨v, hR.keepG (fun k e => hg.block k (hR.lt e) (fun e2 => by
    obtain ⟨_, o, ho3, hc⟩ := hr k e2.symm
    obtain ⟨cur, hcur⟩ := hR.own e
    rw [blk_not hcur ho3] at hc; cases hc)), hb1.kept hg (fun r e => (hr r e).2), hb0.kept hg (fun r e => (hr r e).2), (ownFrom_below (β := Unit) (Nat.le_refl _) h0) () V V' row hB hg hr, Nat.le_trans hs hg.size, ho, ho2⟩
section
variable {X : ArB} {s : ArS} {wr : World} {rb nn cc : Nat} {hue : Int → Int} {K : Int → Bool}
set_option maxRecDepth 100000 in
set_option maxHeartbeats 4000000 in
theorem order_any (hA : ArMem wr X s) (hT : TabAt wr) (hM : MapIn wr rb nn hue K cc) (hP : s.P ≤ 64) :
    Calls Tryz.prog 17 #[.pointer (some ⟨X.a, 0, none⟩), .map (some rb)] wr fun e w' =>
      ∃ v, e = .returned v ∧ RefRow w' v (ordL hue (elems s.S (32 * s.P + 1))) ∧ Below wr.heap.size wr w' ∧ ∀ k, v.ownBlock = some k → wr.heap.size ≤ k := by
  obtain ⟨M, hMM⟩ : ∃ M : Nat, 10 ≤ M := ⟨10, Nat.le_refl _⟩
  have hB1 := (Below.refl wr.heap.size wr).alloc (Nat.le_refl _) (.cells #[.map (some rb)] 42)
  have hB2 := hB1.alloc (by simp) (.cells #[.slice none 0 0] 33)
  have hb0 := (Blk.new wr #[.map (some rb)] 42).alloc (.cells #[.slice none 0 0] 33)
  have hb1 := Blk.new (wr.alloc (.cells #[.map (some rb)] 42)) #[.slice none 0 0] 33
  rw [World.size_alloc] at hb1
  have hs2 : ((wr.alloc (.cells #[.map (some rb)] 42)).alloc (.cells #[.slice none 0 0] 33)).heap.size = wr.heap.size + 2 := by simp
  have HW := Lib.hid (And.intro hB2 (And.intro hb0 (And.intro hb1 hs2)))
  clear hB1 hB2 hb0 hb1 hs2
  refine calls_of_wp_marks Tryz.func17 rfl M ?_
  simp only [Tryz.ntmps17, List.size_toArray, List.length_cons, List.length_nil, Nat.reduceAdd, Nat.reduceSub, Array.replicate_succ, Array.replicate_zero, List.push_toArray, List.append_toArray, List.nil_append, List.cons_append]
  gi_wp2_with fail
  refine ⟨trivial, fun h => (by cases h), ?_⟩
  obtain ⟨hB2, hb0, hb1, hs2⟩ := HW.out
  clear HW
  generalize (wr.alloc (.cells #[.map (some rb)] 42)).alloc (.cells #[.slice none 0 0] 33) = W2 at *
  refine (callsIn_wide.2 (allfn_any X.a W2)).mono ?_
  rintro e w' ⟨rfl, rfl⟩
  have hB3 := (Below.refl W2.heap.size W2).alloc (Nat.le_refl _) (.cells #[.pointer (some ⟨X.a, 0, none⟩)] 32)
  have hbA := Blk.new W2 #[.pointer (some ⟨X.a, 0, none⟩)] 32
  have e0 : (W2.alloc (.cells #[.pointer (some ⟨X.a, 0, none⟩)] 32)).cell? ⟨W2.heap.size, 0, none⟩ = some (.pointer (some ⟨X.a, 0, none⟩)) := hbA.cell 0
  have hs3 : (W2.alloc (.cells #[.pointer (some ⟨X.a, 0, none⟩)] 32)).heap.size = wr.heap.size + 3 := by simp [hs2]
  have hBw := hB2.trans (hB3.mono (by omega))
  have hb0' := hb0.turn (Turn.ofBelow hB3) (fun e => by omega)
  have hb1' := hb1.turn (Turn.ofBelow hB3) (fun e => by omega)
  have HS2 := Lib.hid hs2
  clear hs2
  have HX := Lib.hid (And.intro e0 (And.intro hs3 (And.intro hBw (And.intro hb0' hb1'))))
  clear hB3 hbA e0 hs3 hBw hb0' hb1' hb0 hb1 hB2
  gi_wp2_with fail
  obtain ⟨e0, hs3, hBw, hb0, hb1⟩ := HX.out
  have hs2 := HS2.out
  clear HX
  generalize W2.alloc (.cells #[.pointer (some ⟨X.a, 0, none⟩)] 32) = V7 at *
  have hA7 := hA.below hBw
  have hT7 : TabAt V7 := hT.below hBw
  have hXlt := hA.lt
  have hTlt := hT.lt
  have hrb := hM.lt
  have h0 : OrdI wr V7 rb hue ([], fun _ => False) V7 := ⟨.slice none 0 0, World.ownsRow_nil _ _ _ _, hb1, hb0, hBw, Nat.le_refl _, fun k e => (by cases e), fun k e => e.elim⟩
  have HS3 := Lib.hid hs3
  refine wpIn_rangeO rfl (by omega) (gf := 68) (lb := #[.pointer (some ⟨W2.heap.size, 0, none⟩)]) rfl trivial (enters_of Tryz.func68 (by kernel_rfl) rfl)
    (allA_seq (M - 1) (by omega) W2.heap.size V7 hA7 hT7 e0) KpAll.trans
    (fun V l o hl => KpAll.putObj (n0 := V7.heap.size) (fun k hk => by have := hXlt k hk; omega) (by omega) (by omega) V l o hl) (Below.refl _ _) (fun _ => rfl)
    (OrdI wr V7 rb hue)
    (fun c st V => False)
    (ordI_own (by omega)) (fun c s V V' row hs hg hr => hs)
    h0 ?a1 ?assign ?body ?done ?stop
  case assign =>
    intro l0 x W K hK
    gi_wp2
    exact hK
  case body =>
    rintro l0 pre O x V ⟨v, hR, hb1, hb0, hB, hVs, ho, ho2⟩ hpl
    have hM9 := hM.ask hB
    have hwx : (Lit.int .i64 ((x.val : Nat) : Int)).wf = true := by have := x.2; simp [Lit.wf, IntKind.min, IntKind.max, IntKind.signed, IntKind.bits]; omega
    have hlk := hM9.look ((x.val : Nat) : Int) hwx
    have ck0 := hb0.cell 0
    have ck1 := hb1.cell 0
    simp only [List.getElem?_toArray, List.getElem?_cons_zero] at ck0 ck1
    obtain ⟨hv, hhv⟩ : ∃ hv, hue ((x.val : Nat) : Int) = hv := ⟨_, rfl⟩
    rw [hhv] at hlk
    have HI := Lib.hid (And.intro hR (And.intro hb1 (And.intro hb0 (And.intro hB (And.intro hVs (And.intro ho (And.intro ho2 hhv)))))))
    clear hR hb1 hb0 hB hVs ho ho2 hM9 hhv
    by_cases hp : 0 < hv
    · have hl5 : (ordL hue (pre.map Fin.val)).length ≤ 100000 := by
        have h1 := ordL_length hue (pre.map Fin.val)
        rw [List.length_map] at h1
        have h2 : pre.length < 32 * s.P + 1 := hpl
        omega
      have hBa := (Below.refl V.heap.size V).alloc (Nat.le_refl _) (.cells #[.int .i64 ((x.val : Nat) : Int)] 44)
      have hRa := HI.out.1.keepG (w' := V.alloc (.cells #[.int .i64 ((x.val : Nat) : Int)] 44)) (fun k e => hBa.block k (HI.out.1.lt e))
      have hb1a := HI.out.2.1.alloc (.cells #[.int .i64 ((x.val : Nat) : Int)] 44)
      have hvn : ¬ v.ownBlock = some (wr.heap.size + 1) := fun e => by have := HI.out.2.2.2.2.2.2.1 _ (HI.out.2.2.2.2.2.1 _ e); have := HS3.out; omega
      have HBA := Lib.hid (And.intro hBa hvn)
      clear hBa hvn
      gi_wp2_with (gi_at_builtin; refine wpListIn_pushT rfl _ _ rfl hRa hl5 V.heap.size 1 ((x.val : Nat) : Int) ((Blk.new V _ _).cell 0) rfl rfl ?_; intro g6 n6 c6 w6 hR6 hT6 hN6; have hb6 := hb1a.turn hT6 HBA.out.2; have cb6 := hb6.cell 0; have zb6 := hb6.free 0; simp only [List.getElem?_toArray, List.getElem?_cons_zero] at cb6; have H6 := Lib.hid (And.intro hR6 (And.intro hT6 (And.intro hN6 hb6))); clear hR6 hT6 hN6 hb6 hRa hb1a hl5)
      obtain ⟨hR6, hT6, hN6, hb6⟩ := H6.out
      obtain ⟨hBa, hvn⟩ := HBA.out
      obtain ⟨hR, hb1, hb0, hB, hVs, ho, ho2, hhv⟩ := HI.out
      have hs3 := HS3.out
      have t1 : Turn (fun k => k = wr.heap.size + 1 ∨ v.ownBlock = some k ∨ V.heap.size ≤ k) V (V.alloc (.cells #[.int .i64 ((x.val : Nat) : Int)] 44)) := (Turn.ofBelow hBa).mono fun k _ e => .inr (.inr e)
      have t2 := t1.trans hT6 (fun i _ e => .inr (.inl e))
      have t3 := t2.set ⟨wr.heap.size + 1, 0, none⟩ (.slice (some ⟨g6, 0, none⟩) n6 c6) (.inr (.inl rfl))
      have hlow : ∀ k, k < V7.heap.size → k ≠ wr.heap.size + 1 → ¬ (k = wr.heap.size + 1 ∨ v.ownBlock = some k ∨ V.heap.size ≤ k) := fun k h1 h2 e => by
        rcases e with e | e | e
        · exact h2 e
        · have := ho2 _ (ho _ e); omega
        · omega
      have hgn : g6 ≠ wr.heap.size + 1 := fun e => by
        rcases hN6 with e2 | e2
        · rw [e] at e2; exact hvn e2
        · have e3 := e2; rw [World.size_alloc] at e3; omega
      refine ⟨fun k => O k ∨ V.heap.size ≤ k, ⟨t3.size, fun k hk hkl hn => t3.block k hkl fun e => ?_, fun k e => e⟩, KpAll.ofTurn t3 (fun k hk => ⟨by have := hXlt k hk; omega, hlow k (by have := hXlt k hk; omega) (by have := hXlt k hk; omega)⟩) (by omega) (hlow _ (by omega) (by omega)) (by omega) (hlow _ (by omega) (by omega)), .slice (some ⟨g6, 0, none⟩) n6 c6, ?_, (hb6.setAt 0 _).is rfl, hb0.turn t3 (hlow _ (by omega) (by omega)), hB.trans (t3.below wr.heap.size (by omega) fun k hk => hlow k (by omega) (by omega)), Nat.le_trans hVs t3.size, fun k e => ?_, fun k e => ?_⟩
      · rcases e with e | e | e
        · omega
        · exact hn (ho k e)
        · omega
      · show RefRow _ _ (ordL hue ((pre ++ [x]).map Fin.val))
        rw [List.map_append, List.map_cons, List.map_nil, ordL_snoc, if_pos (by rw [hhv]; exact hp)]
        exact hR6.turn ((Turn.refl (fun k => k = wr.heap.size + 1) w6).set _ _ (.inr rfl)) (fun k e e2 => by
          have e3 := own_slice e
          exact hgn (e3.trans e2))
      · have e3 : g6 = k := own_slice e
        rcases hN6 with e2 | e2
        · rw [e3] at e2; exact .inl (ho k e2)
        · right; rw [World.size_alloc] at e2; omega
      · rcases e with e | e
        · exact ho2 k e
        · omega
    · gi_wp2_with fail
      refine ⟨O, Owned.refl _ _ _, ⟨fun _ _ => rfl, rfl, rfl⟩, v, ?_, HI.out.2.1, HI.out.2.2.1, HI.out.2.2.2.1, HI.out.2.2.2.2.1, HI.out.2.2.2.2.2.1, HI.out.2.2.2.2.2.2.1⟩
      show RefRow V v (ordL hue ((pre ++ [x]).map Fin.val))
      rw [List.map_append, List.map_cons, List.map_nil, ordL_snoc, if_neg (by rw [HI.out.2.2.2.2.2.2.2]; omega), List.append_nil]
      exact HI.out.1
  case done =>
    rintro D xs O V hD hxs ⟨v, hR, hb1, hb0, hB, hVs, ho, ho2⟩ hK
    have ck1 := hb1.cell 0
    simp only [List.getElem?_toArray, List.getElem?_cons_zero] at ck1
    have hxs2 : xs.map Fin.val = elems s.S (32 * s.P + 1) := hxs
    rw [show (xs, O).1 = xs from rfl, hxs2] at hR
    have hDl : D < V.heap.size := (Array.getElem?_eq_some_iff.mp hK).1
    have HI := Lib.hid (And.intro hR (And.intro hB (And.intro ho ho2)))
    clear hxs hxs2 hR hb1 hb0 hB ho ho2
    gi_wp2_with fail
    refine leavesP_marksG (B := V7.heap.size) (hi := D + 1) ⟨D, rfl, by omega, by omega, hK, trivial⟩ fun w' hTd => ?_
    refine ⟨_, by simp [results, Tryz.f17, go_sem], v, rfl, ?_, ?_, fun k e => ?_⟩
    · exact HI.out.1.keepG fun k e => hTd.block k (HI.out.1.lt e) (fun e2 => by
        obtain ⟨cur, hcur⟩ := HI.out.1.own e
        exact hcur.notDef e2.2)
    · exact HI.out.2.1.trans (hTd.below wr.heap.size (by have := HS3.out; omega) fun k hk e => by have := e.1; have := HS3.out; omega)
    · have := HI.out.2.2.2 k (HI.out.2.2.1 k e); have := HS3.out; omega
  case stop =>
    rintro D c' pre O V hD _ h
    exact h.elim
end
end Go.Proofs.YtooddbhlanjfbaaGreatDoor
