/- What Made leaves, as a sweep's laws want it (no table of bits needed); law 18's fit; at this seat's numbers. -/
import Derived.Test.YtidpmplkbgllfaaGreatDoorSwE
import Derived.Test.YtidpmplkbgllfaaGreatDoorGoW
namespace Go.Proofs.YtidpmplkbgllfaaGreatDoor
open Go Go.RowKit Go.Shelf Go.MuLone Go.RwLone
set_option linter.unusedSimpArgs false
set_option linter.unusedVariables false
attribute [local go_sem] Oper.semAt_some

theorem swSmall (a0 : Option Addr) (nf cf : Nat) (e0 : Option Addr) (ne ce : Nat) (w : World) (q : Bool) (hq : (decide (nf ≤ 40) && decide (ne ≤ 120)) = q) : Calls Tryz.prog 7 #[.agg #[.slice a0 nf cf, .slice e0 ne ce]] w fun e w' => e = .returned (.bool q) ∧ Below w.heap.size w w' := by
  have hG := Blk.new w #[.slice a0 nf cf, .slice e0 ne ce] 25
  have c0 := hG.cell 0
  have c1 := hG.cell 1
  simp only [List.getElem?_toArray, List.getElem?_cons_zero, List.getElem?_cons_succ] at c0 c1
  have hB := (Below.refl w.heap.size w).alloc (Nat.le_refl _) (.cells #[.slice a0 nf cf, .slice e0 ne ce] 25)
  by_cases h1 : nf ≤ 40
  · have h1I : (nf : Int) ≤ 40 := by omega
    by_cases h2 : ne ≤ 120
    · have h2I : (ne : Int) ≤ 120 := by omega
      have e : q = true := by rw [← hq, decide_eq_true h1, decide_eq_true h2]; rfl
      subst e
      clear hq h1 h2
      go_enter Tryz.func7, Tryz.ntmps7
      go_wp2_with fail
      go_ret
      exact ⟨rfl, hB⟩
    · have h2I : ¬ (ne : Int) ≤ 120 := by omega
      have e : q = false := by rw [← hq, decide_eq_true h1, decide_eq_false h2]; rfl
      subst e
      clear hq h1 h2
      go_enter Tryz.func7, Tryz.ntmps7
      go_wp2_with fail
      go_ret
      exact ⟨rfl, hB⟩
  · have h1I : ¬ (nf : Int) ≤ 40 := by omega
    have e : q = false := by rw [← hq, decide_eq_false h1]; rfl
    subst e
    clear hq h1
    go_enter Tryz.func7, Tryz.ntmps7
    go_wp2_with fail
    go_ret
    exact ⟨rfl, hB⟩
/-- What Made left. -/
structure MadeL (a0 : Option Addr) (nf : Nat) (X : ArB) (s : ArS) (obs : List Ob) (vl : Value) (w w' : World) : Prop where
  ar : ArIn w.heap.size X s w w'
  ob : Objs s obs
  row : RefRow w' vl (refsI obs)
  own : ∀ k, vl.ownBlock = some k → w.heap.size ≤ k ∧ k < w'.heap.size ∧ ¬ X.has k
  len : obs.length = nf
  P : s.P = 64
  full : Full s obs
  grown : Grown s obs
  ks : KsOf w a0 obs
theorem MadePost.light {a0 : Option Addr} {nf ne : Nat} {w w' : World} {e : Ending} (h : MadePost a0 nf ne w e w') : ∃ (X : ArB) (s : ArS) (obs : List Ob) (vl : Value) (mb : Nat), e = .returned (.tuple #[.pointer (some ⟨X.a, 0, none⟩), vl, .map (some mb)]) ∧ MadeL a0 nf X s obs vl w w' := by
  obtain ⟨X, s, obs, vl, mb, n, f, adj, rfl, hGo, hol, hcl, hsP, hn6, hadj, hnil⟩ := h
  exact ⟨X, s, obs, vl, mb, rfl, hGo.ar, hGo.ob, hGo.row, fun k e => ⟨hGo.from_ k (.inr (.inl e)), hGo.lt k (.inr (.inl e)), hGo.rowFar e⟩, hol, hsP, hcl.2.2.1, hcl.2.2.2.1, hcl.2.2.2.2⟩
section
variable {a0 : Option Addr} {nf : Nat} {X : ArB} {s : ArS} {obs : List Ob} {vl : Value} {w w' : World}
theorem MadeL.in_ (h : MadeL a0 nf X s obs vl w w') {x : Int} (hx : x ∈ refsI obs) : inS s.S x = true := by
  obtain ⟨y, hy, rfl⟩ := List.mem_map.1 hx
  obtain ⟨i, hi⟩ := List.mem_iff_getElem?.1 hy
  rw [inS_nat]; exact (h.ob.at_ i y hi).S
theorem MadeL.mem (h : MadeL a0 nf X s obs vl w w') {r : Nat} (hr : s.S r = true) : (r : Int) ∈ refsI obs := by
  obtain ⟨x, hx, rfl⟩ := h.full r hr
  exact List.mem_map.2 ⟨x, hx, rfl⟩
theorem MadeL.nodup (h : MadeL a0 nf X s obs vl w w') : (refsI obs).Nodup := by
  refine List.pairwise_iff_getElem.2 fun i j hi0 hj0 hij h2 => ?_
  have hi1 := hi0
  have hj1 := hj0
  rw [refsI_length] at hi1 hj1
  have hi : obs[i]? = some obs[i] := List.getElem?_eq_getElem hi1
  have hj2 : obs[j]? = some obs[j] := List.getElem?_eq_getElem hj1
  have e1 := refsI_at hi
  have e2 := refsI_at hj2
  rw [List.getElem?_eq_getElem hi0] at e1
  rw [List.getElem?_eq_getElem hj0, ← h2, e1] at e2
  have := h.ob.apart i j _ _ (by omega) hi hj2
  have h3 := Option.some.inj e2
  omega
theorem MadeL.ask {w2 : World} (h : MadeL a0 nf X s obs vl w w') (hB : Below w'.heap.size w' w2) : MadeL a0 nf X s obs vl w w2 :=
  ⟨h.ar.ask hB, h.ob, h.row.askSw hB, fun k e => ⟨(h.own k e).1, Nat.lt_of_lt_of_le (h.own k e).2.1 hB.size, (h.own k e).2.2⟩, h.len, h.P, h.full, h.grown, h.ks⟩
end
theorem lay0 : newR (layS []) 1 = 1 := by decide +kernel
theorem lay1 : newR (layS [1]) 1 = 5 := by decide +kernel
theorem lay2p : pgL (layS [1, 1]).S 0 = [1, 5] := by decide +kernel
theorem lay2a : (layS [1, 1]).S 1 = true := by decide +kernel
theorem lay2b : (layS [1, 1]).S 5 = true := by decide +kernel
theorem fit_obs {w w' : World} {b : Nat} {X : ArB} {s : ArS} {obs : List Ob} {vl : Value} (h : MadeL (some ⟨b, 0, none⟩) 2 X s obs vl w w') (h0 : w.cell? ⟨b, 0, none⟩ = some (.int .u8 1)) (h1 : w.cell? ⟨b, 1, none⟩ = some (.int .u8 1)) :
    refsI obs = [1, 5] ∧ pgL s.S 0 = [1, 5] ∧ s.S 1 = true ∧ s.S 5 = true := by
  have hl := h.len
  obtain ⟨x, y, rfl⟩ : ∃ x y, obs = [x, y] := by
    match obs, hl with
    | [x, y], _ => exact ⟨x, y, rfl⟩
  have kx : x.k = 1 := by
    obtain ⟨bk, off, z, e, hz, hk⟩ := h.ks 0 x rfl
    cases e
    rw [show (0 : Nat) + 0 = 0 from rfl, h0] at hz
    cases hz
    exact hk
  have ky : y.k = 1 := by
    obtain ⟨bk, off, z, e, hz, hk⟩ := h.ks 1 y rfl
    cases e
    rw [show (0 : Nat) + 1 = 1 from rfl, h1] at hz
    cases hz
    exact hk
  have g := h.grown
  have rx := g.2 0 x rfl
  have ry := g.2 1 y rfl
  have gs := g.1.2.2
  simp only [List.take_zero, List.map_nil, List.take_succ_cons, List.map_cons, kx, ky] at rx ry gs
  rw [show ((1 : Nat) : Int) = 1 from rfl, lay0] at rx
  rw [show ((1 : Nat) : Int) = 1 from rfl, lay1] at ry
  refine ⟨by simp [refsI, rx, ry], ?_, ?_, ?_⟩
  · rw [gs]; exact lay2p
  · rw [gs]; exact lay2a
  · rw [gs]; exact lay2b
set_option maxRecDepth 100000 in
set_option maxHeartbeats 8000000 in
theorem swfit_true (w : World) (hT : TableAt w) : Calls Tryz.prog 6 #[] w fun e w' => e = .returned (.bool true) ∧ Below w.heap.size w w' := by
  have hB0 := (Below.refl w.heap.size w).alloc (Nat.le_refl _) (.cells #[.int .u8 1, .int .u8 1] 5)
  have hb := Blk.new w #[.int .u8 1, .int .u8 1] 5
  have q0 := hb.cell 0
  have q1 := hb.cell 1
  simp only [List.getElem?_toArray, List.getElem?_cons_zero, List.getElem?_cons_succ] at q0 q1
  have hF : BytesW (w.alloc (.cells #[.int .u8 1, .int .u8 1] 5)) (some ⟨w.heap.size, 0, none⟩) [1, 1] := fun k hk => by
    have hk2 : k = 0 ∨ k = 1 := by simp at hk; omega
    rcases hk2 with rfl | rfl
    · exact ⟨w.heap.size, 0, rfl, by simp, hb.cell 0, by decide⟩
    · exact ⟨w.heap.size, 0, rfl, by simp, hb.cell 1, by decide⟩
  have hT1 := hT.below hB0
  have cM := made_any (some ⟨w.heap.size, 0, none⟩) [1, 1] 2 none 0 0 (fun _ _ => 0) _ (by decide) (by omega) hF (fun k hk => absurd hk (Nat.not_lt_zero _)) hT1
  have HT := Lib.hid (And.intro hB0 (And.intro q0 q1))
  clear hF hT1 hT hB0 hb q0 q1
  go_enter Tryz.func6, Tryz.ntmps6
  go_wp2_with fail
  generalize w.alloc (.cells #[.int .u8 1, .int .u8 1] 5) = w1 at *
  refine cM.mono ?_
  rintro e w2 hMP
  obtain ⟨X, s, obs, vl, mb, rfl, hMO⟩ := hMP.light
  obtain ⟨hrf, hpg, hs1, hs3⟩ := fit_obs hMO HT.out.2.1 HT.out.2.2
  have hrow := hMO.row
  rw [hrf] at hrow
  rcases hrow.is with ⟨_, e⟩ | ⟨g, cap, cur, hv, hg, hlc, hcm, hcs, hcell⟩
  · cases e
  have hv2 : vl = .slice (some ⟨g, 0, none⟩) 2 cap := hv
  subst hv2
  have cN := ma_new (E := fun k => k = g) hMO.ar 2 (by omega) (fun k e => e ▸ hMO.own g rfl)
  have HO := Lib.hid (And.intro hMO (And.intro hpg (And.intro hs1 (And.intro hs3 hrow))))
  clear hMO hMP cM hrf hpg hs1 hs3 hg hlc hcm hcs hcell hv hrow
  go_wp2_with fail
  refine cN.mono ?_
  rintro e w3 ⟨T, rfl, hM3, hB3⟩
  have hr3 := HO.out.2.2.2.2.askSw hB3
  have cS := sw_new hM3
  clear cN hM3 hB3
  go_wp2_with fail
  refine cS.mono ?_
  rintro e w4 ⟨sw, rfl, h4, hB4⟩
  have hr4 := hr3.askSw hB4
  have hc1 := row_cellSw (i := 1) (x := 5) hr4 rfl
  have cBl := h4.ma.blacken 5 (by rw [show (5 : Int) = ((5 : Nat) : Int) from rfl, inS_nat]; exact HO.out.2.2.2.1)
  have HR := Lib.hid hr4
  have H4 := Lib.hid h4
  clear cS hr3 hr4 hB4 h4
  go_wp2_with fail
  refine cBl.mono ?_
  rintro e w5 ⟨rfl, T5, hm5, g5, hk5, _⟩
  have h5 := H4.out.went hm5 g5 hk5
  have hr5 := HR.out.keepSw (w' := w5) (fun k e => hk5 k (.inl (own_slice e).symm))
  have cO := h5.on_
  have cP := h5.pageNo
  have cB := h5.begin
  have H5 := Lib.hid (And.intro h5 (And.intro hr5 hm5))
  clear cBl g5 hk5 h5 hr5 hc1
  go_wp2_with fail
  refine cO.mono ?_
  rintro e w' ⟨rfl, rfl⟩
  clear cO
  go_wp2_with fail
  refine cP.mono ?_
  rintro e w' ⟨rfl, rfl⟩
  clear cP
  go_wp2_with fail
  refine cB.mono ?_
  rintro e w6 ⟨rfl, h6, hk6, _⟩
  have hr6 := H5.out.2.1.keepSw (w' := w6) (fun k e => hk6 k (own_slice e).symm)
  have hF := h6.fits
  have cG := h6.page (by rw [HO.out.1.P]; omega)
  have H6 := Lib.hid (And.intro h6 (And.intro hr6 H5.out.2.2))
  clear cB hk6 h6 hr6
  go_wp2_with fail
  refine cG.mono ?_
  rintro e w7 ⟨v, X7, T7, rfl, hR7, hXa, hTm, h7, hk7, _⟩
  have hl7 : swL s (Col.white.black 5) 0 = [1] := by
    unfold swL
    rw [HO.out.2.1]
    decide +kernel
  rw [hl7] at hR7
  rcases hR7.is with ⟨_, e⟩ | ⟨g7, cap7, cur7, hv7, _⟩
  · cases e
  have hv8 : v = .slice (some ⟨g7, 0, none⟩) 1 cap7 := hv7
  subst hv8
  have hr7 := H6.out.2.1.keepSw (w' := w7) (fun k e => hk7 k (own_slice e).symm)
  have e1 : inS (swS s (Col.white.black 5) 0).S 1 = false := by
    rw [show (1 : Int) = ((1 : Nat) : Int) from rfl, inS_nat, swS_S hF, HO.out.2.2.1]
    decide
  have e3 : inS (swS s (Col.white.black 5) 0).S 5 = true := by
    rw [show (5 : Int) = ((5 : Nat) : Int) from rfl, inS_nat, swS_S hF, HO.out.2.2.2.1]
    decide
  have em : (swC s (Col.white.black 5) 0).ma 5 = false := by
    have h8 := swC_ma hF (Col.white.black 5) H6.out.1.ma.inn 0 5
    rw [h8]; decide
  have eon : decide (0 + 1 < s.P) = true := by rw [HO.out.1.P]; decide
  rw [eon] at h7
  have eP : (swS s (Col.white.black 5) 0).P = 64 := by rw [swS_P]; exact HO.out.1.P
  generalize swS s (Col.white.black 5) 0 = s7 at *
  generalize swC s (Col.white.black 5) 0 = c7 at *
  have hD := h7.drew
  have cg := row_cellSw (i := 0) (x := 1) (hR7.askSw (Below.refl _ w7).drew) rfl
  have cl0 := row_cellSw (i := 0) (x := 1) (hr7.askSw (Below.refl _ w7).drew) rfl
  have cl1 := row_cellSw (i := 1) (x := 5) (hr7.askSw (Below.refl _ w7).drew) rfl
  have cH1 := hD.ma.ar.has 1
  rw [e1, hXa] at cH1
  have HC : ∀ V : World, Below w7.drew.heap.size w7.drew V → V.cell? ⟨g7, 0, none⟩ = some (.int .i64 1) ∧ V.cell? ⟨g, 0, none⟩ = some (.int .i64 1) ∧ V.cell? ⟨g, 1, none⟩ = some (.int .i64 5) := fun V hB =>
    ⟨row_cellSw (i := 0) (x := 1) ((hR7.askSw (Below.refl _ w7).drew).askSw hB) rfl, row_cellSw (i := 0) (x := 1) ((hr7.askSw (Below.refl _ w7).drew).askSw hB) rfl, row_cellSw (i := 1) (x := 5) ((hr7.askSw (Below.refl _ w7).drew).askSw hB) rfl⟩
  have hmm : T7.m = T.m := by rw [hTm]; exact H6.out.2.2
  have HK := Lib.hid (And.intro HC (And.intro hD (And.intro e3 (And.intro em (And.intro eP (And.intro hXa hmm))))))
  clear HC hD e3 em eP hXa hmm hTm hr7 hR7 h7 hk7 cG hv7 e1 eon hF
  go_wp2_with fail
  go_region_held3 (fun W' => W'.cell? ⟨g7, 0, none⟩ = some (.int .i64 1) ∧ W'.cell? ⟨g, 0, none⟩ = some (.int .i64 1) ∧ W'.cell? ⟨g, 1, none⟩ = some (.int .i64 5))
    (first | exact ⟨cg, cl0, cl1⟩ | exact hS12 | exact hS11 | exact hS10 | exact hS9)
    (first
      | (go_at_call 19; refine cH2.mono ?_; rintro e w9 ⟨rfl, hB9⟩; have h9 := h8.ask hB9; have hB89 := below_step hB8 hB9; have hS10 := HK.out.1 _ hB89; have cM9 := h9.ma.marked 5; rw [HK.out.2.2.2.1, HK.out.2.2.2.2.2.2] at cM9)
      | (go_at_call 19; refine cH1.mono ?_; rintro e w8 ⟨rfl, hB8⟩; have h8 := HK.out.2.1.ask hB8; have hS9 := HK.out.1 _ hB8; have cH2 := h8.ma.ar.has 5; rw [HK.out.2.2.1, HK.out.2.2.2.2.2.1] at cH2)
      | (go_at_call 20; refine cM9.mono ?_; rintro e w10 ⟨rfl, hB10⟩; have h10 := h9.ask hB10; have hB810 := below_step hB89 hB10; have hS11 := HK.out.1 _ hB810; have cO10 := h10.on_; have cL10 := h10.left (by omega); rw [HK.out.2.2.2.2.1] at cL10)
      | (go_at_call 18; refine cO10.mono ?_; rintro e w' ⟨rfl, rfl⟩)
      | (go_at_call 25; refine cL10.mono ?_; rintro e w11 ⟨rfl, hB11⟩; have hS12 := HK.out.1 _ (below_step hB810 hB11)))
  all_goals
    go_wp2_with fail
    go_ret
    exact ⟨rfl, HT.out.1.trans ((h10.ask hB11).ma.ar.below.mono HT.out.1.size)⟩
end Go.Proofs.YtidpmplkbgllfaaGreatDoor
