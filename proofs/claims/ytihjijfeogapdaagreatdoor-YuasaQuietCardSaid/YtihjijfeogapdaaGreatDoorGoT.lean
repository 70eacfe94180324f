/- Reach: what some references lead to; at this seat's numbers. -/
import Derived.Test.YtihjijfeogapdaaGreatDoorGoS
import Derived.Deep.Upon
namespace Go.Proofs.YtihjijfeogapdaaGreatDoor
open Go Go.RowKit Go.Shelf Go.MuLone Go.RwLone
set_option linter.unusedSimpArgs false
set_option linter.unusedVariables false
attribute [local go_sem] Oper.semAt_some

/-- append of a row of the call's own onto another one. -/
theorem append_allG {w : World} {vo vp : Value} {l p : List Int} (ho : RefRow w vo l) (hp : RefRow w vp p) (hl : l.length + p.length ≤ 100000) (ty : TypeId) :
    ∃ v' w', (Builtin.append_ #[29, 29] ty #[vo, vp]).run Tryz.prog w = .ok v' w' ∧ RefRow w' v' (l ++ p) ∧ Turn (fun k => vo.ownBlock = some k) w w' ∧ ∀ k, v'.ownBlock = some k → vo.ownBlock = some k ∨ w.heap.size ≤ k := by
  obtain ⟨i0, hi, hz0, hz1, hz2⟩ := info_parts infoRefT
  rcases Nat.eq_zero_or_pos p.length with h0 | h0
  · obtain rfl := List.length_eq_zero_iff.1 h0
    have hs : Src Tryz.prog i0.size 29 vp 0 [] w := by
      rcases hp.is with ⟨rfl, _⟩ | ⟨g, cap, cur, rfl, _⟩
      · exact ⟨.inl ⟨_, Tryz.underlying29⟩, fun _ => rfl, by simp [Builtin.firstCells], by simp [Builtin.firstCells], by simp, by simp⟩
      · exact Src.ofSlice w Tryz.underlying29 _ _ _ _ (by simp) (fun j u hj => by simp at hj) (fun u hu => by simp at hu)
    have hr : ∃ base n c, vo = .slice base n c ∧ n ≤ c := by
      rcases ho.is with ⟨rfl, _⟩ | ⟨g, cap, cur, rfl, _, hc, _⟩
      · exact ⟨_, _, _, rfl, Nat.le_refl _⟩
      · exact ⟨_, _, _, rfl, hc⟩
    obtain ⟨base, n, c, rfl, hc⟩ := hr
    exact ⟨_, w, run_append_nothing w _ _ ty _ i0 Tryz.underlying29 hi base n c hc vp hs, by rw [List.append_nil]; exact ho, Turn.refl _ w, fun k hk => .inl hk⟩
  · rcases hp.is with ⟨_, e⟩ | ⟨g, cap, cur, rfl, hg, hc, hm, hs, hcell⟩
    · rw [e] at h0; simp at h0
    · obtain ⟨v', w', hr, h2, h3, h4⟩ := run_append_atM (P := Tryz.prog) w 29 ty 39 i0 (.int .i64 0) 1 8 Tryz.underlying29 hi hz0 hz1 hz2 rfl vo l.length _ ho ⟨g, 0, none⟩ p.length cap (p.map fun r => Value.int .i64 r) (by simp) (fun j u hj => by
        rw [List.getElem?_map] at hj
        obtain ⟨x, hx, rfl⟩ := Option.map_eq_some_iff.1 hj
        obtain ⟨hj2, rfl⟩ := List.getElem?_eq_some_iff.1 hx
        rw [Addr.add_lit, Nat.zero_add]
        exact hcell j hj2) (fun u hu => by
        obtain ⟨x, _, rfl⟩ := List.mem_map.1 hu
        rfl) h0 (by unfold maxLen; omega) (by omega)
      refine ⟨v', w', hr, ?_, Turn.ofGrownM h3, h4⟩
      unfold RefRow
      rw [List.length_append, List.map_append]
      exact h2
/-- An append whose run is known. -/
theorem wpList_append_runG {P : Program} (w : World) {ops : Array Oper} {rest : List Oper} {o : Oper} {a : Act} {Q : Exit → Act → World → Prop} (hgd : o.guard = none) (s x : Operand) (t : TypeId)
    (ho : o.op = .call { callee := .builtin .append, args := #[s, x], argTypes := #[t, t] }) (v1 v2 : Value) (hs : a.eval s = v1) (hx : a.eval x = v2) {r : Value} {w' : World} (hr : (Builtin.append_ #[t, t] o.type #[v1, v2]).run P w = .ok r w') (h : wpList P ops Q rest (a.put o.dst r) w') : wpList P ops Q (o :: rest) a w :=
  wpList_plain hgd fun _ hK => by
    unfold Oper.wp execOp
    simp only [ho, resolve, invoke, builtin, Sem.run_bind, Sem.run_pure, Result.andThen_ok, List.map_toArray, List.map_cons, List.map_nil, hs, hx, hr]
    exact hK _ _ h
def visF (vis : List Int) (x : Int) : Int := if x ∈ vis then 1 else 0
def visK (vis : List Int) (x : Int) : Bool := decide (x ∈ vis)
theorem visF_cons (vis : List Int) (x : Int) : updI (visF vis) x 1 = visF (x :: vis) := by
  funext y
  by_cases e : y = x
  · rw [e, updI_at]; unfold visF; rw [if_pos List.mem_cons_self]
  · rw [updI_ne e]; unfold visF
    by_cases e2 : y ∈ vis
    · rw [if_pos e2, if_pos (List.mem_cons_of_mem _ e2)]
    · rw [if_neg e2, if_neg (fun e3 => by rcases List.mem_cons.1 e3 with e4 | e4; exact e e4; exact e2 e4)]
theorem visK_cons (vis : List Int) (x : Int) : updI (visK vis) x true = visK (x :: vis) := by
  funext y
  by_cases e : y = x
  · rw [e, updI_at]; unfold visK; simp
  · rw [updI_ne e]; unfold visK; simp [e]
structure ReA (B rb : Nat) (ns fr : List Int) (adj : Int → List Int) (w : World) (vis st : List Int) (g : Nat) (v6 : Value) (wr : World) : Prop where
  dfs : Dfs ns fr adj vis st g
  below : Below B w wr
  map : MapIn wr rb vis.length (visF vis) (visK vis) vis.length
  low : B ≤ rb
  row : RefRow wr v6 st
  new : ∀ k, v6.ownBlock = some k → B ≤ k

set_option maxRecDepth 100000 in
set_option maxHeartbeats 8000000 in
theorem reach_any (vf : Value) (fr ns : List Int) (mb n : Nat) (f : Int → Value) (adj : Int → List Int) (w : World) (hF : RefRow w vf fr) (hG : GrpAt w mb n f adj) (hnd : ns.Nodup) (hns : ∀ x ∈ ns, 1 ≤ x ∧ x ≤ 2048) (hnl : ns.length ≤ 4096)
    (hfr : ∀ x ∈ fr, x = 0 ∨ x ∈ ns) (hadj : ∀ x ∈ ns, ∀ y ∈ adj x, y = 0 ∨ y ∈ ns) (hb : fr.length + restI adj [] ns ≤ 50000) (had : ∀ x ∈ ns, (adj x).length ≤ 1000) :
    Calls Tryz.prog 18 #[vf, .map (some mb)] w fun e w' => ∃ rb vis, e = .returned (.map (some rb)) ∧ MapIn w' rb vis.length (visF vis) (visK vis) vis.length ∧ w.heap.size ≤ rb ∧ Below w.heap.size w w' ∧ vis.Nodup ∧ (∀ x ∈ vis, x ∈ ns) ∧ ∀ y, y ∈ vis ↔ Rch fr adj y := by
  have hM0 := MapIn.made w
  have hb0 := (Below.refl w.heap.size w).alloc (Nat.le_refl _) (.map #[] 0)
  have hF0 : RefRow (w.alloc (.map #[] 0)) vf fr := hF.turn (Turn.ofBelow hb0) (fun k e e2 => Nat.lt_irrefl _ (Nat.lt_of_lt_of_le (hF.lt e) e2))
  obtain ⟨v1, w1, hrun1, hR1, hT1, hN1⟩ := append_allG (l := []) (show RefRow (w.alloc (.map #[] 0)) (.slice none 0 0) [] from World.ownsRow_nil _ _ _ _) hF0 (by simp; omega) 29
  have h0 : ReA w.heap.size w.heap.size ns fr adj w [] fr (fr.length + restI adj [] ns) v1 w1 :=
    ⟨Dfs.start hfr, hb0.trans (hT1.below _ (by simp) (fun k _ e => by cases e)), by
      have hm : MapIn (w.alloc (.map #[] 0)) w.heap.size 0 (visF []) (visK []) 0 := by
        have e1 : visF [] = fun _ => 0 := by funext x; simp [visF]
        have e2 : visK [] = fun _ => false := by funext x; simp [visK]
        rw [e1, e2]; exact hM0
      exact hm.turn hT1 (fun e => by cases e), Nat.le_refl _, hR1, fun k e => by
      rcases hN1 k e with e2 | e2
      · cases e2
      · simp at e2; omega⟩
  obtain ⟨G, hGe⟩ : ∃ G, G = fr.length + restI adj [] ns := ⟨_, rfl⟩
  rw [← hGe] at h0
  have HG := Lib.hid hG
  have HN := Lib.hid (And.intro hnd (And.intro hns (And.intro hfr hadj)))
  have HB := Lib.hid (And.intro (show G ≤ 50000 by omega) (And.intro hnl had))
  have hmm := @run_makeMap Tryz.prog
  clear hM0 hb0 hF hF0 hR1 hT1 hN1 hG hnd hns hfr hadj hb hnl had hGe
  go_enter Tryz.func18, Tryz.ntmps18
  go_wp2_with (at_builtin; refine wpList_append_runG _ rfl _ _ _ rfl _ _ rfl rfl hrun1 ?_)
  clear hmm hrun1
  go_loopg [6] G (fun gk v6 wr => gk ≤ G ∧ ∃ vis st, ReA w.heap.size w.heap.size ns fr adj w vis st gk v6 wr)
  case atStart => exact ⟨Nat.le_refl _, [], fr, h0⟩
  case round =>
    clear h0
    obtain ⟨hgk, vis, st, h1⟩ := hrel
    have HGK := Lib.hid hgk
    clear hgk
    rcases List.eq_nil_or_concat st with rfl | ⟨q, x, rfl⟩
    · have hl6 := h1.row.lenRun 3
      have H1 := Lib.hid h1
      simp only [List.length_nil] at hl6
      clear h1
      go_wp2_with fail
      go_ret
      have h1 := H1.out
      exact ⟨_, vis, rfl, h1.map, h1.low, h1.below, h1.dfs.nod, fun y hy => (h1.dfs.vin y hy).1, fun y => h1.dfs.done y⟩
    · rw [List.concat_eq_append] at h1
      rcases h1.row.is with ⟨_, e⟩ | ⟨g, cap, cur, hv, hg, hlc, hcm, hcs, hcl⟩
      · simp at e
      have d := hcl q.length (by simp)
      rw [List.getElem_append_right (Nat.le_refl _)] at d
      simp only [Nat.sub_self, List.getElem_singleton] at d
      have hrow := h1.row
      rw [List.length_append] at hv hlc
      simp only [List.length_singleton] at hv hlc
      subst hv
      have hless := RefRow.less hrow
      have hq0 : (0 : Int) ≤ (q.length : Int) := by omega
      have hqp : (0 : Int) < (q.length : Int) + 1 := by omega
      have hqc : (q.length : Int) < (cap : Int) := by omega
      have hown : w.heap.size ≤ g := h1.new g rfl
      have hql : q.length ≤ 50000 := by
        have := h1.dfs.few
        rw [List.length_append] at this
        have := HGK.out; have := HB.out.1; omega
      have hqs : (q.length : Int) ≤ 50000 := by omega
      have H1 := Lib.hid (And.intro h1 hless)
      clear hrow hless hg hcm hcs hcl
      by_cases hx0 : x = 0
      · subst hx0
        clear h1
        go_wp2_with fail
        obtain ⟨g', hg', hD⟩ := H1.out.1.dfs.skip (.inl rfl)
        go_roundg g'
        case measure => exact hg'
        case rel =>
          have h1 := H1.out.1
          exact ⟨by have := HGK.out; omega, vis, q, hD, h1.below, h1.map, h1.low, H1.out.2, fun k e => by rw [← own_slice e]; exact hown⟩
      · have hxI : ¬ x = 0 := hx0
        have hxb : (x == 0) = false := beq_eq_false_iff_ne.2 hx0
        have hxn : x ∈ ns := by
          rcases h1.dfs.inn x (List.mem_append.2 (.inr (by simp))) with e | e
          · exact absurd e hx0
          · exact e
        have hx2 := HN.out.2.1 x hxn
        have hwf : (Lit.int .i64 x).wf = true := by simp [Lit.wf, IntKind.min, IntKind.max, IntKind.signed, IntKind.bits]; omega
        have hlk := h1.map.look x hwf
        by_cases hv : x ∈ vis
        · have e1 : visF vis x = 1 := by unfold visF; rw [if_pos hv]
          rw [e1] at hlk
          have HV := Lib.hid hv
          clear h1 e1 hv hxn hx2
          go_wp2_with fail
          obtain ⟨g', hg', hD⟩ := H1.out.1.dfs.skip (.inr HV.out)
          go_roundg g'
          case measure => exact hg'
          case rel =>
            have h1 := H1.out.1
            exact ⟨by have := HGK.out; omega, vis, q, hD, h1.below, h1.map, h1.low, H1.out.2, fun k e => by rw [← own_slice e]; exact hown⟩
        · have e1 : visF vis x = 0 := by unfold visF; rw [if_neg hv]
          have e2 : visK vis x = false := by unfold visK; exact decide_eq_false hv
          rw [e1] at hlk
          obtain ⟨g', hg', hD⟩ := h1.dfs.visit HN.out.1 (fun y hy => HN.out.2.2.2 x hxn y hy) hx0 hv
          have hvl : vis.length ≤ ns.length := nodup_sub h1.dfs.nod fun y hy => (h1.dfs.vin y hy).1
          have hnl := HB.out.2.1
          obtain ⟨w7, hrun7, hM7, hT7⟩ := h1.map.store (by omega) x hwf 1 (by decide)
          rw [visF_cons, visK_cons, e2] at hM7
          simp only [Bool.false_eq_true, if_false] at hM7
          have hrb : ∃ o : Obj, wr.heap[w.heap.size]? = some o ∧ o.isCells = false := h1.map.block
          have hq7 : RefRow w7 (.slice (some ⟨g, 0, none⟩) q.length cap) q := H1.out.2.turn hT7 (fun k e e3 => by
            obtain ⟨_, hb⟩ := H1.out.2.own e
            exact h1.map.farBlk hb e3)
          have hB7 := h1.below.trans (hT7.below w.heap.size h1.below.size (fun k hk e => by have := h1.low; have e3 : k = w.heap.size := e; omega))
          have hG7 := HG.out.below hB7
          have hlk7 := hG7.map.look x hwf
          have hal := HB.out.2.2 x hxn
          obtain ⟨v8, w8, hrun8, hR8, hT8, hN8⟩ := append_allG hq7 (hG7.row x) (by omega) 29
          have hB8 := hB7.trans (hT8.below w.heap.size hB7.size (fun k hk e => by have e3 := own_slice e; omega))
          have hM8 : MapIn w8 w.heap.size (x :: vis).length (visF (x :: vis)) (visK (x :: vis)) (x :: vis).length := hM7.turn hT8 (fun e => by
            obtain ⟨_, hb⟩ := hq7.own e
            exact hM7.farBlk hb rfl)
          have h8 : ReA w.heap.size w.heap.size ns fr adj w (x :: vis) (q ++ adj x) g' v8 w8 := ⟨hD, hB8, hM8, h1.low, hR8, fun k e => by
            rcases hN8 k e with e3 | e3
            · rw [← own_slice e3]; exact hown
            · have := hB7.size; omega⟩
          have H8 := Lib.hid (And.intro h8 hg')
          clear h1 e1 e2 hv hxn hx2 hD hvl hnl hM7 hT7 hrb hq7 hB7 hG7 hql hal hR8 hT8 hN8 hB8 hM8 h8 hg'
          go_wp2_with (first | (at_mapUpdate; refine wpList_mapUpdate_run _ rfl _ _ _ _ rfl _ _ _ rfl rfl rfl hrun7 ?_) | (at_builtin; refine wpList_append_runG _ rfl _ _ _ rfl _ _ rfl rfl hrun8 ?_))
          go_roundg g'
          case measure => exact H8.out.2
          case rel => exact ⟨by have := HGK.out; have := H8.out.2; omega, _, _, H8.out.1⟩
end Go.Proofs.YtihjijfeogapdaaGreatDoor
