/- RootRuns, walked; at this seat's numbers. Written by wip/gen/rtr.py. -/
import Derived.Test.YtoemfehlnnbjdaaRtP
import Derived.Test.YtoemfehlnnbjdaaRtH
import Derived.Carry
namespace Go.Proofs.Ytoemfehlnnbjdaa
open Go Go.RowKit Go.Shelf
set_option linter.unusedSimpArgs false
set_option linter.unusedVariables false
attribute [local go_sem] Oper.semAt_some

def cfgV (N G : Nat) : Array Value := #[.int .i64 0, .bool false, .int .i64 0, .int .i64 (N : Int), .int .i64 2, .int .i64 2, .int .i64 (G : Int), .int .i64 0, .int .i64 0, .int .i64 0, .int .i64 0]
/-- A table, and beside it a row of globals, a map of threads, the configuration's box, and boxes of E. -/
structure RnO (B t N G go mb bc n : Nat) (E : Nat → Prop) (gl ol : List Int) (th tm : Nat → Option TM) (wb w : World) : Prop where
  rt : RtIn B (fun k => (k = go ∨ k = mb ∨ k = bc) ∨ E k) t N 2 2 gl th wb w
  own : Blk w go (refV ol) 31
  len : ol.length = G ∧ gl.length = G
  map : MapRt w mb n tm
  cfg : Blk w bc (cfgV N G) 25
  st : ∀ i m, th i = some m → m.st = []
  low : B ≤ go ∧ B ≤ mb ∧ B ≤ bc
  sep : ∀ k, E k → k ≠ go ∧ k ≠ mb ∧ k ≠ bc
section
variable {B t N G go mb bc n n' : Nat} {E : Nat → Prop} {gl gl' ol : List Int} {th th' tm tm' : Nat → Option TM} {wb w w' : World}
theorem RnO.gm (h : RnO B t N G go mb bc n E gl ol th tm wb w) : go ≠ mb ∧ bc ≠ mb := by
  obtain ⟨o, ho, hc⟩ := h.map.block
  refine ⟨fun e => ?_, fun e => ?_⟩
  · have h1 := h.own; unfold Blk at h1; rw [e, ho] at h1; cases h1; cases hc
  · have h1 := h.cfg; unfold Blk at h1; rw [e, ho] at h1; cases h1; cases hc
theorem RnO.gb (h : RnO B t N G go mb bc n E gl ol th tm wb w) : go ≠ bc := fun e => by
  have h1 := h.own; rw [e] at h1; exact blkT h1 h.cfg (by decide)
theorem RnO.ask (h : RnO B t N G go mb bc n E gl ol th tm wb w) (hB : Below w.heap.size w w') : RnO B t N G go mb bc n E gl ol th tm wb w' := by
  obtain ⟨o, ho, _⟩ := h.map.block
  exact ⟨h.rt.ask hB, h.own.turn (Turn.ofBelow hB) (by have := h.own.lt; omega), h.len, h.map.keep (hB.block _ (Array.getElem?_eq_some_iff.1 ho).1), h.cfg.turn (Turn.ofBelow hB) (by have := h.cfg.lt; omega), h.st, h.low, h.sep⟩
theorem RnO.after (h : RnO B t N G go mb bc n E gl ol th tm wb w) (hrt : RtIn B (fun k => (k = go ∨ k = mb ∨ k = bc) ∨ E k) t N 2 2 gl' th' wb w') (hk : Keep (fun k => (k = go ∨ k = mb ∨ k = bc) ∨ E k) w w') (hl : gl'.length = G) (hst : ∀ i m, th' i = some m → m.st = []) : RnO B t N G go mb bc n E gl' ol th' tm wb w' :=
  ⟨hrt, hk.blk h.own (.inl (.inl rfl)), ⟨h.len.1, hl⟩, h.map.keep (hk.block _ (.inl (.inr (.inl rfl)))), hk.blk h.cfg (.inl (.inr (.inr rfl))), hst, h.low, h.sep⟩
theorem RnO.mapped (h : RnO B t N G go mb bc n E gl ol th tm wb w) (hT : Turn (fun k => k = mb) w w') (hm : MapRt w' mb n' tm') : RnO B t N G go mb bc n' E gl ol th tm' wb w' :=
  ⟨h.rt.turned hT (fun k e => ⟨.inl (.inr (.inl e)), (show k = mb from e) ▸ h.low.2.1⟩), h.own.turn hT h.gm.1, h.len, hm, h.cfg.turn hT h.gm.2, h.st, h.low, h.sep⟩
theorem RnO.stored (h : RnO B t N G go mb bc n E gl ol th tm wb w) (i : Nat) (r : Int) : RnO B t N G go mb bc n E gl (ol.set i r) th tm wb (w.setCell ⟨go, i, none⟩ (.int .i64 r)) := by
  have hT : Turn (fun k => k = go) w (w.setCell ⟨go, i, none⟩ (.int .i64 r)) := (Turn.refl _ w).set _ _ (.inr rfl)
  exact ⟨h.rt.turned hT (fun k e => ⟨.inl (.inl e), (show k = go from e) ▸ h.low.1⟩), (h.own.setAt i _).is (by simp [refV, List.map_set]), ⟨by rw [List.length_set]; exact h.len.1, h.len.2⟩, h.map.turn hT (fun e => h.gm.1 ((show mb = go from e).symm)), h.cfg.turn hT (fun e => h.gb ((show bc = go from e).symm)), h.st, h.low, h.sep⟩
theorem RnO.close (h : RnO B t N G go mb bc n E gl ol th tm wb w) : RnO B t N G go mb bc n (fun _ => False) gl ol th tm wb w :=
  ⟨h.rt.add (Below.refl _ _) (fun k hk => .inl (by rcases hk with hk | hk; exact .inl hk; exact hk.elim)), h.own, h.len, h.map, h.cfg, h.st, h.low, fun k hk => hk.elim⟩
theorem RnO.open (h : RnO B t N G go mb bc n (fun _ => False) gl ol th tm wb w) (o : Obj) : RnO B t N G go mb bc n (fun k => k = w.heap.size) gl ol th tm wb (w.alloc o) := by
  have hB := (Below.refl w.heap.size w).alloc (Nat.le_refl _) o
  have h2 := h.ask hB
  obtain ⟨ob, ho, _⟩ := h.map.block
  have hml := (Array.getElem?_eq_some_iff.1 ho).1
  refine ⟨h.rt.add hB (fun k hk => ?_), h2.own, h2.len, h2.map, h2.cfg, h2.st, h2.low, fun k e => ?_⟩
  · rcases hk with hk | hk
    · exact .inl (.inl hk)
    · exact .inr ⟨Nat.le_of_eq hk.symm, by rw [hk]; simp⟩
  · have e2 : k = w.heap.size := e
    have := h.own.lt
    have := h.cfg.lt
    exact ⟨by omega, by omega, by omega⟩
theorem st_upd {i : Nat} {m : TM} (h : ∀ i m, th i = some m → m.st = []) (hm : m.st = []) : ∀ j x, updT th i (some m) j = some x → x.st = [] := fun j x e => by
  by_cases hj : j = i
  · subst hj; rw [updT_at] at e; cases e; exact hm
  · rw [updT_ne _ _ hj] at e; exact h j x e
theorem st_del {i : Nat} (h : ∀ i m, th i = some m → m.st = []) : ∀ j x, updT th i none j = some x → x.st = [] := fun j x e => by
  by_cases hj : j = i
  · subst hj; rw [updT_at] at e; cases e
  · rw [updT_ne _ _ hj] at e; exact h j x e
end
def pairsT (th : Nat → Option TM) (j : Nat) : List Int := (liveT th j).flatMap (fun p => [p.2.f 0, p.2.f 1])
theorem pairsT_length (th : Nat → Option TM) : ∀ j, (pairsT th j).length ≤ 2 * j
  | 0 => by simp [pairsT, liveT]
  | j + 1 => by
    have h := pairsT_length th j
    unfold pairsT at h ⊢
    show ((liveT th j ++ oneT th j).flatMap _).length ≤ _
    rw [List.flatMap_append, List.length_append]
    have h1 : ((oneT th j).flatMap (fun p => [p.2.f 0, p.2.f 1])).length ≤ 2 := by unfold oneT; cases th j <;> simp
    omega
theorem nz_two (f : Nat → Int) : nz [f 0, f 1] = rootsOf f 2 [] := by
  unfold rootsOf regRoots
  show nz [f 0, f 1] = (([] ++ oneR f (0 + 0)) ++ oneR f (0 + 1)).map Prod.snd ++ []
  unfold oneR nz
  by_cases h0 : f 0 = 0 <;> by_cases h1 : f 1 = 0 <;> simp [h0, h1]
theorem nz_flat {f g : Nat × TM → List Int} : ∀ l : List (Nat × TM), (∀ p ∈ l, nz (f p) = g p) → nz (l.flatMap f) = l.flatMap g
  | [], _ => rfl
  | p :: l, h => by
    have ih := nz_flat l (fun q hq => h q (by simp [hq]))
    have hp := h p (by simp)
    unfold nz at ih hp ⊢
    rw [List.flatMap_cons, List.flatMap_cons, List.filter_append, hp, ih]
theorem nz_pairs {gl : List Int} {th : Nat → Option TM} (hst : ∀ i m, th i = some m → m.st = []) : nz (gl ++ pairsT th 4) = allR gl (2 : Int).toNat th := by
  unfold allR pairsT
  have e : nz ((liveT th 4).flatMap (fun p => [p.2.f 0, p.2.f 1])) = (liveT th 4).flatMap (rootsP (2 : Int).toNat) := nz_flat _ fun p hp => by
    have h := hst p.1 p.2 (liveT_mem hp).2
    show nz [p.2.f 0, p.2.f 1] = rootsOf p.2.f 2 p.2.st
    rw [h]; exact nz_two _
  rw [← e]
  unfold nz
  rw [List.filter_append]
/-- append of two. -/
theorem wpList_push2 {ops : Array Oper} {rest : List Oper} {o : Oper} {a : Act} {Q : Exit → Act → World → Prop} {v : Value} {l : List Int} {w : World} (hgd : o.guard = none) (s x : Operand)
    (ho : o.op = .call { callee := .builtin .append, args := #[s, x], argTypes := #[30, 30] }) (h : RefRow w v l) (hl : l.length ≤ 100000) (ad c : Nat) (r0 r1 : Int) (hr0 : w.cell? ⟨ad, 0, none⟩ = some (.int .i64 r0)) (hr1 : w.cell? ⟨ad, 1, none⟩ = some (.int .i64 r1))
    (hs : a.eval s = v) (hx : a.eval x = .slice (some ⟨ad, 0, none⟩) 2 c) (hK : ∀ g n cap w', RefRow w' (.slice (some ⟨g, 0, none⟩) n cap) (l ++ [r0, r1]) → Turn (fun k => v.ownBlock = some k) w w' → (v.ownBlock = some g ∨ w.heap.size ≤ g) → wpList Try.prog ops Q rest (a.put o.dst (.slice (some ⟨g, 0, none⟩) n cap)) w') : wpList Try.prog ops Q (o :: rest) a w := by
  obtain ⟨i0, hi, hz0, hz1, hz2⟩ := info_parts infoRefT
  refine wpList_append_at w hgd s x 30 ho 31 i0 (.int .i64 0) 1 8 Try.underlying30 hi hz0 hz1 hz2 rfl v l.length _ hs h ⟨ad, 0, none⟩ 2 c [.int .i64 r0, .int .i64 r1] hx rfl (fun j u hj => by
    match j, hj with
    | 0, hj => simp at hj; subst hj; simpa [Addr.add] using hr0
    | 1, hj => simp at hj; subst hj; simpa [Addr.add] using hr1) (fun u hu => by simp at hu; rcases hu with rfl | rfl <;> rfl) (by decide) (by unfold maxLen; omega) (by omega) fun v' w' h2 h3 h4 => ?_
  have hR : RefRow w' v' (l ++ [r0, r1]) := by
    unfold RefRow
    rw [List.length_append, List.map_append]
    exact h2
  rcases hR.is with ⟨_, e⟩ | ⟨g, cap, cur, rfl, _⟩
  · simp at e
  · exact hK g _ cap w' hR (Turn.ofGrown h3) (h4 g rfl)
/-- Behind the deeds: a row that grows. -/
def RnB (W1 : World) (gl : List Int) (v21 v182 : Value) (wr : World) : Prop :=
  ∃ j : Nat, j ≤ gl.length ∧ v182 = .int .i64 (j : Int) ∧ RefRow wr v21 (gl.take j) ∧ (∀ k, v21.ownBlock = some k → W1.heap.size ≤ k) ∧ Below W1.heap.size W1 wr
def RnC (W1 : World) (gl : List Int) (th : Nat → Option TM) (v21 v205 : Value) (wr : World) : Prop :=
  ∃ j : Nat, j ≤ 4 ∧ v205 = .int .i64 (j : Int) ∧ RefRow wr v21 (gl ++ pairsT th j) ∧ (∀ k, v21.ownBlock = some k → W1.heap.size ≤ k) ∧ Below W1.heap.size W1 wr
def RnA (B t N G go mb bc len : Nat) (wb : World) (v : Value) (wr : World) : Prop :=
  ∃ (i n : Nat) (gl : List Int) (th : Nat → Option TM), i ≤ len ∧ n ≤ i ∧ v = .int .i64 (i : Int) ∧ RnO B t N G go mb bc n (fun _ => False) gl gl th th wb wr

set_option maxRecDepth 100000 in
set_option maxHeartbeats 16000000 in
theorem runs_true (tn gn : Int) (a0 : Option Addr) (len cap : Nat) (Q : Nat → Nat → Int) (w : World) (_ : len ≤ 9223372036854775807) (hZ : QuadAt w a0 len Q) :
    Calls Try.prog 3 #[.int .i64 tn, .int .i64 gn, .slice a0 len cap] w fun e w' => e = .returned (.bool true) ∧ Below w.heap.size w w' := by
  have HZ := Lib.hid hZ
  clear hZ
  have hf := rtfit_true w
  obtain ⟨N0, hN3, hNe⟩ := i64_and_mask tn 3 (by decide)
  replace hNe : bits .and .i64 tn 3 = (N0 : Int) := hNe
  obtain ⟨G, hG3, hGe⟩ := i64_and_mask gn 3 (by decide)
  replace hGe : bits .and .i64 gn 3 = (G : Int) := hGe
  have hmk := make_refZ G (by omega)
  have hmm := @run_makeMap Try.prog
  have hG0 : (0 : Int) ≤ (G : Int) := by omega
  go_enter Try.func3, Try.ntmps3
  go_wp2_with fail
  refine hf.mono ?_
  rintro e w1 ⟨rfl, hB⟩
  clear hf
  by_cases hbig : 100 < (len : Int)
  · go_wp2_with fail
    go_ret
    exact ⟨rfl, hB⟩
  go_wp2_with fail
  refine (config_any tn gn N0 G hN3 hG3 hNe hGe w1).mono ?_
  rintro e w2 ⟨rfl, hB2⟩
  obtain ⟨N, hN⟩ : ∃ N, N = 1 + N0 := ⟨_, rfl⟩
  rw [← hN]
  have hN4 : N ≤ 4 := by omega
  clear hN hN3 hNe
  have hB2' := hB.trans (hB2.mono hB.size)
  clear hB hB2
  have hBc := Blk.new w2 (cfgV N G) 25
  have hB3 := hB2'.alloc hB2'.size (.cells (cfgV N G) 25)
  have hs3 : (w2.alloc (.cells (cfgV N G) 25)).heap.size = w2.heap.size + 1 := by simp
  have cN := rtIn_new (B := w.heap.size) (F := fun k => k = w2.heap.size) (wb := w) (wr := w2.alloc (.cells (cfgV N G) 25)) N G 2 2 hN4 (by omega) (by decide) (by decide) (fun k hk => by have e2 : k = w2.heap.size := hk; omega) hB3 (Nat.le_refl _)
  have hs2 := hB2'.size
  have HS3 := Lib.hid hs3
  clear hs3
  go_wp2_with fail
  refine cN.mono ?_
  rintro e w3 ⟨t, rfl, h3, hk3⟩
  have hbc3 := hk3.blk hBc rfl
  have hc3 := (hbc3.alloc (.map #[] 0)).cell 6
  have hsz3 := h3.size
  have HB := Lib.hid hbc3
  have H3 := Lib.hid h3
  clear cN hBc hB3 hk3 hbc3 h3
  unfold cfgV at hc3
  simp only [List.getElem?_toArray, List.getElem?_cons_succ, List.getElem?_cons_zero] at hc3
  go_wp2_with fail
  have hrel0 : RnO w.heap.size t N G (w3.heap.size + 1) w3.heap.size w2.heap.size 0 (fun _ => False) (List.replicate G 0) (List.replicate G 0) (fun _ => none) (fun _ => none) w ((w3.alloc (.map #[] 0)).alloc (.cells (refV (List.replicate G 0)) 31)) := by
    have hs4 : (w3.alloc (.map #[] 0)).heap.size = w3.heap.size + 1 := by simp
    have hs5 : ((w3.alloc (.map #[] 0)).alloc (.cells (refV (List.replicate G 0)) 31)).heap.size = w3.heap.size + 2 := by simp
    have hbl := HB.out.lt
    have hBB : Below w3.heap.size w3 ((w3.alloc (.map #[] 0)).alloc (.cells (refV (List.replicate G 0)) 31)) := ((Below.refl _ w3).alloc (Nat.le_refl _) _).alloc (by omega) _
    have hmp := MapRt.made w3
    have hgo := Blk.new (w3.alloc (.map #[] 0)) (refV (List.replicate G 0)) 31
    rw [hs4] at hgo
    refine ⟨H3.out.add hBB (fun k hk => ?_), hgo, ⟨by simp, by simp⟩, hmp.keep (Below.heap_alloc _ _ _ (by omega)), (HB.out.alloc _).alloc _, fun i m e => (by cases e), ⟨by omega, by omega, by omega⟩, fun k hk => hk.elim⟩
    rcases hk with (hk | hk | hk) | hk
    · exact .inr (by omega)
    · exact .inr (by omega)
    · exact .inl hk
    · exact hk.elim
  clear hc3 hmk hmm HS3 hB2' H3 HB
  generalize (w3.alloc (.map #[] 0)).alloc (.cells (refV (List.replicate G 0)) 31) = W0 at *
  generalize w3.heap.size + 1 = go at *
  generalize w3.heap.size = mb at *
  generalize w2.heap.size = bc at *
  go_loopw [45] (fun v45 wr => RnA w.heap.size t N G go mb bc len w v45 wr) (fun v45 _ => len - (intOf v45).toNat)
  case atStart => exact ⟨0, 0, _, _, Nat.zero_le _, Nat.le_refl _, rfl, hrel0⟩
  case round =>
    clear hrel0
    obtain ⟨i, n, gl, th, hi, hn, rfl, h1⟩ := hrel
    have hi0 : (0 : Int) ≤ (i : Int) := by omega
    by_cases hlt : i < len
    · have hi1 : (i : Int) < (len : Int) := by omega
      obtain ⟨bk, off, rfl, hbk, hcs⟩ := HZ.out i hlt
      have hc0 := (h1.rt.below.cell (p := ⟨bk, off + i * 4, none⟩) hbk).trans (hcs 0 (by decide)).1
      have hc1 := (h1.rt.below.cell (p := ⟨bk, off + i * 4 + 1, none⟩) hbk).trans (hcs 1 (by decide)).1
      have hc2 := (h1.rt.below.cell (p := ⟨bk, off + i * 4 + 2, none⟩) hbk).trans (hcs 2 (by decide)).1
      have hc3 := (h1.rt.below.cell (p := ⟨bk, off + i * 4 + 3, none⟩) hbk).trans (hcs 3 (by decide)).1
      have hwf := (hcs 1 (by decide)).2
      generalize Q i 0 = kd at *
      generalize Q i 1 = id at *
      generalize Q i 2 = kk at *
      generalize Q i 3 = rd at *
      obtain ⟨a, ha, hae⟩ := i64_and_mask kd 3 (by decide)
      replace hae : bits .and .i64 kd 3 = (a : Int) := hae
      obtain ⟨q, hq, hqe⟩ := i64_and_mask kk 1 (by decide)
      replace hqe : bits .and .i64 kk 1 = (q : Int) := hqe
      have h2 := h1.open (.cells #[.int .i64 kd, .int .i64 id, .int .i64 kk, .int .i64 rd] 33)
      have hbx := Blk.new wr #[.int .i64 kd, .int .i64 id, .int .i64 kk, .int .i64 rd] 33
      have hn2 : n < 9223372036854775807 := by omega
      clear hcs h1
      have HN := Lib.hid hn
      clear hn
      have ca : a = 0 ∨ a = 1 ∨ a = 2 ∨ a = 3 := by omega
      cases eat : atI th id with
      | none =>
        have hlk := h2.map.lookOk id hwf false (by rw [eat]; rfl)
        rw [eat] at hlk
        have hlk2 : (Instr.lookup 29 (.map (some mb)) (.int .i64 id) true).run Try.prog (wr.alloc (.cells #[.int .i64 kd, .int .i64 id, .int .i64 kk, .int .i64 rd] 33)) = .ok (.tuple #[.agg #[.int .i64 0, .int .i64 0], .bool false]) (wr.alloc (.cells #[.int .i64 kd, .int .i64 id, .int .i64 kk, .int .i64 rd] 33)) := hlk
        clear hlk
        have h4 := h2.ask ((Below.refl _ (wr.alloc (.cells #[.int .i64 kd, .int .i64 id, .int .i64 kk, .int .i64 rd] 33))).alloc (Nat.le_refl _) (.cells #[.int .i64 0, .int .i64 0] 34))
        have hb4 := hbx.alloc (.cells #[.int .i64 0, .int .i64 0] 34)
        clear h2
        have d0 := hb4.cell 0
        have d1 := hb4.cell 1
        have d2 := hb4.cell 2
        have d3 := hb4.cell 3
        simp only [List.getElem?_toArray, List.getElem?_cons_succ, List.getElem?_cons_zero] at d0 d1 d2 d3
        have hcf := h4.cfg.cell 3
        unfold cfgV at hcf
        simp only [List.getElem?_toArray, List.getElem?_cons_succ, List.getElem?_cons_zero] at hcf
        rcases ca with rfl | rfl | rfl | rfl
        · as_aux_lemma =>
            have hae2 : bits .and .i64 kd 3 = 0 := hae
            clear hae
            by_cases hin : 0 ≤ id ∧ id < (N : Int)
            · obtain ⟨j, hj⟩ : ∃ j : Nat, id = (j : Int) := ⟨id.toNat, by omega⟩
              subst hj
              have hjI : (j : Int) < (N : Int) := hin.2
              have hj0 : (0 : Int) ≤ (j : Int) := hin.1
              have hjN : ¬ (N : Int) ≤ (j : Int) := by omega
              have hjn : ¬ (j : Int) < 0 := by omega
              have cS := h4.rt.spawn j (by omega) (by rw [atI_nat] at eat; exact eat) (j : Int) rfl
              clear hin
              go_wp2_with fail
              refine cS.mono ?_
              rintro e w5 ⟨rfl, ⟨u, hr5⟩, hk5⟩
              have h5 := h4.after hr5 hk5 h4.len.2 (st_upd h4.st rfl)
              have hb5 := hk5.blk hb4 (.inr rfl)
              have d1' := hb5.cell 1
              have d2' := hb5.cell 2
              have d3' := hb5.cell 3
              simp only [List.getElem?_toArray, List.getElem?_cons_succ, List.getElem?_cons_zero] at d1' d2' d3'
              obtain ⟨w6, hrun, hm6, hT6⟩ := h5.map.store hn2 j (by omega) hwf ⟨u, fun _ => 0, []⟩
              replace hrun : (Instr.mapUpdate 29 (.map (some mb)) (.int .i64 (j : Int)) (.agg #[.int .i64 0, .int .i64 0])).run Try.prog w5 = .ok () w6 := hrun
              have hF := h5.mapped hT6 hm6
              clear cS hr5 hk5 h5 hm6 hT6 h4 hb4 d0 d1 d2 d3 hcf hlk2 hbx hb5
              have cC := hF.rt.count _ rfl
              have HF := Lib.hid hF
              clear hF
              go_wp2_with fail
              refine cC.mono ?_
              rintro e w9 ⟨rfl, hB9⟩
              have hF9 := HF.out.ask hB9
              have hlen9 := hF9.map.len 3
              have HF9 := Lib.hid hF9.close
              clear cC HF hF9 hB9
              go_wp2_with fail
              go_roundw
              case rel => exact ⟨i + 1, _, _, _, hlt, by have := HN.out; omega, by go_num, HF9.out⟩
              case measure => simp [intOf]; omega
            · have cS := h4.rt.spawnNo id (.inl hin)
              have hF := h4
              clear h4 hb4 hbx
              by_cases hneg : id < 0
              · clear hin
                go_wp2_with fail
                refine cS.mono ?_
                rintro e w5 ⟨rfl, rfl⟩
                clear cS
                have cC := hF.rt.count _ rfl
                have HF := Lib.hid hF
                clear hF
                go_wp2_with fail
                refine cC.mono ?_
                rintro e w9 ⟨rfl, hB9⟩
                have hF9 := HF.out.ask hB9
                have hlen9 := hF9.map.len 3
                have HF9 := Lib.hid hF9.close
                clear cC HF hF9 hB9
                go_wp2_with fail
                go_roundw
                case rel => exact ⟨i + 1, _, _, _, hlt, by have := HN.out; omega, by go_num, HF9.out⟩
                case measure => simp [intOf]; omega
              · have hge : (N : Int) ≤ id := by omega
                clear hin
                go_wp2_with fail
                refine cS.mono ?_
                rintro e w5 ⟨rfl, rfl⟩
                clear cS
                have cC := hF.rt.count _ rfl
                have HF := Lib.hid hF
                clear hF
                go_wp2_with fail
                refine cC.mono ?_
                rintro e w9 ⟨rfl, hB9⟩
                have hF9 := HF.out.ask hB9
                have hlen9 := hF9.map.len 3
                have HF9 := Lib.hid hF9.close
                clear cC HF hF9 hB9
                go_wp2_with fail
                go_roundw
                case rel => exact ⟨i + 1, _, _, _, hlt, by have := HN.out; omega, by go_num, HF9.out⟩
                case measure => simp [intOf]; omega
        · as_aux_lemma =>
            have hae2 : bits .and .i64 kd 3 = 1 := hae
            clear hae
            have cS := h4.rt.exitNo id (by rw [eat]; rfl)
            obtain ⟨w6, hrun, hm6, hT6⟩ := h4.map.drop id hwf th (.inl ⟨eat, rfl⟩) 0
            have hF := h4.mapped hT6 hm6
            clear hm6 hT6 h4 hb4 hbx
            go_wp2_with fail
            refine cS.mono ?_
            rintro e w5 ⟨rfl, rfl⟩
            clear cS
            have cC := hF.rt.count _ rfl
            have HF := Lib.hid hF
            clear hF
            go_wp2_with fail
            refine cC.mono ?_
            rintro e w9 ⟨rfl, hB9⟩
            have hF9 := HF.out.ask hB9
            have hlen9 := hF9.map.len 3
            have HF9 := Lib.hid hF9.close
            clear cC HF hF9 hB9
            go_wp2_with fail
            go_roundw
            case rel => exact ⟨i + 1, _, _, _, hlt, by have := HN.out; omega, by go_num, HF9.out⟩
            case measure => simp [intOf]; omega
        · as_aux_lemma =>
            have hae2 : bits .and .i64 kd 3 = 2 := hae
            clear hae
            have cS := h4.rt.of id
            rw [eat] at cS
            have cS2 : Calls Try.prog 13 #[.pointer (some ⟨t, 0, none⟩), .int .i64 id] _ fun e w' => e = .returned (.pointer none) ∧ _ = w' := cS
            have hF := h4
            clear cS h4 hb4 hbx
            go_wp2_with fail
            refine cS2.mono ?_
            rintro e w5 ⟨rfl, rfl⟩
            clear cS2
            have cC := hF.rt.count _ rfl
            have HF := Lib.hid hF
            clear hF
            go_wp2_with fail
            refine cC.mono ?_
            rintro e w9 ⟨rfl, hB9⟩
            have hF9 := HF.out.ask hB9
            have hlen9 := hF9.map.len 3
            have HF9 := Lib.hid hF9.close
            clear cC HF hF9 hB9
            go_wp2_with fail
            go_roundw
            case rel => exact ⟨i + 1, _, _, _, hlt, by have := HN.out; omega, by go_num, HF9.out⟩
            case measure => simp [intOf]; omega
        · as_aux_lemma =>
            have hae2 : bits .and .i64 kd 3 = 3 := hae
            clear hae
            by_cases hin : 0 ≤ kk ∧ kk < (G : Int)
            · obtain ⟨k, hk⟩ : ∃ k : Nat, kk = (k : Int) := ⟨kk.toNat, by omega⟩
              subst hk
              have hk1 : (k : Int) < (G : Int) := hin.2
              have hk0 : (0 : Int) ≤ (k : Int) := hin.1
              have hgl := h4.len.2
              have hkl : k < gl.length := by omega
              have cS := h4.rt.setGlobal k hkl (k : Int) rd rfl
              clear hin
              go_wp2_with fail
              refine cS.mono ?_
              rintro e w5 ⟨rfl, hr5, hk5⟩
              have h5 := h4.after hr5 hk5 (by rw [List.length_set]; exact hgl) h4.st
              have hb5 := hk5.blk hb4 (.inr rfl)
              have d1' := hb5.cell 1
              have d2' := hb5.cell 2
              have d3' := hb5.cell 3
              simp only [List.getElem?_toArray, List.getElem?_cons_succ, List.getElem?_cons_zero] at d1' d2' d3'
              have ck : w5.cell? ⟨go, k, none⟩ = some (.int .i64 (gl.getD k 0)) := by rw [h5.own.cell k]; simp [refV, List.getD, hkl]
              have fk := h5.own.free k
              have hF := h5.stored k rd
              generalize gl.getD k 0 = g0 at *
              clear cS hr5 hk5 h5 h4 hb4 d0 d1 d2 d3 hcf hlk2 hbx hb5 hgl
              have cC := hF.rt.count _ rfl
              have HF := Lib.hid hF
              clear hF
              go_wp2_with fail
              refine cC.mono ?_
              rintro e w9 ⟨rfl, hB9⟩
              have hF9 := HF.out.ask hB9
              have hlen9 := hF9.map.len 3
              have HF9 := Lib.hid hF9.close
              clear cC HF hF9 hB9
              go_wp2_with fail
              go_roundw
              case rel => exact ⟨i + 1, _, _, _, hlt, by have := HN.out; omega, by go_num, HF9.out⟩
              case measure => simp [intOf]; omega
            · have cS := h4.rt.setGlobalNo kk (by rw [h4.len.2]; exact hin) rd
              have hF := h4
              clear h4 hb4 hbx
              by_cases hk0 : 0 ≤ kk
              · have hk1 : ¬ kk < (G : Int) := fun h => hin ⟨hk0, h⟩
                clear hin
                go_wp2_with fail
                refine cS.mono ?_
                rintro e w5 ⟨rfl, rfl⟩
                clear cS
                have cC := hF.rt.count _ rfl
                have HF := Lib.hid hF
                clear hF
                go_wp2_with fail
                refine cC.mono ?_
                rintro e w9 ⟨rfl, hB9⟩
                have hF9 := HF.out.ask hB9
                have hlen9 := hF9.map.len 3
                have HF9 := Lib.hid hF9.close
                clear cC HF hF9 hB9
                go_wp2_with fail
                go_roundw
                case rel => exact ⟨i + 1, _, _, _, hlt, by have := HN.out; omega, by go_num, HF9.out⟩
                case measure => simp [intOf]; omega
              · clear hin
                go_wp2_with fail
                refine cS.mono ?_
                rintro e w5 ⟨rfl, rfl⟩
                clear cS
                have cC := hF.rt.count _ rfl
                have HF := Lib.hid hF
                clear hF
                go_wp2_with fail
                refine cC.mono ?_
                rintro e w9 ⟨rfl, hB9⟩
                have hF9 := HF.out.ask hB9
                have hlen9 := hF9.map.len 3
                have HF9 := Lib.hid hF9.close
                clear cC HF hF9 hB9
                go_wp2_with fail
                go_roundw
                case rel => exact ⟨i + 1, _, _, _, hlt, by have := HN.out; omega, by go_num, HF9.out⟩
                case measure => simp [intOf]; omega
      | some m =>
        obtain ⟨j, hj⟩ : ∃ j : Nat, id = (j : Int) := by
          refine ⟨id.toNat, ?_⟩
          unfold atI at eat
          by_cases h0 : 0 ≤ id
          · omega
          · rw [if_neg h0] at eat; cases eat
        subst hj
        have ethj : th j = some m := by rw [atI_nat] at eat; exact eat
        have hjN := h2.rt.ltN ethj
        have hjI : (j : Int) < (N : Int) := by omega
        have hj0 : (0 : Int) ≤ (j : Int) := by omega
        have hstm := h2.st j m ethj
        have hlk := h2.map.lookOk (j : Int) hwf true (by rw [eat]; rfl)
        rw [eat] at hlk
        have hlk2 : (Instr.lookup 29 (.map (some mb)) (.int .i64 (j : Int)) true).run Try.prog (wr.alloc (.cells #[.int .i64 kd, .int .i64 (j : Int), .int .i64 kk, .int .i64 rd] 33)) = .ok (.tuple #[.agg #[.int .i64 (m.f 0), .int .i64 (m.f 1)], .bool true]) (wr.alloc (.cells #[.int .i64 kd, .int .i64 (j : Int), .int .i64 kk, .int .i64 rd] 33)) := hlk
        clear hlk
        have h4 := h2.ask ((Below.refl _ (wr.alloc (.cells #[.int .i64 kd, .int .i64 (j : Int), .int .i64 kk, .int .i64 rd] 33))).alloc (Nat.le_refl _) (.cells #[.int .i64 (m.f 0), .int .i64 (m.f 1)] 34))
        have hb4 := hbx.alloc (.cells #[.int .i64 (m.f 0), .int .i64 (m.f 1)] 34)
        clear h2
        have d0 := hb4.cell 0
        have d1 := hb4.cell 1
        have d2 := hb4.cell 2
        have d3 := hb4.cell 3
        simp only [List.getElem?_toArray, List.getElem?_cons_succ, List.getElem?_cons_zero] at d0 d1 d2 d3
        have hcf := h4.cfg.cell 3
        unfold cfgV at hcf
        simp only [List.getElem?_toArray, List.getElem?_cons_succ, List.getElem?_cons_zero] at hcf
        rcases ca with rfl | rfl | rfl | rfl
        · as_aux_lemma =>
            have hae2 : bits .and .i64 kd 3 = 0 := hae
            clear hae
            have cS := h4.rt.spawnNo (j : Int) (.inr (by rw [eat]; rfl))
            have hjN2 : ¬ (N : Int) ≤ (j : Int) := by omega
            have hjn : ¬ (j : Int) < 0 := by omega
            have hF := h4
            clear h4 hb4 hbx
            go_wp2_with fail
            refine cS.mono ?_
            rintro e w5 ⟨rfl, rfl⟩
            clear cS
            have cC := hF.rt.count _ rfl
            have HF := Lib.hid hF
            clear hF
            go_wp2_with fail
            refine cC.mono ?_
            rintro e w9 ⟨rfl, hB9⟩
            have hF9 := HF.out.ask hB9
            have hlen9 := hF9.map.len 3
            have HF9 := Lib.hid hF9.close
            clear cC HF hF9 hB9
            go_wp2_with fail
            go_roundw
            case rel => exact ⟨i + 1, _, _, _, hlt, by have := HN.out; omega, by go_num, HF9.out⟩
            case measure => simp [intOf]; omega
        · as_aux_lemma =>
            have hae2 : bits .and .i64 kd 3 = 1 := hae
            clear hae
            have cS := h4.rt.exit j ethj (j : Int) rfl
            go_wp2_with fail
            refine cS.mono ?_
            rintro e w5 ⟨rfl, hr5, hk5⟩
            have h5 := h4.after hr5 hk5 h4.len.2 (st_del h4.st)
            have hb5 := hk5.blk hb4 (.inr rfl)
            have d1' := hb5.cell 1
            have d2' := hb5.cell 2
            have d3' := hb5.cell 3
            simp only [List.getElem?_toArray, List.getElem?_cons_succ, List.getElem?_cons_zero] at d1' d2' d3'
            obtain ⟨w6, hrun, hm6, hT6⟩ := h5.map.drop (j : Int) hwf (updT th j none) (.inr ⟨j, rfl, by omega, rfl⟩) 0
            have hF := h5.mapped hT6 hm6
            clear cS hr5 hk5 h5 hm6 hT6 h4 hb4 d0 d1 d2 d3 hcf hlk2 hbx hb5
            have cC := hF.rt.count _ rfl
            have HF := Lib.hid hF
            clear hF
            go_wp2_with fail
            refine cC.mono ?_
            rintro e w9 ⟨rfl, hB9⟩
            have hF9 := HF.out.ask hB9
            have hlen9 := hF9.map.len 3
            have HF9 := Lib.hid hF9.close
            clear cC HF hF9 hB9
            go_wp2_with fail
            go_roundw
            case rel => exact ⟨i + 1, _, _, _, hlt, by have := HN.out; omega, by go_num, HF9.out⟩
            case measure => simp [intOf]; omega
        · as_aux_lemma =>
            have hae2 : bits .and .i64 kd 3 = 2 := hae
            clear hae
            have cO1 := h4.rt.of (j : Int)
            rw [eat] at cO1
            have cO : Calls Try.prog 13 #[.pointer (some ⟨t, 0, none⟩), .int .i64 (j : Int)] _ fun e w' => e = .returned (.pointer (some ⟨m.t, 0, none⟩)) ∧ _ = w' := cO1
            clear cO1
            have cS := h4.rt.setReg ethj q (q : Int) rfl (by omega) rd
            go_wp2_with fail
            refine cO.mono ?_
            rintro e w5 ⟨rfl, rfl⟩
            clear cO
            go_wp2_with fail
            refine cS.mono ?_
            rintro e w5 ⟨rfl, hr5, hk5⟩
            have h5 := h4.after hr5 hk5 h4.len.2 (st_upd h4.st hstm)
            have hb5 := hk5.blk hb4 (.inr rfl)
            have d1' := hb5.cell 1
            have d2' := hb5.cell 2
            have d3' := hb5.cell 3
            simp only [List.getElem?_toArray, List.getElem?_cons_succ, List.getElem?_cons_zero] at d1' d2' d3'
            have hlk5 := h5.map.look (j : Int) hwf
            rw [eat] at hlk5
            replace hlk5 : (Instr.lookup 29 (.map (some mb)) (.int .i64 (j : Int)) false).run Try.prog w5 = .ok (.agg #[.int .i64 (m.f 0), .int .i64 (m.f 1)]) w5 := hlk5
            clear cS
            have hqI : (q : Int) ≤ 1 := by omega
            have cq : q = 0 ∨ q = 1 := by omega
            rcases cq with rfl | rfl
            · have hB7 := (Below.refl w5.heap.size w5).alloc (Nat.le_refl _) (.cells #[.int .i64 rd, .int .i64 (m.f 1)] 34)
              have h7 := h5.ask hB7
              have hy7 := Blk.new w5 #[.int .i64 rd, .int .i64 (m.f 1)] 34
              have f0 := hy7.cell 0
              have f1 := hy7.cell 1
              have hb7 := hb5.alloc (.cells #[.int .i64 rd, .int .i64 (m.f 1)] 34)
              have g1 := hb7.cell 1
              have hb6 := hb5.alloc (.cells #[.int .i64 (m.f 0), .int .i64 (m.f 1)] 34)
              have p2 := hb6.cell 2
              have p3 := hb6.cell 3
              simp only [List.getElem?_toArray, List.getElem?_cons_succ, List.getElem?_cons_zero] at f0 f1 g1 p2 p3
              obtain ⟨w8, hrun, hm8, hT8⟩ := h7.map.store hn2 j (by omega) hwf ⟨m.t, updR m.f 0 rd, m.st⟩
              replace hrun : (Instr.mapUpdate 29 (.map (some mb)) (.int .i64 (j : Int)) (.agg #[.int .i64 rd, .int .i64 (m.f 1)])).run Try.prog _ = .ok () w8 := hrun
              have hF := h7.mapped hT8 hm8
              clear hr5 hk5 h5 h7 hm8 hT8 h4 hb4 d0 d1 d2 d3 hcf hlk2 hbx hb5 hB7 hy7 hb7 hb6
              have cC := hF.rt.count _ rfl
              have HF := Lib.hid hF
              clear hF
              go_wp2_with fail
              refine cC.mono ?_
              rintro e w9 ⟨rfl, hB9⟩
              have hF9 := HF.out.ask hB9
              have hlen9 := hF9.map.len 3
              have HF9 := Lib.hid hF9.close
              clear cC HF hF9 hB9
              go_wp2_with fail
              go_roundw
              case rel => exact ⟨i + 1, _, _, _, hlt, by have := HN.out; omega, by go_num, HF9.out⟩
              case measure => simp [intOf]; omega
            · have hB7 := (Below.refl w5.heap.size w5).alloc (Nat.le_refl _) (.cells #[.int .i64 (m.f 0), .int .i64 rd] 34)
              have h7 := h5.ask hB7
              have hy7 := Blk.new w5 #[.int .i64 (m.f 0), .int .i64 rd] 34
              have f0 := hy7.cell 0
              have f1 := hy7.cell 1
              have hb7 := hb5.alloc (.cells #[.int .i64 (m.f 0), .int .i64 rd] 34)
              have g1 := hb7.cell 1
              have hb6 := hb5.alloc (.cells #[.int .i64 (m.f 0), .int .i64 (m.f 1)] 34)
              have p2 := hb6.cell 2
              have p3 := hb6.cell 3
              simp only [List.getElem?_toArray, List.getElem?_cons_succ, List.getElem?_cons_zero] at f0 f1 g1 p2 p3
              obtain ⟨w8, hrun, hm8, hT8⟩ := h7.map.store hn2 j (by omega) hwf ⟨m.t, updR m.f 1 rd, m.st⟩
              replace hrun : (Instr.mapUpdate 29 (.map (some mb)) (.int .i64 (j : Int)) (.agg #[.int .i64 (m.f 0), .int .i64 rd])).run Try.prog _ = .ok () w8 := hrun
              have hF := h7.mapped hT8 hm8
              clear hr5 hk5 h5 h7 hm8 hT8 h4 hb4 d0 d1 d2 d3 hcf hlk2 hbx hb5 hB7 hy7 hb7 hb6
              have cC := hF.rt.count _ rfl
              have HF := Lib.hid hF
              clear hF
              go_wp2_with fail
              refine cC.mono ?_
              rintro e w9 ⟨rfl, hB9⟩
              have hF9 := HF.out.ask hB9
              have hlen9 := hF9.map.len 3
              have HF9 := Lib.hid hF9.close
              clear cC HF hF9 hB9
              go_wp2_with fail
              go_roundw
              case rel => exact ⟨i + 1, _, _, _, hlt, by have := HN.out; omega, by go_num, HF9.out⟩
              case measure => simp [intOf]; omega
        · as_aux_lemma =>
            have hae2 : bits .and .i64 kd 3 = 3 := hae
            clear hae
            by_cases hin : 0 ≤ kk ∧ kk < (G : Int)
            · obtain ⟨k, hk⟩ : ∃ k : Nat, kk = (k : Int) := ⟨kk.toNat, by omega⟩
              subst hk
              have hk1 : (k : Int) < (G : Int) := hin.2
              have hk0 : (0 : Int) ≤ (k : Int) := hin.1
              have hgl := h4.len.2
              have hkl : k < gl.length := by omega
              have cS := h4.rt.setGlobal k hkl (k : Int) rd rfl
              clear hin
              go_wp2_with fail
              refine cS.mono ?_
              rintro e w5 ⟨rfl, hr5, hk5⟩
              have h5 := h4.after hr5 hk5 (by rw [List.length_set]; exact hgl) h4.st
              have hb5 := hk5.blk hb4 (.inr rfl)
              have d1' := hb5.cell 1
              have d2' := hb5.cell 2
              have d3' := hb5.cell 3
              simp only [List.getElem?_toArray, List.getElem?_cons_succ, List.getElem?_cons_zero] at d1' d2' d3'
              have ck : w5.cell? ⟨go, k, none⟩ = some (.int .i64 (gl.getD k 0)) := by rw [h5.own.cell k]; simp [refV, List.getD, hkl]
              have fk := h5.own.free k
              have hF := h5.stored k rd
              generalize gl.getD k 0 = g0 at *
              clear cS hr5 hk5 h5 h4 hb4 d0 d1 d2 d3 hcf hlk2 hbx hb5 hgl
              have cC := hF.rt.count _ rfl
              have HF := Lib.hid hF
              clear hF
              go_wp2_with fail
              refine cC.mono ?_
              rintro e w9 ⟨rfl, hB9⟩
              have hF9 := HF.out.ask hB9
              have hlen9 := hF9.map.len 3
              have HF9 := Lib.hid hF9.close
              clear cC HF hF9 hB9
              go_wp2_with fail
              go_roundw
              case rel => exact ⟨i + 1, _, _, _, hlt, by have := HN.out; omega, by go_num, HF9.out⟩
              case measure => simp [intOf]; omega
            · have cS := h4.rt.setGlobalNo kk (by rw [h4.len.2]; exact hin) rd
              have hF := h4
              clear h4 hb4 hbx
              by_cases hk0 : 0 ≤ kk
              · have hk1 : ¬ kk < (G : Int) := fun h => hin ⟨hk0, h⟩
                clear hin
                go_wp2_with fail
                refine cS.mono ?_
                rintro e w5 ⟨rfl, rfl⟩
                clear cS
                have cC := hF.rt.count _ rfl
                have HF := Lib.hid hF
                clear hF
                go_wp2_with fail
                refine cC.mono ?_
                rintro e w9 ⟨rfl, hB9⟩
                have hF9 := HF.out.ask hB9
                have hlen9 := hF9.map.len 3
                have HF9 := Lib.hid hF9.close
                clear cC HF hF9 hB9
                go_wp2_with fail
                go_roundw
                case rel => exact ⟨i + 1, _, _, _, hlt, by have := HN.out; omega, by go_num, HF9.out⟩
                case measure => simp [intOf]; omega
              · clear hin
                go_wp2_with fail
                refine cS.mono ?_
                rintro e w5 ⟨rfl, rfl⟩
                clear cS
                have cC := hF.rt.count _ rfl
                have HF := Lib.hid hF
                clear hF
                go_wp2_with fail
                refine cC.mono ?_
                rintro e w9 ⟨rfl, hB9⟩
                have hF9 := HF.out.ask hB9
                have hlen9 := hF9.map.len 3
                have HF9 := Lib.hid hF9.close
                clear cC HF hF9 hB9
                go_wp2_with fail
                go_roundw
                case rel => exact ⟨i + 1, _, _, _, hlt, by have := HN.out; omega, by go_num, HF9.out⟩
                case measure => simp [intOf]; omega
    · have hi1 : ¬ (i : Int) < (len : Int) := by omega
      clear hlt hi hi0
      as_aux_lemma =>
        obtain ⟨W1, rfl⟩ : ∃ W1, W1 = wr := ⟨_, rfl⟩
        have HGL := Lib.hid h1.len.2
        have hgl4 : gl.length ≤ 4 := by have := h1.len.2; omega
        go_wp2_with fail
        go_loopw [21, 182] (fun v21 v182 wr => RnB W1 gl v21 v182 wr) (fun _ v182 _ => gl.length - (intOf v182).toNat)
        case atStart => exact ⟨0, Nat.zero_le _, rfl, ⟨rfl, .inl ⟨rfl, rfl⟩⟩, fun k e => (by cases e), Below.refl _ _⟩
        case round =>
          obtain ⟨j, hj, rfl, hrow, hnew, hBW⟩ := hrel
          have h5 := h1.ask hBW
          have hj0 : (0 : Int) ≤ (j : Int) := by omega
          by_cases hlt : j < gl.length
          · have hj1 : (j : Int) < (G : Int) := by have := HGL.out; omega
            have cG := h5.rt.global j hlt (j : Int) (gl.getD j 0) rfl rfl
            have ck : wr.cell? ⟨go, j, none⟩ = some (.int .i64 (gl.getD j 0)) := by rw [h5.own.cell j]; simp [refV, List.getD, hlt]
            have hnx : gl.take (j + 1) = gl.take j ++ [gl.getD j 0] := by
              rw [List.take_add_one, List.getElem?_eq_getElem hlt]
              simp [List.getD, hlt]
            have hjl : (gl.take j).length ≤ 4 := by rw [List.length_take]; omega
            have HNX := Lib.hid hnx
            generalize gl.getD j 0 = r at *
            have hrow2 : RefRow (wr.alloc (.cells #[.int .i64 r] 31)) u21 (gl.take j) := hrow.turn ((Turn.refl (fun _ => False) wr).alloc _) (fun _ _ h => h)
            have hvl : ∀ k, u21.ownBlock = some k → k < wr.heap.size := fun k e => by obtain ⟨_, hb⟩ := hrow.own e; exact hb.lt
            have HR := Lib.hid hrow2
            have HN1 := Lib.hid hnew
            have HBW := Lib.hid hBW
            have HVL := Lib.hid hvl
            clear h5 hrow hnew hBW hvl hrow2 hnx
            go_wp2_with fail
            refine cG.mono ?_
            rintro e w5 ⟨rfl, rfl⟩
            clear cG
            go_wp2_with (at_builtin; refine wpList_pushT rfl _ _ rfl HR.out (by omega) wr.heap.size 1 r ((Blk.new wr _ _).cell 0) rfl rfl ?_; intro g6 n6 c6 w6 hR6 hT6 hN6; have H6 := Lib.hid (And.intro hR6 (And.intro hT6 hN6)); clear hR6 hT6 hN6)
            go_roundw
            case rel =>
              obtain ⟨hR6, hT6, hN6⟩ := H6.out
              have hs6 := HBW.out.size
              refine ⟨j + 1, hlt, by go_num, by rw [HNX.out]; exact hR6, fun k e => ?_, ((HBW.out.alloc hs6 _).trans (hT6.below _ (by simp; omega) (fun k hk e => by have := HN1.out k e; omega)))⟩
              have e2 := own_slice e
              subst e2
              rcases hN6 with e3 | e3
              · exact HN1.out _ e3
              · have e4 : (wr.alloc (.cells #[.int .i64 r] 31)).heap.size = wr.heap.size + 1 := by simp
                omega
            case measure => simp [intOf]; omega
          · have hj1 : ¬ (j : Int) < (G : Int) := by have := HGL.out; omega
            have htk : gl.take j = gl := List.take_of_length_le (by omega)
            rw [htk] at hrow
            clear hlt hj hj0 h5 htk
            go_wp2_with fail
            go_loopw [21, 205] (fun v21 v205 wr => RnC W1 gl th v21 v205 wr) (fun _ v205 _ => 4 - (intOf v205).toNat)
            case atStart => exact ⟨0, Nat.zero_le _, rfl, by simpa [pairsT, liveT] using hrow, hnew, hBW⟩
            case round =>
              clear hrow hnew hBW
              obtain ⟨j, hj, rfl, hrow, hnew, hBW⟩ := hrel
              have h5 := h1.ask hBW
              have hj0 : (0 : Int) ≤ (j : Int) := by omega
              have hlen : (gl ++ pairsT th j).length ≤ 20 := by
                have h8 := pairsT_length th j
                rw [List.length_append]
                omega
              by_cases hlt : j < 4
              · have hj1 : (j : Int) < 4 := by omega
                have hwf : (Lit.int .i64 (j : Int)).wf = true := by
                  have c : j = 0 ∨ j = 1 ∨ j = 2 ∨ j = 3 := by omega
                  rcases c with rfl | rfl | rfl | rfl <;> rfl
                cases ej : th j with
                | none =>
                  have hlk := h5.map.lookOk (j : Int) hwf false (by rw [atI_nat, ej]; rfl)
                  rw [atI_nat, ej] at hlk
                  replace hlk : (Instr.lookup 29 (.map (some mb)) (.int .i64 (j : Int)) true).run Try.prog wr = .ok (.tuple #[.agg #[.int .i64 0, .int .i64 0], .bool false]) wr := hlk
                  have h6 := h5.ask ((Below.refl _ wr).alloc (Nat.le_refl _) (.cells #[.int .i64 0, .int .i64 0] 34))
                  have cL := h6.rt.live (j : Int) false (by rw [atI_nat, ej]; rfl)
                  have hB6 := hBW.alloc hBW.size (.cells #[.int .i64 0, .int .i64 0] 34)
                  have hrow2 : RefRow (wr.alloc (.cells #[.int .i64 0, .int .i64 0] 34)) u21 (gl ++ pairsT th j) := hrow.turn ((Turn.refl (fun _ => False) wr).alloc _) (fun _ _ h => h)
                  have e1 : pairsT th (j + 1) = pairsT th j := by unfold pairsT; rw [liveT_none ej]
                  have H6 := Lib.hid (And.intro hrow2 (And.intro hB6 (And.intro hnew e1)))
                  clear h5 h6 hrow hnew hBW hB6 hrow2 e1 ej
                  go_wp2_with fail
                  refine cL.mono ?_
                  rintro e w5 ⟨rfl, rfl⟩
                  clear cL
                  go_wp2_with fail
                  go_roundw
                  case rel =>
                    obtain ⟨a1, a2, a3, a4⟩ := H6.out
                    exact ⟨j + 1, hlt, by go_num, by rw [a4]; exact a1, a3, a2⟩
                  case measure => simp [intOf]; omega
                | some m =>
                  have hlk := h5.map.lookOk (j : Int) hwf true (by rw [atI_nat, ej]; rfl)
                  rw [atI_nat, ej] at hlk
                  replace hlk : (Instr.lookup 29 (.map (some mb)) (.int .i64 (j : Int)) true).run Try.prog wr = .ok (.tuple #[.agg #[.int .i64 (m.f 0), .int .i64 (m.f 1)], .bool true]) wr := hlk
                  have h6 := h5.ask ((Below.refl _ wr).alloc (Nat.le_refl _) (.cells #[.int .i64 (m.f 0), .int .i64 (m.f 1)] 34))
                  have cL := h6.rt.live (j : Int) true (by rw [atI_nat, ej]; rfl)
                  have hB6 := hBW.alloc hBW.size (.cells #[.int .i64 (m.f 0), .int .i64 (m.f 1)] 34)
                  have hrow2 : RefRow (wr.alloc (.cells #[.int .i64 (m.f 0), .int .i64 (m.f 1)] 34)) u21 (gl ++ pairsT th j) := hrow.turn ((Turn.refl (fun _ => False) wr).alloc _) (fun _ _ h => h)
                  have hy := Blk.new wr #[.int .i64 (m.f 0), .int .i64 (m.f 1)] 34
                  have e1 : gl ++ pairsT th (j + 1) = gl ++ pairsT th j ++ [m.f 0, m.f 1] := by unfold pairsT; rw [liveT_some ej, List.flatMap_append, List.append_assoc]; rfl
                  have HR := Lib.hid (And.intro hrow2 hy)
                  have H6 := Lib.hid (And.intro hB6 (And.intro hnew e1))
                  clear h5 h6 hrow hnew hBW hB6 hrow2 e1 ej hy
                  go_wp2_with fail
                  refine cL.mono ?_
                  rintro e w5 ⟨rfl, rfl⟩
                  clear cL
                  go_wp2_with (at_builtin; refine wpList_push2 rfl _ _ rfl HR.out.1 (by omega) wr.heap.size 2 (m.f 0) (m.f 1) (HR.out.2.cell 0) (HR.out.2.cell 1) rfl rfl ?_; intro g6 n6 c6 w6 hR6 hT6 hN6; have H7 := Lib.hid (And.intro hR6 (And.intro hT6 hN6)); clear hR6 hT6 hN6)
                  go_roundw
                  case rel =>
                    obtain ⟨hB6, hnew, e1⟩ := H6.out
                    obtain ⟨hR6, hT6, hN6⟩ := H7.out
                    have hs6 := hB6.size
                    refine ⟨j + 1, hlt, by go_num, by rw [e1]; exact hR6, fun k e => ?_, hB6.trans (hT6.below _ hs6 (fun k hk e => by have := hnew k e; omega))⟩
                    have e2 := own_slice e
                    subst e2
                    rcases hN6 with e3 | e3
                    · exact hnew _ e3
                    · omega
                  case measure => simp [intOf]; omega
              · obtain rfl : j = 4 := by omega
                have cS := same_true h5.rt u21 _ hrow (by omega) (nz_pairs h5.st)
                have hbl := h5.rt.below
                have hbs := h5.rt.size
                clear h5 hrow hnew hBW hlt hj hj0 h1
                go_wp2_with fail
                refine cS.mono ?_
                rintro e w5 ⟨rfl, hB5⟩
                have hfin := hbl.trans (hB5.mono hbs)
                clear cS hB5
                go_wp2_with fail
                go_ret
                exact ⟨rfl, hfin⟩
end Go.Proofs.Ytoemfehlnnbjdaa
