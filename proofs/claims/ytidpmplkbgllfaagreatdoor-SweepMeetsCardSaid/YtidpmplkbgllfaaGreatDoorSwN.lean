/- SweepMeets, walked; at this seat's numbers. -/
import Derived.Test.YtidpmplkbgllfaaGreatDoorSwL
import Derived.Test.YtidpmplkbgllfaaGreatDoorSwM
import Derived.Test.YtidpmplkbgllfaaGreatDoorArQ
import Derived.Maps.OwnIn
namespace Go.Proofs.YtidpmplkbgllfaaGreatDoor
open Go Go.RowKit Go.Shelf Go.MuLone Go.RwLone
set_option linter.unusedSimpArgs false
set_option linter.unusedVariables false
attribute [local go_sem] Oper.semAt_some

def oldF (l : List Int) (x : Int) : Int := if x ∈ l then 1 else 0
theorem oldF_snoc (l : List Int) (x : Int) : updI (oldF l) x 1 = oldF (l ++ [x]) := by
  funext y
  unfold oldF
  by_cases e : y = x
  · rw [e, updI_at]; simp
  · rw [updI_ne e]; simp [e]
theorem MapIn.askS {w w' : World} {B n c : Nat} {f : Int → Int} {K : Int → Bool} (h : MapIn w B n f K c) (hB : Below w.heap.size w w') : MapIn w' B n f K c := h.keep (hB.block _ h.lt)
/-- Between two cells that are told to the map. -/
def OldI (w5 W7 : World) (bx mbk : Nat) (st : List (Fin 4096) × (Nat → Prop)) (V : World) : Prop :=
  (∃ nn K cc, nn ≤ st.1.length ∧ MapIn V mbk nn (oldF (st.1.map fun j => ((j.val : Nat) : Int))) K cc) ∧ Blk V bx #[.map (some mbk)] 37 ∧ Below w5.heap.size w5 V ∧ W7.heap.size ≤ V.heap.size
theorem oldI_own {w5 W7 : World} {bx mbk : Nat} (h0 : w5.heap.size ≤ W7.heap.size) (hm : mbk < W7.heap.size) : OwnFrom W7.heap.size (OldI w5 W7 bx mbk) := by
  rintro st V V' row ⟨⟨nn, K, cc, hn, hM⟩, hb, hB, hs⟩ hg hr
  exact ⟨⟨nn, K, cc, hn, hM.keep (hg.block mbk hM.lt (fun e => by have := (hr mbk e.symm).1; omega))⟩, hb.kept hg (fun r e => (hr r e).2), (ownFrom_below (β := Unit) (Nat.le_refl _) h0) () V V' row hB hg hr, Nat.le_trans hs hg.size⟩
/-- Between two objects that are taken while the sweep is under way. -/
structure MeR (B xa tm sw mbk bx D kq : Nat) (s0 : ArS) (v15 : Value) (fr : List Nat) (X : ArB) (s : ArS) (T : MkB) (c : Col) (wb wr : World) : Prop where
  sw : SwIn B (fun k => (k = mbk ∨ k = bx ∨ k = D) ∨ v15.ownBlock = some k) X s T c sw true kq wb wr
  xe : X.a = xa
  te : T.m = tm
  P : s.P = 64
  S : ∀ r, s.S r = (s0.S r || decide (r ∈ fr))
  dj : ∀ r ∈ fr, s0.S r = false
  nd : fr.Nodup
  c : ∀ x, c.ma x = decide (∃ r ∈ fr, (r : Int) = x ∧ kq ≤ pg r)
  row : RefRow wr v15 (intsN fr)
  map : ∃ nn K cc, MapIn wr mbk nn (oldF (intsN (elems s0.S 2049))) K cc
  box : Blk wr bx #[.map (some mbk)] 37
  df : wr.heap[D]? = some (.deferred (some []))
section
variable {B xa tm sw mbk bx D kq : Nat} {s0 s s' : ArS} {v15 : Value} {fr : List Nat} {X X' : ArB} {T T' : MkB} {c c' : Col} {wb wr w' : World}
theorem MeR.keep (h : MeR B xa tm sw mbk bx D kq s0 v15 fr X s T c wb wr) (hk : ∀ k, ((k = mbk ∨ k = bx ∨ k = D) ∨ v15.ownBlock = some k) → w'.heap[k]? = wr.heap[k]?) :
    RefRow w' v15 (intsN fr) ∧ (∃ nn K cc, MapIn w' mbk nn (oldF (intsN (elems s0.S 2049))) K cc) ∧ Blk w' bx #[.map (some mbk)] 37 ∧ w'.heap[D]? = some (.deferred (some [])) := by
  obtain ⟨nn, K, cc, hM⟩ := h.map
  exact ⟨h.row.keepSw (fun k e => hk k (.inr e)), ⟨nn, K, cc, hM.keep (hk _ (.inl (.inl rfl)))⟩, by have h1 := h.box; unfold Blk at *; rw [hk _ (.inl (.inr (.inl rfl)))]; exact h1, (hk _ (.inl (.inr (.inr rfl)))).trans h.df⟩
theorem MeR.ask (h : MeR B xa tm sw mbk bx D kq s0 v15 fr X s T c wb wr) (hB : Below wr.heap.size wr w') : MeR B xa tm sw mbk bx D kq s0 v15 fr X s T c wb w' := by
  obtain ⟨r1, r2, r3, r4⟩ := h.keep (w' := w') (fun k e => hB.block k (h.sw.ma.ownE k (.inl e)).2.1)
  exact ⟨h.sw.ask hB, h.xe, h.te, h.P, h.S, h.dj, h.nd, h.c, r1, r2, r3, r4⟩
theorem MeR.in_ (h : MeR B xa tm sw mbk bx D kq s0 v15 fr X s T c wb wr) {r : Nat} (hr : r ∈ fr) : s.S r = true ∧ 1 ≤ r ∧ r < 2049 ∧ pg r < 64 := by
  have h1 : s.S r = true := by rw [h.S, decide_eq_true hr]; simp
  exact ⟨h1, fits_lt h.sw.fits h.P h1⟩
/-- A cell was taken that had been free; it is in no list yet. -/
structure MeT (B xa tm sw mbk bx D kq : Nat) (s0 : ArS) (v15 : Value) (fr : List Nat) (r : Nat) (X : ArB) (s : ArS) (T : MkB) (c : Col) (wb wr : World) : Prop where
  sw : SwIn B (fun k => (k = mbk ∨ k = bx ∨ k = D) ∨ v15.ownBlock = some k) X s T c sw true kq wb wr
  xe : X.a = xa
  te : T.m = tm
  P : s.P = 64
  S : ∀ q, s.S q = (s0.S q || decide (q ∈ fr ++ [r]))
  dj : ∀ q ∈ fr ++ [r], s0.S q = false
  nd : (fr ++ [r]).Nodup
  row : RefRow wr v15 (intsN fr)
  map : ∃ nn K cc, MapIn wr mbk nn (oldF (intsN (elems s0.S 2049))) K cc
  box : Blk wr bx #[.map (some mbk)] 37
  df : wr.heap[D]? = some (.deferred (some []))
theorem MeR.take (h : MeR B xa tm sw mbk bx D kq s0 v15 fr X s T c wb wr) (k : Int) : Calls Tryz.prog 14 #[.pointer (some ⟨xa, 0, none⟩), .int .i64 k] wr fun e w' =>
    e = .returned (.tuple #[.int .i64 ((seekF s k : Nat) : Int), .bool (decide (seekF s k ≠ 0))]) ∧ (seekF s k = 0 → MeR B xa tm sw mbk bx D kq s0 v15 fr X s T c wb w' ∨ Below B wb w') ∧ Below B wb w' ∧ B ≤ w'.heap.size ∧ w'.heap[D]? = some (.deferred (some [])) ∧
      (seekF s k ≠ 0 → (∃ X', MeT B xa tm sw mbk bx D kq s0 v15 fr (seekF s k) X' (s.take k) T c wb w') ∧ (∀ x, c.ma x = decide (∃ r ∈ fr, (r : Int) = x ∧ kq ≤ pg r))) := by
  have h1 := h.sw.ma.take k
  rw [h.xe] at h1
  refine h1.mono ?_
  rintro e w1 ⟨rfl, lo, g, hk, hsz⟩
  obtain ⟨r1, r2, r3, r4⟩ := h.keep (w' := w1) (fun k e => hk k (.inl e))
  refine ⟨rfl, fun _ => .inr g.ar.below, g.ar.below, g.size, r4, fun h0 => ⟨⟨X.with lo, ?_⟩, h.c⟩⟩
  obtain ⟨_, q1, q2, q3, q4, _⟩ := seekF_is h.sw.fits h0
  have hnf : s0.S (seekF s k) = false ∧ seekF s k ∉ fr := by
    rw [h.S, Bool.or_eq_false_iff] at q4
    exact ⟨q4.1, of_decide_eq_false q4.2⟩
  refine ⟨h.sw.went rfl g hk, h.xe, h.te, (take_P s k).trans h.P, fun q => ?_, fun q hq => ?_, ?_, r1, r2, r3, r4⟩
  · rw [take_some h0]
    show (s.S q || decide (q = seekF s k)) = _
    rw [h.S]
    by_cases e1 : q ∈ fr <;> by_cases e2 : q = seekF s k <;> simp [e1, e2]
  · rcases List.mem_append.1 hq with e | e
    · exact h.dj q e
    · rw [List.mem_singleton.1 e]; exact hnf.1
  · exact List.nodup_append.2 ⟨h.nd, (by simp), fun a ha b hb e => by
      rw [List.mem_singleton.1 hb] at e
      exact hnf.2 (e ▸ ha)⟩
variable {r : Nat}
theorem MeT.keep (h : MeT B xa tm sw mbk bx D kq s0 v15 fr r X s T c wb wr) (hk : ∀ k, ((k = mbk ∨ k = bx ∨ k = D) ∨ v15.ownBlock = some k) → w'.heap[k]? = wr.heap[k]?) :
    RefRow w' v15 (intsN fr) ∧ (∃ nn K cc, MapIn w' mbk nn (oldF (intsN (elems s0.S 2049))) K cc) ∧ Blk w' bx #[.map (some mbk)] 37 ∧ w'.heap[D]? = some (.deferred (some [])) := by
  obtain ⟨nn, K, cc, hM⟩ := h.map
  exact ⟨h.row.keepSw (fun k e => hk k (.inr e)), ⟨nn, K, cc, hM.keep (hk _ (.inl (.inl rfl)))⟩, by have h1 := h.box; unfold Blk at *; rw [hk _ (.inl (.inr (.inl rfl)))]; exact h1, (hk _ (.inl (.inr (.inr rfl)))).trans h.df⟩
theorem MeT.ask (h : MeT B xa tm sw mbk bx D kq s0 v15 fr r X s T c wb wr) (hB : Below wr.heap.size wr w') : MeT B xa tm sw mbk bx D kq s0 v15 fr r X s T c wb w' := by
  obtain ⟨r1, r2, r3, r4⟩ := h.keep (w' := w') (fun k e => hB.block k (h.sw.ma.ownE k (.inl e)).2.1)
  exact ⟨h.sw.ask hB, h.xe, h.te, h.P, h.S, h.dj, h.nd, r1, r2, r3, r4⟩
theorem MeT.in_ (h : MeT B xa tm sw mbk bx D kq s0 v15 fr r X s T c wb wr) : s.S r = true ∧ 1 ≤ r ∧ r < 2049 ∧ pg r < 64 := by
  have h1 : s.S r = true := by rw [h.S, decide_eq_true (by simp)]; simp
  exact ⟨h1, fits_lt h.sw.fits h.P h1⟩
theorem MeT.look (h : MeT B xa tm sw mbk bx D kq s0 v15 fr r X s T c wb wr) : (Instr.lookup 37 (.map (some mbk)) (.int .i64 (r : Int)) false).run Tryz.prog wr = .ok (.int .i64 0) wr := by
  obtain ⟨nn, K, cc, hM⟩ := h.map
  obtain ⟨_, h1, h2, _⟩ := h.in_
  have h3 := hM.look (r : Int) (by simp [Lit.wf, IntKind.min, IntKind.max, IntKind.signed, IntKind.bits]; omega)
  have e : oldF (intsN (elems s0.S 2049)) (r : Int) = 0 := by
    unfold oldF
    refine if_neg fun hx => ?_
    obtain ⟨q, hq, e2⟩ := List.mem_map.1 hx
    have e3 : q = r := by omega
    subst e3
    have h4 := (mem_elemsS.1 hq).2
    rw [h.dj q (by simp)] at h4
    cases h4
  rw [e] at h3
  exact h3
theorem MeT.ahead (h : MeT B xa tm sw mbk bx D kq s0 v15 fr r X s T c wb wr) : Calls Tryz.prog 15 #[.pointer (some ⟨sw, 0, none⟩), .int .i64 (r : Int)] wr fun e w' => e = .returned (.bool (decide (kq ≤ pg r))) ∧ Below wr.heap.size wr w' := by
  have h1 := h.sw.ahead (r : Int)
  obtain ⟨_, h2, h3, h4⟩ := h.in_
  have e : pgI s (r : Int) = ((pg r : Nat) : Int) := by
    unfold pgI
    rw [if_pos ⟨by omega, by rw [h.P]; omega⟩]; simp
  rw [e, Bool.true_and] at h1
  have e2 : decide ((kq : Int) ≤ ((pg r : Nat) : Int)) = decide (kq ≤ pg r) := decide_eq_decide.2 (by omega)
  rw [e2] at h1
  exact h1
theorem MeT.page (h : MeT B xa tm sw mbk bx D kq s0 v15 fr r X s T c wb wr) : Calls Tryz.prog 16 #[.pointer (some ⟨xa, 0, none⟩), .int .i64 (r : Int)] wr fun e w' => e = .returned (.int .i64 ((pg r : Nat) : Int)) ∧ wr = w' := by
  obtain ⟨_, h2, h3, h4⟩ := h.in_
  have h1 := page_yes h.sw.ma.ar.at_.toArMem r h2 (by rw [h.P]; omega)
  rw [h.xe] at h1
  exact h1
theorem MeT.blacken (h : MeT B xa tm sw mbk bx D kq s0 v15 fr r X s T c wb wr) : Calls Tryz.prog 17 #[.pointer (some ⟨tm, 0, none⟩), .int .i64 (r : Int)] wr fun e w' => e = .returned (.tuple #[]) ∧ ∃ T', MeT B xa tm sw mbk bx D kq s0 v15 fr r X s T' (c.black (r : Int)) wb w' := by
  have h1 := h.sw.ma.blacken (r : Int) (by rw [inS_nat]; exact h.in_.1)
  rw [h.te] at h1
  refine h1.mono ?_
  rintro e w1 ⟨rfl, T', hm, g, hk, hsz⟩
  obtain ⟨r1, r2, r3, r4⟩ := h.keep (w' := w1) (fun k e => hk k (.inl e))
  exact ⟨rfl, T', h.sw.went (hm.trans h.te.symm) g hk, h.xe, hm, h.P, h.S, h.dj, h.nd, r1, r2, r3, r4⟩
theorem MeT.push {g n cap : Nat} (h : MeT B xa tm sw mbk bx D kq s0 v15 fr r X s T c wb wr) (hc : ∀ x, c.ma x = decide (∃ q ∈ fr ++ [r], (q : Int) = x ∧ kq ≤ pg q)) (hR : RefRow w' (.slice (some ⟨g, 0, none⟩) n cap) (intsN fr ++ [(r : Int)])) (hT : Turn (fun k => v15.ownBlock = some k) wr w') (hN : v15.ownBlock = some g ∨ wr.heap.size ≤ g) :
    MeR B xa tm sw mbk bx D kq s0 (.slice (some ⟨g, 0, none⟩) n cap) (fr ++ [r]) X s T c wb w' := by
  have hgl : g < w'.heap.size := hR.lt rfl
  obtain ⟨nn, K, cc, hM⟩ := h.map
  have hfar : ∀ k, v15.ownBlock = some k → k ≠ mbk ∧ k ≠ bx ∧ k ≠ D := fun k e => by
    obtain ⟨cs, hcs⟩ := h.row.own e
    refine ⟨fun e2 => hM.farBlk hcs e2, fun e2 => ?_, fun e2 => ?_⟩
    · subst e2; exact blkT h.box hcs (by decide)
    · subst e2
      have h1 := h.df
      unfold Blk at hcs
      rw [hcs] at h1; cases h1
  have hne : ¬ v15.ownBlock = some sw := fun e => h.sw.far (.inr e)
  refine ⟨⟨h.sw.ma.turnW hT (fun k e => .inl (.inr e)) (fun k e => ?_), h.sw.blk.turn hT hne, fun e => ?_⟩, h.xe, h.te, h.P, h.S, h.dj, h.nd, hc, by rw [intsN_snoc]; exact hR, ⟨nn, K, cc, hM.turn hT (fun e => (hfar _ e).1 rfl)⟩, h.box.turn hT (fun e => (hfar _ e).2.1 rfl), (hT.block D (Array.getElem?_eq_some_iff.1 h.df).1 (fun e => (hfar _ e).2.2 rfl)).trans h.df⟩
  · rcases e with (e | e) | e
    · exact .inl (.inl (.inl e))
    · have e2 : g = k := own_slice e
      subst e2
      rcases hN with e3 | e3
      · exact .inl (.inl (.inr e3))
      · exact .inr ⟨e3, hgl⟩
    · exact .inl (.inr e)
  · rcases e with e | e
    · exact h.sw.far (.inl e)
    · have e2 : g = sw := own_slice e
      subst e2
      rcases hN with e3 | e3
      · exact h.sw.far (.inr e3)
      · have := h.sw.blk.lt; omega
/-- Between two pages of the sweep's rest. -/
structure MeS (B xa tm sw D kq : Nat) (s0 : ArS) (v15 : Value) (fr : List Nat) (nx : Nat) (wb wr : World) : Prop where
  ex : ∃ X s T c, X.a = xa ∧ T.m = tm ∧ SwIn B (fun k => k = D ∨ v15.ownBlock = some k) X s T c sw (decide (nx < 64)) nx wb wr ∧ s.P = 64 ∧
    (∀ r, s.S r = ((s0.S r || decide (r ∈ fr)) && (decide (r ∈ fr) || decide (pg r < kq) || decide (nx ≤ pg r)))) ∧ ∀ x, c.ma x = decide (∃ r ∈ fr, (r : Int) = x ∧ kq ≤ pg r ∧ nx ≤ pg r)
  le : nx ≤ 64
  ge : kq ≤ nx
  row : RefRow wr v15 (intsN fr)
  df : wr.heap[D]? = some (.deferred (some []))
theorem MeR.rest (h : MeR B xa tm sw mbk bx D kq s0 v15 fr X s T c wb wr) (hk : kq < 10) : MeS B xa tm sw D kq s0 v15 fr kq wb wr := by
  refine ⟨⟨X, s, T, c, h.xe, h.te, ⟨h.sw.ma.less (fun k e => ?_), ?_, fun e => ?_⟩, h.P, fun r => ?_, fun x => ?_⟩, by omega, Nat.le_refl _, h.row, h.df⟩
  · rcases e with (e | e) | e
    · exact .inl (.inl (.inr (.inr e)))
    · exact .inl (.inr e)
    · exact .inr e
  · rw [decide_eq_true (show kq < 64 by omega)]; exact h.sw.blk
  · rcases e with e | e
    · exact h.sw.far (.inl (.inr (.inr e)))
    · exact h.sw.far (.inr e)
  · rw [h.S]
    by_cases e1 : pg r < kq
    · simp [e1]
    · have e2 : kq ≤ pg r := by omega
      simp [e2]
  · rw [h.c]
    exact decide_eq_decide.2 ⟨fun ⟨r, h1, h2, h3⟩ => ⟨r, h1, h2, h3, h3⟩, fun ⟨r, h1, h2, h3, _⟩ => ⟨r, h1, h2, h3⟩⟩
variable {nx : Nat}
theorem MeS.on_ (h : MeS B xa tm sw D kq s0 v15 fr nx wb wr) : Calls Tryz.prog 18 #[.pointer (some ⟨sw, 0, none⟩)] wr fun e w' => e = .returned (.bool (decide (nx < 64))) ∧ wr = w' := by
  obtain ⟨X, s, T, c, h1, h2, h3, h4⟩ := h.ex
  exact h3.on_
theorem MeS.next (h : MeS B xa tm sw D kq s0 v15 fr nx wb wr) : (wr.cell? ⟨sw, 2, none⟩).getD undef = .int .i64 (nx : Int) := by
  obtain ⟨X, s, T, c, h1, h2, h3, h4⟩ := h.ex
  have h5 := h3.blk.cell 2
  simp only [swArr, List.getElem?_toArray, List.getElem?_cons_zero, List.getElem?_cons_succ] at h5
  rw [h5]; rfl
theorem MeS.page (h : MeS B xa tm sw D kq s0 v15 fr nx wb wr) (hn : nx < 64) : Calls Tryz.prog 12 #[.pointer (some ⟨sw, 0, none⟩)] wr fun e w' => ∃ v, e = .returned v ∧ MeS B xa tm sw D kq s0 v15 fr (nx + 1) wb w' := by
  obtain ⟨X, s, T, c, h1, h2, h3, h4, h5, h6⟩ := h.ex
  rw [decide_eq_true hn] at h3
  have hF := h3.fits
  refine (h3.page (by rw [h4]; omega)).mono ?_
  rintro e w1 ⟨v, X', T', rfl, _, hXa, hTm, g, hk, hsz⟩
  rw [h4] at g
  have hge := h.ge
  refine ⟨v, rfl, ⟨⟨X', _, T', _, hXa.trans h1, hTm.trans h2, g, (swS_P _ _ _).trans h4, fun r => ?_, fun x => ?_⟩, by omega, by omega, h.row.keepSw (fun k e => hk k (.inr e)), (hk D (.inl rfl)).trans h.df⟩⟩
  · rw [swS_S hF, h5, h6]
    have e0 : decide (∃ q ∈ fr, (q : Int) = (r : Int) ∧ kq ≤ pg q ∧ nx ≤ pg q) = (decide (r ∈ fr) && (decide (kq ≤ pg r) && decide (nx ≤ pg r))) := by
      rw [← Bool.decide_and, ← Bool.decide_and]
      exact decide_eq_decide.2 ⟨fun ⟨q, a1, a2, a3⟩ => by
        have a4 : q = r := by omega
        subst a4
        exact ⟨a1, a3⟩, fun ⟨a1, a3⟩ => ⟨r, a1, rfl, a3⟩⟩
    rw [e0]
    by_cases b1 : r ∈ fr <;> by_cases b2 : pg r < kq <;> by_cases b3 : nx ≤ pg r <;> by_cases b4 : pg r = nx <;> cases s0.S r <;> simp [b1, b2, b3, b4] <;> omega
  · rw [swC_ma hF c h3.ma.inn, h6]
    rw [← decide_not, ← Bool.decide_and]
    exact decide_eq_decide.2 ⟨fun ⟨⟨q, a1, a2, a3, a4⟩, a5⟩ => ⟨q, a1, a2, a3, by
      have a6 : x.toNat = q := by omega
      rw [a6] at a5
      omega⟩, fun ⟨q, a1, a2, a3, a4⟩ => ⟨⟨q, a1, a2, a3, by omega⟩, by
      have a6 : x.toNat = q := by omega
      rw [a6]
      omega⟩⟩
theorem MeS.has (h : MeS B xa tm sw D kq s0 v15 fr nx wb wr) (r : Nat) (hr : r ∈ fr) : Calls Tryz.prog 19 #[.pointer (some ⟨xa, 0, none⟩), .int .i64 (r : Int)] wr fun e w' => e = .returned (.bool true) ∧ Below wr.heap.size wr w' := by
  obtain ⟨X, s, T, c, h1, h2, h3, h4, h5, h6⟩ := h.ex
  have h7 := h3.ma.ar.has (r : Int)
  rw [h1, inS_nat, h5, decide_eq_true hr] at h7
  simpa using h7
theorem MeS.marked (h : MeS B xa tm sw D kq s0 v15 fr 64 wb wr) (r : Nat) : Calls Tryz.prog 20 #[.pointer (some ⟨tm, 0, none⟩), .int .i64 (r : Int)] wr fun e w' => e = .returned (.bool false) ∧ Below wr.heap.size wr w' := by
  obtain ⟨X, s, T, c, h1, h2, h3, h4, h5, h6⟩ := h.ex
  have h7 := h3.ma.marked (r : Int)
  have e : c.ma (r : Int) = false := by
    rw [h6]
    refine decide_eq_false fun ⟨q, a1, a2, a3, a4⟩ => ?_
    have h8 : s.S q = true := by rw [h5, decide_eq_true a1]; simp
    have := (fits_lt h3.fits h4 h8).2.2
    omega
  rw [h2, e] at h7
  exact h7
theorem MeS.ask (h : MeS B xa tm sw D kq s0 v15 fr nx wb wr) (hB : Below wr.heap.size wr w') : MeS B xa tm sw D kq s0 v15 fr nx wb w' := by
  obtain ⟨X, s, T, c, h1, h2, h3, h4⟩ := h.ex
  exact ⟨⟨X, s, T, c, h1, h2, h3.ask hB, h4⟩, h.le, h.ge, h.row.askSw hB, (hB.block D (Array.getElem?_eq_some_iff.1 h.df).1).trans h.df⟩
/-- At the end there are just those that were taken. -/
theorem MeS.count (h : MeS B xa tm sw D kq s0 v15 fr 64 wb wr) (hlow : ∀ r, s0.S r = true → kq ≤ pg r ∧ pg r < 64) (hnd : fr.Nodup) : ∃ X s, X.a = xa ∧ ArIn B X s wb wr ∧ s.P = 64 ∧ (elems s.S 2049).length = fr.length := by
  obtain ⟨X, s, T, c, h1, h2, h3, h4, h5, h6⟩ := h.ex
  refine ⟨X, s, h1, h3.ma.ar, h4, ?_⟩
  have h7 : (intsN (elems s.S 2049)).length = (intsN fr).length := by
    refine same_length ?_ ?_ fun x => ?_
    · unfold intsN elems
      exact List.pairwise_map.2 ((List.nodup_range.filter _).imp fun {a b} hab e => hab (by omega))
    · unfold intsN
      exact List.pairwise_map.2 (hnd.imp fun {a b} hab e => hab (by omega))
    · constructor
      · intro hx
        obtain ⟨r, hr, rfl⟩ := List.mem_map.1 hx
        have h8 := (mem_elemsS.1 hr).2
        have h10 := h8
        rw [h5] at h8
        refine List.mem_map.2 ⟨r, ?_, rfl⟩
        by_cases e : r ∈ fr
        · exact e
        · rw [decide_eq_false e] at h8
          cases hs : s0.S r with
          | false => rw [hs] at h8; cases h8
          | true =>
            have h9 := hlow r hs
            rw [hs, decide_eq_false (show ¬ pg r < kq by omega), decide_eq_false (show ¬ 64 ≤ pg r by omega)] at h8
            cases h8
      · intro hx
        obtain ⟨r, hr, rfl⟩ := List.mem_map.1 hx
        have h8 : s.S r = true := by rw [h5, decide_eq_true hr]; simp
        exact List.mem_map.2 ⟨r, mem_elemsS.2 ⟨(fits_lt h3.fits h4 h8).2.1, h8⟩, rfl⟩
  rw [intsN_length, intsN_length] at h7
  exact h7
end
set_option maxRecDepth 100000 in
set_option maxHeartbeats 16000000 in
theorem swmeets_true (a0 : Option Addr) (zs : List Int) (cf : Nat) (e0 : Option Addr) (ne ce : Nat) (Q : Nat → Nat → Int) (pv : Nat) (hpv : pv < 256) (a1 : Option Addr) (us : List Int) (cu : Nat) (w : World) (hul : us.length ≤ 9223372036854775807) (hF : BytesW w a0 zs) (hE : EdgesW w e0 ne Q) (hU : BytesW w a1 us) (hTb : TabAt w) (hT : TableAt w) :
    Calls Tryz.prog 3 #[.agg #[.slice a0 zs.length cf, .slice e0 ne ce], .int .u8 (pv : Int), .slice a1 us.length cu] w fun e w' => e = .returned (.bool true) ∧ Below w.heap.size w w' := by
  have HA := Lib.hid (And.intro hF (And.intro hE hU))
  obtain ⟨M, hM⟩ : ∃ M : Nat, 10 ≤ M := ⟨10, Nat.le_refl _⟩
  have hG := Blk.new w #[.slice a0 zs.length cf, .slice e0 ne ce] 25
  have hB0 := (Below.refl w.heap.size w).alloc (Nat.le_refl _) (.cells #[.slice a0 zs.length cf, .slice e0 ne ce] 25)
  have hT0 := hT.below hB0
  have HG := Lib.hid (And.intro hG (And.intro hB0 hT0))
  have HTB := Lib.hid hTb
  clear hF hE hU hG hB0 hT0 hT hTb
  refine calls_of_wp_marks Tryz.func3 rfl M ?_
  simp only [Tryz.ntmps3, List.size_toArray, List.length_cons, List.length_nil, Nat.reduceAdd, Nat.reduceSub, Array.replicate_succ, Array.replicate_zero, List.push_toArray, List.append_toArray, List.nil_append, List.cons_append]
  gi_wp2_with fail
  refine ⟨trivial, fun h => (by cases h), ?_⟩
  obtain ⟨hG, hB0, hT0⟩ := HG.out
  clear HG
  generalize w.alloc (.cells #[.slice a0 zs.length cf, .slice e0 ne ce] 25) = W0 at *
  refine (callsIn_wide.2 (swfit_true W0 hT0)).mono ?_
  rintro e w1 ⟨rfl, hB1⟩
  have hG1 := hG.turn (Turn.ofBelow hB1) (fun e => Nat.lt_irrefl _ (Nat.lt_of_lt_of_le hG.lt e))
  have hB01 := hB0.trans (hB1.mono hB0.size)
  have g0 := hG1.cell 0
  have g1 := hG1.cell 1
  simp only [List.getElem?_toArray, List.getElem?_cons_zero, List.getElem?_cons_succ] at g0 g1
  obtain ⟨q, hq⟩ : ∃ q, (decide (zs.length ≤ 40) && decide (ne ≤ 120)) = q := ⟨_, rfl⟩
  have cS := swSmall a0 zs.length cf e0 ne ce w1 q hq
  have HW1 := Lib.hid (And.intro hG1 (And.intro hB01 (hT0.below hB1)))
  clear hB0 hB1 hG hT0 hG1 hB01
  gi_wp2_with fail
  refine ⟨trivial, fun h => (by cases h), ?_⟩
  refine (callsIn_wide.2 cS).mono ?_
  rintro e w2 ⟨rfl, hB2⟩
  have hB02 := HW1.out.2.1.trans (hB2.mono HW1.out.2.1.size)
  clear cS g0 g1
  by_cases hsm : zs.length ≤ 40 ∧ ne ≤ 120 ∧ us.length ≤ 20
  case neg =>
    cases q with
    | false =>
      clear hsm hq
      gi_wp2_with fail
      exact ⟨_, results_tmp rfl _ _ _, rfl, hB02⟩
    | true =>
      have h20 : 20 < (us.length : Int) := by
        have h1 : zs.length ≤ 40 := by simpa using (Bool.and_eq_true_iff.1 hq).1
        have h2 : ne ≤ 120 := by simpa using (Bool.and_eq_true_iff.1 hq).2
        have : ¬ (us.length ≤ 20) := fun h3 => hsm ⟨h1, h2, h3⟩
        omega
      clear hsm hq
      gi_wp2_with fail
      exact ⟨_, results_tmp rfl _ _ _, rfl, hB02⟩
  case pos =>
  obtain ⟨h40, h120, h20⟩ := hsm
  have h20I : ¬ (20 < (us.length : Int)) := by omega
  have hqt : q = true := by rw [← hq, decide_eq_true h40, decide_eq_true h120]; rfl
  subst hqt
  have hG2 := HW1.out.1.turn (Turn.ofBelow hB2) (fun e => Nat.lt_irrefl _ (Nat.lt_of_lt_of_le HW1.out.1.lt e))
  have hT2 := HW1.out.2.2.below hB2
  have cM := made_any a0 zs cf e0 ne ce Q w2 h40 h120 (HA.out.1.underS hB02 (Nat.le_refl _)) (HA.out.2.1.underS hB02 (Nat.le_refl _)) hT2
  have g0 := hG2.cell 0
  have g1 := hG2.cell 1
  simp only [List.getElem?_toArray, List.getElem?_cons_zero, List.getElem?_cons_succ] at g0 g1
  have HW2 := Lib.hid hB02
  have H40 := Lib.hid (And.intro h40 h20)
  clear hG2 hT2 hB02 hB2 HW1 hq h40 h120 h20
  gi_wp2_with fail
  refine ⟨trivial, fun h => (by cases h), ?_⟩
  refine (callsIn_wide.2 cM).mono ?_
  rintro e w3 hMP
  obtain ⟨X, s, obs, vl, mb, rfl, hMO⟩ := hMP.light
  have hlen := hMO.row.lenRun 3
  rw [refsI_length, hMO.len] at hlen
  have cN := ma_new (E := fun k => vl.ownBlock = some k) hMO.ar 64 (by omega) hMO.own
  have HO := Lib.hid hMO
  have hc := HO.out.count
  clear hMO hMP cM g0 g1 hlen
  gi_wp2_with fail
  refine ⟨trivial, fun h => (by cases h), ?_⟩
  refine (callsIn_wide.2 cN).mono ?_
  rintro e w4 ⟨T, rfl, hM4, hB4⟩
  have hr4 := HO.out.row.askSw hB4
  have cS := sw_new hM4
  clear cN hM4 hB4
  gi_wp2_with fail
  refine ⟨trivial, fun h => (by cases h), ?_⟩
  refine (callsIn_wide.2 cS).mono ?_
  rintro e w5 ⟨sw, rfl, h5, hB5⟩
  have hr5 := hr4.askSw hB5
  have cB := h5.begin
  have hb0 : ∀ w6 : World, SwIn w2.heap.size (fun k => vl.ownBlock = some k) X s T Col.white sw true 0 w2 w6 → (∀ k, vl.ownBlock = some k → w6.heap[k]? = w5.heap[k]?) → Bgn w2.heap.size X.a T.m sw zs.length vl (refsI obs) 0 0 w2 w6 := fun w6 g hk =>
    ⟨⟨X, s, T, rfl, rfl, g, HO.out.P, fun r _ => Nat.zero_le _, by rw [hc]; omega⟩, Nat.zero_le _, hr5.keepSw hk⟩
  have HB := Lib.hid hb0
  have hq0 : ∃ q1 : Nat, (pv : Int).tmod 10 = (q1 : Int) ∧ q1 < 10 := ⟨pv % 10, by rw [Int.tmod_eq_emod_of_nonneg (by omega)]; omega, Nat.mod_lt _ (by omega)⟩
  obtain ⟨kq, hq1, hq1l⟩ := hq0
  have hw1 : IntKind.u8.wrap (kq : Int) = (kq : Int) := by simp [IntKind.wrap, IntKind.bits, IntKind.signed]; omega
  have hw3 : IntKind.i64.wrap (kq : Int) = (kq : Int) := by simp [IntKind.wrap, IntKind.bits, IntKind.signed]; omega
  clear cS hr4 hr5 h5 hB5 hc hb0
  gi_wp2_with fail
  refine ⟨trivial, fun h => (by cases h), ?_⟩
  refine (callsIn_wide.2 cB).mono ?_
  rintro e w6 ⟨rfl, g6, hk6, _⟩
  have h6 := HB.out w6 g6 hk6
  clear cB g6 hk6 HB
  generalize X.a = xa at *
  generalize T.m = tm at *
  have H6 := Lib.hid h6
  clear h6
  gi_wp2_with fail
  gi_loopw [49] (fun v49 wr => ∃ j gone : Nat, j ≤ kq ∧ v49 = .int .i64 (j : Int) ∧ Bgn w2.heap.size xa tm sw zs.length vl (refsI obs) j gone w2 wr) (fun v49 _ => kq - (intOf v49).toNat)
  case atStart => exact ⟨0, 0, Nat.zero_le _, rfl, H6.out⟩
  case round =>
  clear H6
  obtain ⟨j, gone, hj, rfl, h1⟩ := hrel
  have hj0 : (0 : Int) ≤ (j : Int) := by omega
  by_cases hlt : j < kq
  · have hj1 : (j : Int) < (kq : Int) := by omega
    have cP := h1.page
    clear h1
    gi_wp2_with fail
    refine ⟨trivial, fun h => (by cases h), ?_⟩
    refine (callsIn_wide.2 cP).mono ?_
    rintro e w7 ⟨v7, d7, rfl, hR7, h7⟩
    have e7 : min (j + 1) 64 = j + 1 := by omega
    rw [e7] at h7
    have H7 := Lib.hid h7
    clear cP hR7 h7 e7
    gi_wp2_with fail
    go_roundw
    case rel => exact ⟨j + 1, _, hlt, by go_num, H7.out⟩
    case measure => simp [intOf]; omega
  obtain rfl : j = kq := by omega
  have hj1 : ¬ (j : Int) < (j : Int) := by omega
  obtain ⟨X1, s1, T1, hXa1, hTm1, h3, hP1, hlow1, _⟩ := h1.ex
  rw [decide_eq_true (show j < 64 by omega)] at h3
  rename World => w7
  have hlow : ∀ r, s1.S r = true → j ≤ pg r ∧ pg r < 64 := fun r hr => ⟨hlow1 r hr, (fits_lt h3.fits hP1 hr).2.2⟩
  have h3' : SwIn w2.heap.size (fun _ => False) X1 s1 T1 Col.white sw true j w2 w7 := ⟨h3.ma.less (fun k e => by
    rcases e with e | e
    · exact e.elim
    · exact .inr e), h3.blk, fun e => e.elim⟩
  have hTb7 : TabAt w7 := fun i hi => ((HW2.out.trans (h3.ma.ar.below.mono HW2.out.size)).cell (p := ⟨1, i, none⟩) HTB.out.lt).trans (HTB.out i hi)
  have hB8 := (Below.refl _ w7).alloc (Nat.le_refl _) (.map #[] 0)
  have hB9 := hB8.alloc (by simp) (.cells #[.map (some w7.heap.size)] 37)
  have hb9 := Blk.new (w7.alloc (.map #[] 0)) #[.map (some w7.heap.size)] 37
  rw [World.size_alloc] at hb9
  have hM9 := (MapIn.made w7).askS ((Below.refl _ (w7.alloc (.map #[] 0))).alloc (Nat.le_refl _) (.cells #[.map (some w7.heap.size)] 37))
  have hs9 : ((w7.alloc (.map #[] 0)).alloc (.cells #[.map (some w7.heap.size)] 37)).heap.size = w7.heap.size + 2 := by simp
  have z9 := hb9.free 0
  have y9 := hb9.cell 0
  simp only [List.getElem?_toArray, List.getElem?_cons_zero] at y9
  have hmm := @run_makeMap Tryz.prog
  have H1 := Lib.hid (And.intro h3' (And.intro hP1 (And.intro hlow (And.intro hTb7 (And.intro hB9 (And.intro hb9 (And.intro hM9 hs9)))))))
  clear h1 h3 h3' hP1 hlow hlow1 hTb7 hB8 hB9 hb9 hM9 hs9 hlt hj
  gi_wp2_with fail
  clear hmm
  refine ⟨trivial, fun h => (by cases h), ?_⟩
  obtain ⟨h3, hP1, hlow, hTb7, hB9, hb9, hM9, hs9⟩ := H1.out
  generalize (w7.alloc (.map #[] 0)).alloc (.cells #[.map (some w7.heap.size)] 37) = W9 at *
  refine (callsIn_wide.2 (allfn_any xa W9)).mono ?_
  rintro e w' ⟨rfl, rfl⟩
  have hB10 := (Below.refl W9.heap.size W9).alloc (Nat.le_refl _) (.cells #[.pointer (some ⟨xa, 0, none⟩)] 27)
  have e0 : (W9.alloc (.cells #[.pointer (some ⟨xa, 0, none⟩)] 27)).cell? ⟨W9.heap.size, 0, none⟩ = some (.pointer (some ⟨xa, 0, none⟩)) := (Blk.new W9 #[.pointer (some ⟨xa, 0, none⟩)] 27).cell 0
  have hs10 : (W9.alloc (.cells #[.pointer (some ⟨xa, 0, none⟩)] 27)).heap.size = w7.heap.size + 3 := by simp [hs9]
  have HV := Lib.hid (And.intro hB10 (And.intro e0 (And.intro hs10 hs9)))
  clear hB10 e0 hs10 hs9 z9 y9 h3 hP1 hlow hTb7 hB9 hb9 hM9
  gi_wp2_with fail
  obtain ⟨hB10, e0, hs10, hs9⟩ := HV.out
  obtain ⟨h3, hP1, hlow, hTb7, hB9, hb9, hM9, hs9x⟩ := H1.out
  clear HV H1
  generalize W9.alloc (.cells #[.pointer (some ⟨xa, 0, none⟩)] 27) = W10 at *
  have hBw : Below w7.heap.size w7 W10 := hB9.trans (hB10.mono (by omega))
  have hA10 := (h3.ask hBw).ma.ar.at_.toArMem
  have hT10 : TabAt W10 := hTb7.keep (hBw.block _ hTb7.lt)
  have hXlt := h3.ma.ar.at_.lt
  have hTlt := hTb7.lt
  have e0' : W10.cell? ⟨W9.heap.size, 0, none⟩ = some (.pointer (some ⟨X1.a, 0, none⟩)) := by rw [hXa1]; exact e0
  have hM10 := hM9.askS hB10
  have hb10 := hb9.turn (Turn.ofBelow hB10) (fun e => Nat.lt_irrefl _ (Nat.lt_of_lt_of_le hb9.lt e))
  have h0 : OldI w7 W10 (w7.heap.size + 1) w7.heap.size ([], fun _ => False) W10 := ⟨⟨0, _, _, Nat.le_refl _, hM10⟩, hb10, hBw, Nat.le_refl _⟩
  have HA7 := Lib.hid (And.intro h3 (And.intro hP1 (And.intro hlow hTb7)))
  clear hM10 hb10 hM9 hb9 hB9 hB10 e0 hP1 hlow
  refine wpIn_rangeO rfl (by omega) (gf := 36) (lb := #[.pointer (some ⟨W9.heap.size, 0, none⟩)]) rfl trivial (enters_of Tryz.func36 (by kernel_rfl) rfl)
    (allA_seq (M - 1) (by omega) W9.heap.size W10 hA10 hT10 e0') KpAll.trans
    (fun V l o hl => KpAll.putObj (n0 := W10.heap.size) (fun k hk => by have := hXlt k hk; omega) (by omega) (by omega) V l o hl) (Below.refl _ _) (fun _ => rfl)
    (OldI w7 W10 (w7.heap.size + 1) w7.heap.size)
    (fun c st V => False)
    (oldI_own (by omega) (by omega)) (fun c s V V' row hs hg hr => hs)
    h0 ?a1 ?assign ?body ?done ?stop
  case assign =>
    intro l0 x W K hK
    gi_wp2
    exact hK
  case body =>
    rintro l0 pre O x V ⟨⟨nn, K, cc, hn, hM⟩, hb, hB, hVs⟩ hpl
    have hc0 := hb.cell 0
    simp only [List.getElem?_toArray, List.getElem?_cons_zero] at hc0
    have hxl := x.2
    have hn' : nn ≤ pre.length := hn
    obtain ⟨w8, hrun, hM8, hT8⟩ := hM.store (by have : pre.length < 32 * s1.P + 1 := hpl; have := h3.fits.p64; omega) ((x.val : Nat) : Int) (by simp [Lit.wf, IntKind.min, IntKind.max, IntKind.signed, IntKind.bits]; omega) 1 (by decide)
    have hfin : Owned W10.heap.size O O V w8 ∧ KpAll X1 W9.heap.size V w8 ∧ OldI w7 W10 (w7.heap.size + 1) w7.heap.size (pre ++ [x], O) w8 := by
      refine ⟨Owned.ofTurn hT8 (fun k e => by have e2 : k = w7.heap.size := e; omega), KpAll.ofTurn hT8 (fun k hk => ⟨by have := hXlt k hk; omega, fun e => by have := hXlt k hk; have e2 : k = w7.heap.size := e; omega⟩) (by omega) (fun e => by have e2 : W9.heap.size = w7.heap.size := e; omega) (by omega) (fun e => by have e2 : 1 = w7.heap.size := e; omega), ⟨nn + 1, updI K ((x.val : Nat) : Int) true, (if K ((x.val : Nat) : Int) = true then cc else cc + 1), by simp; exact hn', ?_⟩, hb.turn hT8 (fun e => by have e2 : w7.heap.size + 1 = w7.heap.size := e; omega), hB.trans (hT8.below w7.heap.size hB.size (fun k hk e => by have e2 : k = w7.heap.size := e; omega)), Nat.le_trans hVs hT8.size⟩
      rw [oldF_snoc] at hM8
      show MapIn _ _ _ (oldF ((pre ++ [x]).map fun j => ((j.val : Nat) : Int))) _ _
      rw [List.map_append]
      exact hM8
    have HFIN := Lib.hid hfin
    clear hn' hM hb hB hVs hpl hM8 hT8 hfin hn h3 hA10 hT10
    gi_wp2_with (gi_at_mapUpdate; refine wpListIn_mapUpdate_runS rfl _ _ _ _ rfl _ _ _ rfl rfl rfl hrun ?_)
    exact ⟨O, HFIN.out.1, HFIN.out.2.1, HFIN.out.2.2⟩
  case stop =>
    rintro D c' pre O V hD _ h
    exact h.elim
  case done =>
    rintro D xs O V hD hxs ⟨⟨nn, K, cc, hn, hM⟩, hb, hB, hVs⟩ hK
    obtain ⟨h3, hP1, hlow, hTb7⟩ := HA7.out
    have hDl : D < V.heap.size := (Array.getElem?_eq_some_iff.mp hK).1
    have hxs2 : (xs.map fun j : Fin 4096 => ((j.val : Nat) : Int)) = intsN (elems s1.S 2049) := by
      have h9 : xs.map Fin.val = elems s1.S (32 * s1.P + 1) := hxs
      rw [hP1] at h9
      unfold intsN
      rw [← h9, List.map_map]; rfl
    rw [show (xs, O).1 = xs from rfl, hxs2] at hM
    have hL7 : w7.heap.size ≤ D := by omega
    have h4 : MeR w2.heap.size xa tm sw w7.heap.size (w7.heap.size + 1) D j s1 (.slice none 0 0) [] X1 s1 T1 Col.white w2 V := by
      refine ⟨h3.watch hB (fun k e => ?_), hXa1, hTm1, hP1, fun r => by simp, fun r hr => (by cases hr), List.nodup_nil, fun x => (decide_eq_false fun ⟨q, hq, _⟩ => (by cases hq)).symm, World.ownsRow_nil _ _ _ _, ⟨nn, K, cc, hM⟩, hb, hK⟩
      right
      have := hb.lt
      rcases e with (e | e | e) | e
      · subst e; exact ⟨Nat.le_refl _, by omega⟩
      · subst e; exact ⟨by omega, by omega⟩
      · subst e; exact ⟨hL7, hDl⟩
      · cases e
    have hBD : w2.heap.size ≤ D := by have := h3.size; omega
    have H4 := Lib.hid (And.intro h4 (And.intro hlow (And.intro hBD hTb7)))
    clear h3 hP1 hlow hTb7 hM hb hB hVs hn hxs hxs2 h4 hK hL7 HA7 hA10 hT10 h0 hBw e0' hXlt hTlt hBD hDl hD hs10 hs9 hs9x hXa1 hTm1
    generalize w7.heap.size = mbk at *
    gi_wp2_with fail
    gi_loopw [15, 62] (fun v15 v62 wr => ∃ (i : Nat) (fr : List Nat) (X : ArB) (s : ArS) (T : MkB) (c : Col), i ≤ us.length ∧ v62 = .int .i64 (i : Int) ∧ fr.length = i ∧ MeR w2.heap.size xa tm sw mbk (mbk + 1) D j s1 v15 fr X s T c w2 wr) (fun _ v62 _ => us.length - (intOf v62).toNat)
    case atStart => exact ⟨0, [], X1, s1, T1, _, Nat.zero_le _, rfl, rfl, H4.out.1⟩
    case round =>
    obtain ⟨hlow, hBD, hTb7⟩ := H4.out.2
    have HLW := Lib.hid (And.intro hlow hBD)
    clear H4 hlow hBD hTb7
    obtain ⟨i, fr, X2, s2, T2, c2, hi, rfl, hfl, h1⟩ := hrel
    have hi0 : (0 : Int) ≤ (i : Int) := by omega
    by_cases hlt : i < us.length
    · have hi1 : (i : Int) < (us.length : Int) := by omega
      obtain ⟨bk, off, rfl, hbk, hq0, hwf⟩ := HA.out.2.2 i hlt
      have hB09 := HW2.out.trans (h1.sw.ma.ar.below.mono HW2.out.size)
      have hd0 := (hB09.cell (p := ⟨bk, off + i, none⟩) hbk).trans hq0
      obtain ⟨z, hz, hz256⟩ := u8_natW hwf
      rw [hz] at hd0
      have hq0 : ∃ q1 : Nat, (z : Int).tmod 3 = (q1 : Int) ∧ q1 < 3 := ⟨z % 3, by rw [Int.tmod_eq_emod_of_nonneg (by omega)]; omega, Nat.mod_lt _ (by omega)⟩
      obtain ⟨cq, hcq, hcql⟩ := hq0
      have hcw1 : IntKind.u8.wrap (cq : Int) = (cq : Int) := by simp [IntKind.wrap, IntKind.bits, IntKind.signed]; omega
      have hcw3 : IntKind.i64.wrap (cq : Int) = (cq : Int) := by simp [IntKind.wrap, IntKind.bits, IntKind.signed]; omega
      have cT := h1.take (cq : Int)
      have hy := h1.box.cell 0
      simp only [List.getElem?_toArray, List.getElem?_cons_zero] at hy
      have H1 := Lib.hid (And.intro h1 hfl)
      clear h1 hfl hB09 hbk hwf hz
      by_cases h0 : seekF s2 (cq : Int) = 0
      · rw [h0] at cT
        have hdf : decide ((0 : Nat) ≠ 0) = false := rfl
        rw [hdf] at cT
        clear hy h0 hdf
        gi_wp2_with fail
        refine ⟨trivial, fun h => (by cases h), ?_⟩
        refine (callsIn_wide.2 cT).mono ?_
        rintro e w8 ⟨rfl, _, hB8, hsz8, hd8, _⟩
        have hBF := take_end hd8 (show w.heap.size ≤ D by have := HLW.out.2; have := HW2.out.size; omega) (HW2.out.trans (hB8.mono HW2.out.size))
        have HF := Lib.hid (And.intro hd8 hBF)
        clear cT hB8 hd8 hBF hd0
        gi_wp2_with fail
        exact ⟨by simp, .inl ⟨D, _, rfl, run_takeDeferred HF.out.1, _, results_tmp rfl _ _ _, rfl, HF.out.2⟩⟩
      · have hdt : decide (seekF s2 (cq : Int) ≠ 0) = true := decide_eq_true h0
        rw [hdt] at cT
        obtain ⟨r, hr⟩ : ∃ r, seekF s2 (cq : Int) = r := ⟨_, rfl⟩
        have H0 := Lib.hid h0
        rw [hr] at cT
        have HR := Lib.hid hr
        clear hr hy h0 hdt
        gi_wp2_with fail
        refine ⟨trivial, fun h => (by cases h), ?_⟩
        refine (callsIn_wide.2 cT).mono ?_
        rintro e w8 ⟨rfl, _, _, _, _, hT8⟩
        obtain ⟨⟨X8, h8⟩, hc8⟩ := hT8 (by rw [← HR.out]; exact H0.out)
        generalize s2.take (cq : Int) = s8 at *
        have hy := h8.box.cell 0
        simp only [List.getElem?_toArray, List.getElem?_cons_zero] at hy
        have hlk := h8.look
        have cA := h8.ahead
        have hpb := h8.in_
        obtain ⟨pq, hpq⟩ : ∃ pq, pg r = pq := ⟨_, rfl⟩
        rw [hpq] at cA
        have HPQ := Lib.hid hpq
        have HFL := Lib.hid H1.out.2
        have H8 := Lib.hid (And.intro h8 hc8)
        clear cT hT8 h8 hc8 hpb hpq H1 HR H0
        gi_wp2_with fail
        refine ⟨trivial, fun h => (by cases h), ?_⟩
        refine (callsIn_wide.2 cA).mono ?_
        rintro e w9 ⟨rfl, hB9⟩
        have h9 := H8.out.1.ask hB9
        have cP := h9.page
        rw [HPQ.out] at cP
        have cA9 := h9.ahead
        rw [HPQ.out] at cA9
        have hge : ∀ q : Bool, decide (j ≤ pq) = q → decide ((j : Int) ≤ (pq : Int)) = q := fun q e => by rw [← e]; exact decide_eq_decide.2 (by omega)
        have H9 := Lib.hid h9
        clear cA hB9 h9 hlk hy
        by_cases hah : j ≤ pq
        · have hahI : (j : Int) ≤ (pq : Int) := by omega
          rw [decide_eq_true hah] at cA9 ⊢
          gi_wp2_with fail
          refine ⟨trivial, fun h => (by cases h), ?_⟩
          refine (callsIn_wide.2 cP).mono ?_
          rintro e w' ⟨rfl, rfl⟩
          clear cP
          gi_wp2_with fail
          refine ⟨trivial, fun h => (by cases h), ?_⟩
          refine (callsIn_wide.2 cA9).mono ?_
          rintro e w10 ⟨rfl, hB10⟩
          have h10 := H9.out.ask hB10
          have cBl := h10.blacken
          clear cA9 hB10 h10
          gi_wp2_with fail
          refine ⟨trivial, fun h => (by cases h), ?_⟩
          refine (callsIn_wide.2 cBl).mono ?_
          rintro e W9x ⟨rfl, T9, h9⟩
          have hc9 : ∀ x, (c2.black (r : Int)).ma x = decide (∃ q ∈ fr ++ [r], (q : Int) = x ∧ j ≤ pg q) := fun x => by
            show updI c2.ma (r : Int) true x = _
            by_cases e9 : x = (r : Int)
            · rw [e9, updI_at]
              exact (decide_eq_true ⟨r, by simp, rfl, by rw [HPQ.out]; exact hah⟩).symm
            · rw [updI_ne e9, H8.out.2]
              refine decide_eq_decide.2 ⟨fun ⟨q, a1, a2, a3⟩ => ⟨q, List.mem_append_left _ a1, a2, a3⟩, fun ⟨q, a1, a2, a3⟩ => ⟨q, ?_, a2, a3⟩⟩
              rcases List.mem_append.1 a1 with a4 | a4
              · exact a4
              · rw [List.mem_singleton.1 a4] at a2; exact absurd a2.symm e9
          have hy := trivial
          clear cBl
          have hlr := h9.row
          have h9a := h9.ask ((Below.refl _ W9x).alloc (Nat.le_refl _) (.cells #[.int .i64 (r : Int)] 41))
          have hRa := h9a.row
          have hls : (intsN fr).length ≤ 100000 := by rw [intsN_length]; have := HFL.out; have := H40.out.2; omega
          have HC9 := Lib.hid (And.intro h9a hc9)
          clear h9 hlr h9a hc9 hy hd0
          gi_wp2_with (gi_at_builtin; refine wpListIn_pushT rfl _ _ rfl hRa hls W9x.heap.size 1 (r : Int) ((Blk.new W9x _ _).cell 0) rfl rfl ?_; intro g8 n8 c8 w8 hR8 hT8 hN8; have h10 := HC9.out.1.push HC9.out.2 hR8 hT8 hN8; have H10 := Lib.hid h10; clear hR8 hT8 hN8 hRa hls h10)
          go_roundw
          case rel =>
            exact ⟨i + 1, fr ++ [r], _, _, _, _, hlt, by go_num, by rw [List.length_append, HFL.out]; rfl, H10.out⟩
          case measure => simp [intOf]; omega
        · have hahI : ¬ (j : Int) ≤ (pq : Int) := by omega
          rw [decide_eq_false hah] at cA9 ⊢
          gi_wp2_with fail
          refine ⟨trivial, fun h => (by cases h), ?_⟩
          refine (callsIn_wide.2 cP).mono ?_
          rintro e w' ⟨rfl, rfl⟩
          clear cP
          gi_wp2_with fail
          refine ⟨trivial, fun h => (by cases h), ?_⟩
          refine (callsIn_wide.2 cA9).mono ?_
          rintro e W9x ⟨rfl, hB10⟩
          have h9 := H9.out.ask hB10
          have hc9 : ∀ x, c2.ma x = decide (∃ q ∈ fr ++ [r], (q : Int) = x ∧ j ≤ pg q) := fun x => by
            rw [H8.out.2]
            refine decide_eq_decide.2 ⟨fun ⟨q, a1, a2, a3⟩ => ⟨q, List.mem_append_left _ a1, a2, a3⟩, fun ⟨q, a1, a2, a3⟩ => ⟨q, ?_, a2, a3⟩⟩
            rcases List.mem_append.1 a1 with a4 | a4
            · exact a4
            · rw [List.mem_singleton.1 a4, HPQ.out] at a3; exact absurd a3 hah
          have hy := trivial
          clear cA9 hB10
          have hlr := h9.row
          have h9a := h9.ask ((Below.refl _ W9x).alloc (Nat.le_refl _) (.cells #[.int .i64 (r : Int)] 41))
          have hRa := h9a.row
          have hls : (intsN fr).length ≤ 100000 := by rw [intsN_length]; have := HFL.out; have := H40.out.2; omega
          have HC9 := Lib.hid (And.intro h9a hc9)
          clear h9 hlr h9a hc9 hy hd0
          gi_wp2_with (gi_at_builtin; refine wpListIn_pushT rfl _ _ rfl hRa hls W9x.heap.size 1 (r : Int) ((Blk.new W9x _ _).cell 0) rfl rfl ?_; intro g8 n8 c8 w8 hR8 hT8 hN8; have h10 := HC9.out.1.push HC9.out.2 hR8 hT8 hN8; have H10 := Lib.hid h10; clear hR8 hT8 hN8 hRa hls h10)
          go_roundw
          case rel =>
            exact ⟨i + 1, fr ++ [r], _, _, _, _, hlt, by go_num, by rw [List.length_append, HFL.out]; rfl, H10.out⟩
          case measure => simp [intOf]; omega
    · obtain rfl : i = us.length := by omega
      have hi1 : ¬ ((us.length : Nat) : Int) < ((us.length : Nat) : Int) := by omega
      have h2 := h1.rest hq1l
      have H2 := Lib.hid (And.intro h2 (And.intro h1.nd hfl))
      clear h1 h2 hlt hi hfl
      gi_wp2_with fail
      gi_loopw [] (fun wr => ∃ nx : Nat, MeS w2.heap.size xa tm sw D j s1 u15 fr nx w2 wr) (fun wr => 64 - (intOf ((wr.cell? ⟨sw, 2, none⟩).getD undef)).toNat)
      case atStart => exact ⟨_, H2.out.1⟩
      case round =>
      obtain ⟨hnd, hfl⟩ := H2.out.2
      have HND := Lib.hid (And.intro hnd hfl)
      clear H2 hnd hfl
      obtain ⟨nx, h1⟩ := hrel
      have cO := h1.on_
      have hx := h1.next
      by_cases hlt : nx < 64
      · rw [decide_eq_true hlt] at cO
        have cP := h1.page hlt
        have HX := Lib.hid hx
        clear h1 hx
        gi_wp2_with fail
        refine ⟨trivial, fun h => (by cases h), ?_⟩
        refine (callsIn_wide.2 cO).mono ?_
        rintro e w' ⟨rfl, rfl⟩
        clear cO
        gi_wp2_with fail
        refine ⟨trivial, fun h => (by cases h), ?_⟩
        refine (callsIn_wide.2 cP).mono ?_
        rintro e w9 ⟨v9, rfl, h9⟩
        have H9 := Lib.hid h9
        clear cP h9
        gi_wp2_with fail
        go_roundw
        case rel => exact ⟨_, H9.out⟩
        case measure =>
          rw [HX.out, H9.out.next]
          simp [intOf]
          omega
      rw [decide_eq_false hlt] at cO
      have e64 : nx = 64 := by have := h1.le; omega
      subst e64
      have hlr := h1.row.lenRun 3
      rw [intsN_length, HND.out.2] at hlr
      have H1 := Lib.hid h1
      clear h1 hx hlt
      gi_wp2_with fail
      refine ⟨trivial, fun h => (by cases h), ?_⟩
      refine (callsIn_wide.2 cO).mono ?_
      rintro e w' ⟨rfl, rfl⟩
      clear cO
      gi_wp2_with fail
      gi_loopw [110] (fun v110 wr => ∃ i : Nat, i ≤ us.length ∧ v110 = .int .i64 (i : Int) ∧ MeS w2.heap.size xa tm sw D j s1 u15 fr 64 w2 wr) (fun v110 _ => us.length - (intOf v110).toNat)
      case atStart => exact ⟨0, Nat.zero_le _, rfl, H1.out⟩
      case round =>
      clear H1
      obtain ⟨i, hi, rfl, h1⟩ := hrel
      have hi0 : (0 : Int) ≤ (i : Int) := by omega
      by_cases hlt : i < us.length
      · have hi2 : (i : Int) < (us.length : Int) := by omega
        obtain ⟨r, hr⟩ : ∃ r, fr[i]? = some r := ⟨_, List.getElem?_eq_getElem (by rw [HND.out.2]; exact hlt)⟩
        rcases h1.row.is with ⟨_, e⟩ | ⟨g, cap, cur, hv, _⟩
        · have e2 := congrArg List.length e
          rw [intsN_length, HND.out.2] at e2
          have e3 : us.length = 0 := e2
          omega
        rw [intsN_length, HND.out.2] at hv
        subst hv
        have hca := row_cellSw h1.row (intsN_at hr)
        have cH := h1.has r (List.mem_of_getElem? hr)
        have H1 := Lib.hid h1
        clear h1 hr hlr
        gi_wp2_with fail
        refine ⟨trivial, fun h => (by cases h), ?_⟩
        refine (callsIn_wide.2 cH).mono ?_
        rintro e w9 ⟨rfl, hB9⟩
        have h9 := H1.out.ask hB9
        have cM := h9.marked r
        have H9 := Lib.hid h9
        clear cH hB9 h9 hca
        gi_wp2_with fail
        refine ⟨trivial, fun h => (by cases h), ?_⟩
        refine (callsIn_wide.2 cM).mono ?_
        rintro e w10 ⟨rfl, hB10⟩
        have h10 := H9.out.ask hB10
        have H10 := Lib.hid h10
        clear cM hB10 h10
        gi_wp2_with fail
        go_roundw
        case rel => exact ⟨i + 1, hlt, by go_num, H10.out⟩
        case measure => simp [intOf]; omega
      obtain rfl : i = us.length := by omega
      have hi2 : ¬ ((us.length : Nat) : Int) < ((us.length : Nat) : Int) := by omega
      obtain ⟨X9, s9, hXa9, hA9, hP9, hcnt⟩ := h1.count HLW.out.1 HND.out.1
      rename World => w9
      have hTb9 : TabAt w9 := fun i hi => ((HW2.out.trans (hA9.below.mono HW2.out.size)).cell (p := ⟨1, i, none⟩) HTB.out.lt).trans (HTB.out i hi)
      have hB10 := (Below.refl _ w9).alloc (Nat.le_refl _) (.cells #[.int .i64 0] 3)
      have hB11 := hB10.alloc (by simp) (.cells #[.pointer (some ⟨xa, 0, none⟩)] 27)
      have hbn := (Blk.new w9 #[.int .i64 0] 3).alloc (.cells #[.pointer (some ⟨xa, 0, none⟩)] 27)
      have hba := Blk.new (w9.alloc (.cells #[.int .i64 0] 3)) #[.pointer (some ⟨xa, 0, none⟩)] 27
      rw [World.size_alloc] at hba
      have hs11 : ((w9.alloc (.cells #[.int .i64 0] 3)).alloc (.cells #[.pointer (some ⟨xa, 0, none⟩)] 27)).heap.size = w9.heap.size + 2 := by simp
      have cAl := allfn_any xa (w9.alloc (.cells #[.int .i64 0] 3))
      have HK := Lib.hid (And.intro h1 (And.intro hXa9 (And.intro hA9 (And.intro hP9 (And.intro hcnt (And.intro hTb9 (And.intro hB11 (And.intro hbn (And.intro hba hs11)))))))))
      clear h1 hXa9 hA9 hP9 hcnt hTb9 hB10 hB11 hbn hba hs11 hlt hi
      gi_wp2_with fail
      refine ⟨trivial, fun h => (by cases h), ?_⟩
      refine (callsIn_wide.2 cAl).mono ?_
      rintro e w' ⟨rfl, rfl⟩
      clear cAl
      gi_wp2_with fail
      obtain ⟨h1, hXa9, hA9, hP9, hcnt, hTb9, hB11, hbn, hba, hs11⟩ := HK.out
      clear HK
      generalize (w9.alloc (.cells #[.int .i64 0] 3)).alloc (.cells #[.pointer (some ⟨xa, 0, none⟩)] 27) = W11 at *
      have hA11 := (hA9.ask hB11).at_.toArMem
      have hT11 : TabAt W11 := hTb9.keep (hB11.block _ hTb9.lt)
      have hXlt := hA9.at_.lt
      have hTlt := hTb9.lt
      have e0 : W11.cell? ⟨w9.heap.size + 1, 0, none⟩ = some (.pointer (some ⟨X9.a, 0, none⟩)) := by rw [hXa9]; exact hba.cell 0
      refine wpIn_rangeO rfl (by omega) (gf := 36) (lb := #[.pointer (some ⟨w9.heap.size + 1, 0, none⟩)]) rfl trivial (enters_of Tryz.func36 (by kernel_rfl) rfl)
        (allA_seq (M - 1) (by omega) (w9.heap.size + 1) W11 hA11 hT11 e0) KpAll.trans
        (fun V l o hl => KpAll.putObj (n0 := W11.heap.size) (fun k hk => by have := hXlt k hk; omega) (by omega) (by omega) V l o hl) (Below.refl _ _) (fun _ => rfl)
        (fun st V => Blk V w9.heap.size #[.int .i64 (st.1.length : Int)] 3 ∧ Below w9.heap.size w9 V ∧ W11.heap.size ≤ V.heap.size)
        (fun c st V => False)
        (fun s V V' row hs hg hr => ⟨hs.1.kept hg (fun r e => (hr r e).2), (ownFrom_below (β := Unit) (Nat.le_refl _) (by omega)) () V V' row hs.2.1 hg hr, Nat.le_trans hs.2.2 hg.size⟩)
        (fun c s V V' row hs hg hr => hs)
        ⟨hbn, hB11, Nat.le_refl _⟩ ?b1 ?assignb ?bodyb ?doneb ?stopb
      case assignb =>
        intro l0 x W K hK
        gi_wp2
        exact hK
      case stopb =>
        rintro D2 c' pre O V hD _ h
        exact h.elim
      case bodyb =>
        rintro l0 pre O x V ⟨hk, hbl, hVs⟩ hpl
        have ck := hk.cell 0
        have zk := hk.free 0
        simp only [List.getElem?_toArray, List.getElem?_cons_zero] at ck
        have hTn : Turn (fun k => k = w9.heap.size) V (V.setCell ⟨w9.heap.size, 0, none⟩ (.int .i64 ((pre.length : Int) + 1))) := (Turn.refl _ V).set _ _ (.inr rfl)
        have hkp : KpAll X9 (w9.heap.size + 1) V (V.setCell ⟨w9.heap.size, 0, none⟩ (.int .i64 ((pre.length : Int) + 1))) :=
          KpAll.ofTurn hTn (fun k hk => ⟨by have := hXlt k hk; omega, fun e => by have := hXlt k hk; have e2 : k = w9.heap.size := e; omega⟩) (by omega) (fun e => by have e2 : w9.heap.size + 1 = w9.heap.size := e; omega) (by omega) (fun e => by have e2 : 1 = w9.heap.size := e; omega)
        have hbl2 := hbl.setCell (p := ⟨w9.heap.size, 0, none⟩) (Nat.le_refl _) (.int .i64 ((pre.length : Int) + 1))
        have hk2 : Blk (V.setCell ⟨w9.heap.size, 0, none⟩ (.int .i64 ((pre.length : Int) + 1))) w9.heap.size #[.int .i64 ((pre ++ [x]).length : Int)] 3 := by
          refine (hk.setAt 0 _).is ?_
          have e : (((pre ++ [x]).length : Nat) : Int) = (pre.length : Int) + 1 := by simp
          rw [e]; simp
        have hO : Owned W11.heap.size O O V (V.setCell ⟨w9.heap.size, 0, none⟩ (.int .i64 ((pre.length : Int) + 1))) := Owned.ofTurn hTn (fun k e => by have e2 : k = w9.heap.size := e; omega)
        have HG := Lib.hid (And.intro hk2 (And.intro hbl2 (show W11.heap.size ≤ (V.setCell ⟨w9.heap.size, 0, none⟩ (.int .i64 ((pre.length : Int) + 1))).heap.size by simpa using hVs)))
        have HKP := Lib.hid (And.intro hkp hO)
        have hpl2 : (pre.length : Int) ≤ 4096 := by rw [hP9] at hpl; omega
        clear hTn hkp hbl2 hk2 hk hO h1 hA11 hT11 e0 hbn hba
        gi_wp2_with fail
        exact ⟨O, HKP.out.2, HKP.out.1, HG.out⟩
      case doneb =>
        rintro D2 xs O V hD hxs ⟨hk, hbl, hVs⟩ hK
        have ck := hk.cell 0
        simp only [List.getElem?_toArray, List.getElem?_cons_zero] at ck
        have hlen9 : xs.length = us.length := by
          have h9 := congrArg List.length (show xs.map Fin.val = elems s9.S (32 * s9.P + 1) from hxs)
          rw [List.length_map, hP9] at h9
          rw [h9, ← HND.out.2, ← hcnt]
        rw [hlen9] at ck
        have hDl2 : D2 < V.heap.size := (Array.getElem?_eq_some_iff.mp hK).1
        have hdV : V.heap[D]? = some (.deferred (some [])) := (hbl.block D (Array.getElem?_eq_some_iff.1 h1.df).1).trans h1.df
        have hDl := (Array.getElem?_eq_some_iff.1 h1.df).1
        have hmk : Marks w2.heap.size (D2 + 1) [{ target := .collected D2, args := #[] }, { target := .collected D, args := #[] }] V :=
          Marks.push (Marks.push (ds := []) trivial HLW.out.2 (by omega) hdV) (by have := HLW.out.2; omega) (by omega) hK
        have hB9 := (HW2.out.trans (hA9.below.mono HW2.out.size)).trans (hbl.mono (by have := hA9.size; have := HW2.out.size; omega))
        have HF := Lib.hid (And.intro hmk hB9)
        clear hk hbl hVs hxs hlen9 hdV hmk hB9 h1 hA11 hT11 e0 hbn hba hA9 hcnt hTb9
        gi_wp2_with fail
        refine leavesP_marks HF.out.1 (by omega) fun w' hb' _ _ => ?_
        refine ⟨.bool true, ?_, rfl, HF.out.2.trans (hb'.mono HW2.out.size)⟩
        simp [results, Tryz.f3, go_sem]
theorem swmeets_frame (a0 : Option Addr) (zs : List Int) (cf : Nat) (e0 : Option Addr) (ne ce : Nat) (Q : Nat → Nat → Int) (a : Int) (ha : (Lit.int .u8 a).wf = true) (a1 : Option Addr) (us : List Int) (cu : Nat) (w : World) (hul : us.length ≤ 9223372036854775807)
    (hF : BytesW w a0 zs) (hE : EdgesW w e0 ne Q) (hU : BytesW w a1 us) (hTb : TabAt w) (hT : TableAt w) :
    Calls Tryz.prog 3 #[.agg #[.slice a0 zs.length cf, .slice e0 ne ce], .int .u8 a, .slice a1 us.length cu] w fun e w' => e = .returned (.bool true) ∧ Below w.heap.size w w' := by
  obtain ⟨m, rfl, hm⟩ := u8_natW ha
  exact swmeets_true a0 zs cf e0 ne ce Q m hm a1 us cu w hul hF hE hU hTb hT
end Go.Proofs.YtidpmplkbgllfaaGreatDoor
