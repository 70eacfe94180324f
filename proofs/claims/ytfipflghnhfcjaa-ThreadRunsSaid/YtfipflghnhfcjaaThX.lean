/- ThreadRuns, behind its first loop: the row of all references, and the box of those that aren't 0; at this seat's numbers. -/
import Derived.Test.YtfipflghnhfcjaaThV
import Derived.Deep.Upon
namespace Go.Proofs.Ytfipflghnhfcjaa
open Go Go.RowKit Go.Shelf
set_option linter.unusedSimpArgs false
set_option linter.unusedVariables false

/-- append(own, pile...). -/
theorem append_all {w : World} {vo vp : Value} {l p : List Int} (ho : RefRow w vo l) (hp : RefRow w vp p) (hl : l.length + p.length ≤ 100000) (ty : TypeId) :
    ∃ v' w', (Builtin.append_ #[40, 40] ty #[vo, vp]).run Try.prog w = .ok v' w' ∧ RefRow w' v' (l ++ p) ∧ Turn (fun k => vo.ownBlock = some k) w w' ∧ ∀ k, v'.ownBlock = some k → vo.ownBlock = some k ∨ w.heap.size ≤ k := by
  obtain ⟨i0, hi, hz0, hz1, hz2⟩ := info_parts infoRefT
  rcases Nat.eq_zero_or_pos p.length with h0 | h0
  · obtain rfl := List.length_eq_zero_iff.1 h0
    have hs : Src Try.prog i0.size 40 vp 0 [] w := by
      rcases hp.is with ⟨rfl, _⟩ | ⟨g, cap, cur, rfl, _⟩
      · exact ⟨.inl ⟨_, Try.underlying40⟩, fun _ => rfl, by simp [Builtin.firstCells], by simp [Builtin.firstCells], by simp, by simp⟩
      · exact Src.ofSlice w Try.underlying40 _ _ _ _ (by simp) (fun j u hj => by simp at hj) (fun u hu => by simp at hu)
    have hr : ∃ base n c, vo = .slice base n c ∧ n ≤ c := by
      rcases ho.is with ⟨rfl, _⟩ | ⟨g, cap, cur, rfl, _, hc, _⟩
      · exact ⟨_, _, _, rfl, Nat.le_refl _⟩
      · exact ⟨_, _, _, rfl, hc⟩
    obtain ⟨base, n, c, rfl, hc⟩ := hr
    exact ⟨_, w, run_append_nothing w _ _ ty _ i0 Try.underlying40 hi base n c hc vp hs, by rw [List.append_nil]; exact ho, Turn.refl _ w, fun k hk => .inl hk⟩
  · rcases hp.is with ⟨_, e⟩ | ⟨g, cap, cur, rfl, hg, hc, hm, hs, hcell⟩
    · rw [e] at h0; simp at h0
    · obtain ⟨v', w', hr, h2, h3, h4⟩ := run_append_at (P := Try.prog) w 40 ty 30 i0 (.int .i64 0) 1 8 Try.underlying40 hi hz0 hz1 hz2 rfl vo l.length _ ho ⟨g, 0, none⟩ p.length cap (p.map fun r => Value.int .i64 r) (by simp) (fun j u hj => by
        rw [List.getElem?_map] at hj
        obtain ⟨x, hx, rfl⟩ := Option.map_eq_some_iff.1 hj
        obtain ⟨hj2, rfl⟩ := List.getElem?_eq_some_iff.1 hx
        rw [Addr.add_lit, Nat.zero_add]
        exact hcell j hj2) (fun u hu => by
        obtain ⟨x, _, rfl⟩ := List.mem_map.1 hu
        rfl) h0 (by unfold maxLen; omega) (by omega)
      refine ⟨v', w', hr, ?_, Turn.ofGrown h3, h4⟩
      unfold RefRow
      rw [List.length_append, List.map_append]
      exact h2

structure Wn (B t : Nat) (R K : Int) (f : Nat → Int) (st : List Int) (va : Value) (l : List Int) (wx : Nat) (vw : Value) (p : List Int) (wb wr : World) : Prop where
  th : ThIn B (fun k => (va.ownBlock = some k ∨ vw.ownBlock = some k) ∨ k = wx) t R K f st wb wr
  all : RefRow wr va l
  box : Blk wr wx #[vw] 40
  want : RefRow wr vw p
  apart : ∀ k, va.ownBlock = some k → vw.ownBlock ≠ some k
  low : B ≤ wx ∧ ∀ k, (va.ownBlock = some k ∨ vw.ownBlock = some k) → B ≤ k
section
variable {B t go wx : Nat} {R K : Int} {f : Nat → Int} {st l p p' : List Int} {va vp vw : Value} {wb wr w' : World}
theorem Wn.ask (h : Wn B t R K f st va l wx vw p wb wr) (hB : Below wr.heap.size wr w') : Wn B t R K f st va l wx vw p wb w' :=
  ⟨h.th.ask hB, h.all.turn (Turn.ofBelow hB) (fun k e e2 => by have := h.all.lt e; omega), h.box.turn (Turn.ofBelow hB) (by have := h.box.lt; omega), h.want.turn (Turn.ofBelow hB) (fun k e e2 => by have := h.want.lt e; omega), h.apart, h.low⟩
/-- The loop's start. -/
theorem Rn.finish (h : Rn B (fun _ => False) t R K f st go l vp p wb wr) (hl : l.length + p.length ≤ 100000) (ty : TypeId) :
    ∃ va w', (Builtin.append_ #[40, 40] ty #[.slice (some ⟨go, 0, none⟩) l.length l.length, vp]).run Try.prog (wr.alloc (.cells #[.slice none 0 0] 40)) = .ok va w' ∧ Wn B t R K f st va (l ++ p) wr.heap.size (.slice none 0 0) [] wb w' := by
  have h1 := h.alloc (.cells #[.slice none 0 0] 40)
  have hb1 := Blk.new wr #[.slice none 0 0] 40
  have hs1 : (wr.alloc (.cells #[.slice none 0 0] 40)).heap.size = wr.heap.size + 1 := by simp
  obtain ⟨va, w', hr, hR, hT, hown⟩ := append_all (RefRow.ofBlk h1.own (by omega)) h1.pile hl ty
  refine ⟨va, w', hr, ?_⟩
  have hT2 : Turn (fun k => k = go) (wr.alloc (.cells #[.slice none 0 0] 40)) w' := hT.mono fun k _ e => (own_slice e).symm
  have ht := h1.th.turned hT2 (fun k e => ⟨.inl (.inl e), (show k = go from e) ▸ h.low.1⟩)
  have hgl := h.own.lt
  have hBs := h.th.size
  obtain ⟨T, e, hA, hF⟩ := h.th.ex
  have hAlt := hA.lt
  have hbW : Blk w' wr.heap.size #[.slice none 0 0] 40 := hb1.turn hT2 (fun e2 => by have e3 : wr.heap.size = go := e2; omega)
  have hvl : ∀ k, va.ownBlock = some k → k = go ∨ wr.heap.size + 1 ≤ k := fun k hk => by
    rcases hown k hk with e2 | e2
    · exact .inl (own_slice e2).symm
    · exact .inr (by omega)
  refine ⟨⟨⟨T, e, (hA.below ((Below.refl _ wr).alloc (Nat.le_refl _) _)).turn hT2 (fun k hk e2 => (hF k hk).2 (.inl (.inl e2))), fun k hk => ⟨(hF k hk).1, fun hx => ?_⟩⟩, fun k hk => ?_, ht.below, ht.base⟩, hR, hbW, ⟨rfl, .inl ⟨rfl, rfl⟩⟩, (fun k _ e2 => by cases e2), ⟨hBs, fun k hk => ?_⟩⟩
  · have := hAlt k hk
    rcases hx with (hx | hx) | hx
    · rcases hvl k hx with e2 | e2
      · exact (hF k hk).2 (.inl (.inl e2))
      · omega
    · cases hx
    · omega
  · rcases hk with (hk | hk) | hk
    · exact hR.lt hk
    · cases hk
    · rw [hk]; exact hbW.lt
  · rcases hk with hk | hk
    · rcases hvl k hk with e2 | e2
      · rw [e2]; exact h.low.1
      · omega
    · cases hk
/-- One more in the box's row. -/
theorem Wn.push {g n cap : Nat} (h : Wn B t R K f st va l wx vw p wb wr) (hR : RefRow w' (.slice (some ⟨g, 0, none⟩) n cap) p') (hT : Turn (fun k => vw.ownBlock = some k) wr w') (hg : vw.ownBlock = some g ∨ wr.heap.size ≤ g) :
    Blk w' wx #[vw] 40 ∧ Wn B t R K f st va l wx (.slice (some ⟨g, 0, none⟩) n cap) p' wb (w'.setCell ⟨wx, 0, none⟩ (.slice (some ⟨g, 0, none⟩) n cap)) := by
  have hwx : vw.ownBlock ≠ some wx := fun e => by
    obtain ⟨_, hb⟩ := h.want.own e
    exact blkT hb h.box (by decide)
  have hax : va.ownBlock ≠ some wx := fun e => by
    obtain ⟨_, hb⟩ := h.all.own e
    exact blkT hb h.box (by decide)
  have hb' : Blk w' wx #[vw] 40 := h.box.turn hT hwx
  refine ⟨hb', ?_⟩
  have hS : Turn (fun k => k = wx) w' (w'.setCell ⟨wx, 0, none⟩ (.slice (some ⟨g, 0, none⟩) n cap)) := (Turn.refl _ w').set _ _ (.inr rfl)
  have ht := (h.th.turned hT (fun k e => ⟨.inl (.inr e), h.low.2 k (.inr e)⟩)).turned hS (fun k e => ⟨.inr e, (show k = wx from e) ▸ h.low.1⟩)
  have hgx : g ≠ wx := fun e => by
    obtain ⟨_, hb⟩ := hR.own (k := g) rfl
    rw [e] at hb
    exact blkT hb hb' (by decide)
  have hBs := h.th.size
  have hgs := hR.lt (k := g) rfl
  have hgB : B ≤ g := by
    rcases hg with e | e
    · exact h.low.2 g (.inr e)
    · omega
  obtain ⟨T, e, hA, hF⟩ := h.th.ex
  have hAlt := hA.lt
  have hs := hT.size
  have hs2 := hS.size
  refine ⟨⟨⟨T, e, (hA.turn hT (fun k hk e2 => (hF k hk).2 (.inl (.inr e2)))).turn hS (fun k hk e2 => (hF k hk).2 (.inr e2)), fun k hk => ⟨(hF k hk).1, fun hx => ?_⟩⟩, fun k hk => ?_, ht.below, ht.base⟩, (h.all.turn hT h.apart).turn hS (fun k e2 e3 => hax ((show k = wx from e3) ▸ e2)), (hb'.setAt 0 _).is (by simp), hR.turn hS (fun k e2 e3 => hgx ((own_slice e2).trans e3)), fun k hk e2 => ?_, ⟨h.low.1, fun k hk => ?_⟩⟩
  · rcases hx with (hx | hx) | hx
    · exact (hF k hk).2 (.inl (.inl hx))
    · have e3 := own_slice hx
      subst e3
      rcases hg with e4 | e4
      · exact (hF _ hk).2 (.inl (.inr e4))
      · have := hAlt _ hk; omega
    · exact (hF k hk).2 (.inr hx)
  · rcases hk with (hk | hk) | hk
    · have := h.all.lt hk; omega
    · have := own_slice hk; omega
    · have := h.box.lt; omega
  · have e3 := own_slice e2
    subst e3
    rcases hg with e4 | e4
    · exact h.apart _ hk e4
    · have := h.all.lt hk; omega
  · rcases hk with hk | hk
    · exact h.low.2 k (.inl hk)
    · have := own_slice hk; omega
end
end Go.Proofs.Ytfipflghnhfcjaa
