/- New, at this seat's numbers. -/
import Derived.Test.YtoemfehlnnbjdaaDoorArG
import Derived.Test.YtoemfehlnnbjdaaDoorArH
namespace Go.Proofs.YtoemfehlnnbjdaaDoor
open Go Go.RowKit Go.Shelf Go.MuLone Go.RwLone
set_option linter.unusedSimpArgs false
set_option linter.unusedVariables false

theorem blk_types {w : World} {b : Nat} {cs cs' : Array Value} {T T' : TypeId} (h : Blk w b cs T) (h' : Blk w b cs' T') (hne : T ≠ T') : False := by
  unfold Blk at h h'
  have := congrArg (fun o => match o with | some (Obj.cells _ t _) => t | _ => T) (h.symm.trans h')
  exact hne (by simpa using this)
theorem Blk.below {w w' : World} {b : Nat} {cs : Array Value} {T : TypeId} (h : Blk w b cs T) (hB : Below w.heap.size w w') : Blk w' b cs T := h.turn (Turn.ofBelow hB) (fun e => by have := h.lt; omega)
theorem new_fin {w V : World} {c g b m : Nat} (hc : c ≤ 64) (hg : Blk V g (row c fun _ => -1) 3) (hb : SetAt V b none (32 * c + 1) (fun _ => false)) (hm : Blk V m (row (32 * c + 1) fun _ => 0) 3) (h1 : w.heap.size ≤ g) (h2 : w.heap.size ≤ b) (h3 : w.heap.size ≤ m)
    (hgm : g ≠ m) (hB : Below w.heap.size w V) (a : Nat) (W : World) (ha : a = V.heap.size) (hW : W = V.alloc (.cells #[.slice (some ⟨g, 0, none⟩) c c, .pointer (some ⟨b, 0, none⟩), .slice (some ⟨m, 0, none⟩) (c * 32 + 1) (c * 32 + 1)] 79)) :
    ∃ X : ArB, Ending.returned (.pointer (some ⟨a, 0, none⟩)) = .returned (.pointer (some ⟨X.a, 0, none⟩)) ∧ ArAt W X (.new c) ∧ (∀ k, X.has k → w.heap.size ≤ k) ∧ Below w.heap.size w W := by
  rw [Nat.mul_comm c 32] at hW
  subst ha hW
  have g1 := hg.lt
  have g2 := hb.lt.1
  have g3 := hm.lt
  have hs := hB.size
  obtain ⟨d, l, hB2⟩ := hb.2.2.blk
  have e1 : g ≠ b := fun e => by rw [e] at hg; exact blk_types hg hB2 (by decide)
  have e2 : m ≠ b := fun e => by rw [e] at hm; exact blk_types hm hB2 (by decide)
  have hT := (Turn.refl (fun _ => False) V).alloc (.cells #[.slice (some ⟨g, 0, none⟩) c c, .pointer (some ⟨b, 0, none⟩), .slice (some ⟨m, 0, none⟩) (32 * c + 1) (32 * c + 1)] 79)
  refine ⟨⟨V.heap.size, g, m, b, none⟩, rfl, ⟨⟨Blk.new V _ _, hg.turn hT (fun h => h), hm.turn hT (fun h => h), hb.turn hT (fun h => h) (fun _ _ h => h), ⟨?_, ?_, ?_, hgm, e1, e2, fun h => (by cases h), fun h => (by cases h), fun h => (by cases h)⟩, hc⟩, fits_new hc⟩, ?_, hB.alloc hs _⟩
  · show V.heap.size ≠ g; omega
  · show V.heap.size ≠ m; omega
  · show V.heap.size ≠ b; omega
  · rintro k (rfl | rfl | rfl | rfl | h)
    · exact hs
    · exact h1
    · exact h3
    · exact h2
    · cases h

set_option maxRecDepth 100000 in
set_option maxHeartbeats 4000000 in
theorem new_arena (n : Int) (c : Nat) (hn : (c : Int) = min (max n 0) 64) (w : World) :
    Calls Tryd.prog 8 #[.int .i64 n] w fun e w' => ∃ X, e = .returned (.pointer (some ⟨X.a, 0, none⟩)) ∧ ArAt w' X (.new c) ∧ (∀ k, X.has k → w.heap.size ≤ k) ∧ Below w.heap.size w w' := by
  have hc : c ≤ 64 := by omega
  obtain ⟨m0, hm0⟩ : ∃ m0 : Int, (if n < 0 then 0 else n) = m0 := ⟨_, rfl⟩
  have hq : (if 64 < m0 then 64 else m0) = (c : Int) := by rw [← hm0]; split <;> split <;> omega
  have hc0 : (0 : Int) ≤ c := by omega
  have hc1 : (c : Int) ≤ 64 := by omega
  clear hn
  have hmk := make_ints (c * 32 + 1) (by omega)
  rw [show (((c * 32 + 1 : Nat)) : Int) = (c : Int) * 32 + 1 by omega] at hmk
  go_enter Tryd.func8, Tryd.ntmps8
  go_wp2_with fail
  clear hm0 hq
  go_region_held3 (fun w' => True) (first | trivial)
    (first
      | (go_at_call 37; refine (repeat_any _ (-1) c hc _ ?_).mono ?_; (first | exact Blk.new w #[.int .i64 (-1)] 3 | exact (Blk.new w #[.int .i64 (-1)] 3).alloc _ | exact Blk.new (w.alloc (.cells (row (c * 32 + 1) fun _ => 0) 3)) #[.int .i64 (-1)] 3 | (have h1 := Blk.new (w.alloc (.cells (row (c * 32 + 1) fun _ => 0) 3)) #[.int .i64 (-1)] 3; simp only [World.size_alloc] at h1; exact h1)); rintro e w2 ⟨g, rfl, hg1, hg2, hg3⟩)
      | (go_at_call 38; refine (new_at _ (by omega) _ (c * 32 + 1) (by omega)).mono ?_; rintro e w3 ⟨b, hb1, rfl, hb2, hb3⟩))
  all_goals (rw [Nat.mul_comm c 32] at hb2)
  all_goals (have hbl := Turn.below hb3 _ (Nat.le_refl _) (fun _ _ h => h))
  all_goals (have hgV := hg2)
  · have s1 := hg3.size
    have s2 := hbl.size
    simp only [World.size_drew, World.size_alloc] at hg1 s1
    have hT := (Turn.refl (fun _ => False) w3).alloc (.cells (row (32 * c + 1) fun _ => 0) 3)
    have hlt := hg2.lt
    have hfin := new_fin (w := w) (V := w3.alloc (.cells (row (32 * c + 1) fun _ => 0) 3)) hc ((hg2.below hbl).turn hT (fun h => h)) (hb2.turn hT (fun h => h) (fun _ _ h => h)) (Blk.new w3 _ _) (by omega) (by omega) (by omega) (by omega)
      ((((((Below.refl w.heap.size w).alloc (Nat.le_refl _) (.cells #[.int .i64 (-1)] 3)).drew.trans (hg3.mono (by simp))).trans (hbl.mono (by omega)))).alloc (by omega) _) _ _ rfl rfl
    rw [Nat.mul_comm 32 c] at hfin
    simp only [World.size_alloc] at hfin
    clear hgV hg1 hg2 hg3 hb1 hb2 hb3 hbl hT hlt
    go_wp2_with fail
    go_ret
    exact hfin
  · have s1 := hg3.size
    have s2 := hbl.size
    have hlt := hg2.lt
    have hm := (Blk.new w2 (row (c * 32 + 1) fun _ => 0) 3).below hbl
    rw [Nat.mul_comm c 32] at hm
    simp only [World.size_drew, World.size_alloc] at hg1 s1 s2
    have hfin := new_fin (w := w) (V := w3) hc ((hg2.alloc _).below hbl) hb2 hm (by omega) (by simp at hb1; omega) (by omega) (by omega)
      (((((Below.refl w.heap.size w).alloc (Nat.le_refl _) (.cells #[.int .i64 (-1)] 3)).drew.trans (hg3.mono (by simp))).alloc (by omega) _).trans (hbl.mono (by simp; omega))) _ _ rfl rfl
    clear hm hlt
    clear hgV hg1 hg2 hg3 hb1 hb2 hb3 hbl
    go_wp2_with fail
    go_ret
    exact hfin
  · have s1 := hg3.size
    have s2 := hbl.size
    have hlt := hg2.lt
    have hm0 : Blk ((w.alloc (.cells #[.int .i64 (-1)] 3)).alloc (.cells (row (c * 32 + 1) fun _ => 0) 3)).drew (w.heap.size + 1) (row (c * 32 + 1) fun _ => 0) 3 := by
      have := Blk.new (w.alloc (.cells #[.int .i64 (-1)] 3)) (row (c * 32 + 1) fun _ => 0) 3
      simp only [World.size_alloc] at this
      exact this
    have hm := (hm0.below hg3).below hbl
    rw [Nat.mul_comm c 32] at hm
    simp only [World.size_drew, World.size_alloc] at hg1 s1 s2
    have hfin := new_fin (w := w) (V := w3) hc (hg2.below hbl) hb2 hm (by omega) (by omega) (by omega) (by omega)
      (((((Below.refl w.heap.size w).alloc (Nat.le_refl _) (.cells #[.int .i64 (-1)] 3)).alloc (by simp) (.cells (row (c * 32 + 1) fun _ => 0) 3)).drew.trans (hg3.mono (by simp; omega))).trans (hbl.mono (by omega))) _ _ rfl rfl
    clear hm hlt hm0
    clear hgV hg1 hg2 hg3 hb1 hb2 hb3 hbl
    go_wp2_with fail
    go_ret
    exact hfin
  · have s1 := hg3.size
    have s2 := hbl.size
    have hlt := hg2.lt
    have hm0 : Blk ((w.alloc (.cells (row (c * 32 + 1) fun _ => 0) 3)).alloc (.cells #[.int .i64 (-1)] 3)).drew w.heap.size (row (c * 32 + 1) fun _ => 0) 3 := (Blk.new w (row (c * 32 + 1) fun _ => 0) 3).alloc _
    have hm := (hm0.below hg3).below hbl
    rw [Nat.mul_comm c 32] at hm
    simp only [World.size_drew, World.size_alloc] at hg1 s1 s2
    have hfin := new_fin (w := w) (V := w3) hc (hg2.below hbl) hb2 hm (by omega) (by omega) (by omega) (by omega)
      (((((Below.refl w.heap.size w).alloc (Nat.le_refl _) (.cells (row (c * 32 + 1) fun _ => 0) 3)).alloc (by simp) (.cells #[.int .i64 (-1)] 3)).drew.trans (hg3.mono (by simp; omega))).trans (hbl.mono (by omega))) _ _ rfl rfl
    clear hm hlt hm0
    clear hgV hg1 hg2 hg3 hb1 hb2 hb3 hbl
    go_wp2_with fail
    go_ret
    exact hfin
end Go.Proofs.YtoemfehlnnbjdaaDoor
