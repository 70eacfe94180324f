/- begin, free, nth of the law's model, at this seat's numbers. -/
import Derived.Test.YtlloanoohphgcaaDoorMdA
import Derived.Carry
namespace Go.Proofs.YtlloanoohphgcaaDoor
open Go Go.RowKit Go.Shelf Go.MuLone Go.RwLone Go.Maps
set_option linter.unusedSimpArgs false
set_option linter.unusedVariables false

/-- Between two rounds of begin. -/
def BeginRel (w : World) (n : Nat) (v8 : Value) (wr : World) : Prop :=
  ∃ (i : Nat) (v : Value), i ≤ n ∧ v8 = .int .i64 (i : Int) ∧ Blk wr (w.heap.size + 1) #[v, .map (some w.heap.size)] 44 ∧ wr.ownsRow w.heap.size 3 1 v i (List.replicate i (.int .i64 (-1))) ∧
    wr.heap[w.heap.size]? = some (.map #[] 0) ∧ Below w.heap.size w wr
theorem begin_end {w wr : World} {n : Nat} {v : Value} (hn : n ≤ 64) (h1 : Blk wr (w.heap.size + 1) #[v, .map (some w.heap.size)] 44) (h2 : wr.ownsRow w.heap.size 3 1 v n (List.replicate n (.int .i64 (-1))))
    (h3 : wr.heap[w.heap.size]? = some (.map #[] 0)) (h4 : Below w.heap.size w wr) :
    ∃ Y : MdB, Ending.returned (.pointer (some ⟨w.heap.size + 1, 0, none⟩)) = .returned (.pointer (some ⟨Y.m, 0, none⟩)) ∧ MdAt wr Y (.new n) ∧ (∀ k, Y.has k → w.heap.size ≤ k) ∧ Below w.heap.size w wr := by
  have hP : PagesIn wr v (.new n) := by
    rcases h2.2 with ⟨e1, e2⟩ | ⟨g, cap, cur, e1, _, e3, e4, _, e6, e7⟩
    · exact .inl ⟨e1, e2⟩
    · refine .inr ⟨g, cap, cur, e1, e3, by show n ≤ _; omega, fun k hk => ?_⟩
      have hk' : k < n := hk
      have := congrArg (fun l : List Value => l[k]?) e7
      simp only [List.getElem?_replicate, if_pos hk'] at this
      rw [List.getElem?_take, if_pos (by omega)] at this
      have h2 : cur[k]? = some (.int .i64 (-1)) := by simpa using this
      exact h2
  refine ⟨⟨w.heap.size + 1, w.heap.size, v⟩, rfl, ⟨h1, hP, MapM.made h3, fits_new hn⟩, ?_, h4⟩
  rintro k (rfl | rfl | e)
  · exact Nat.le_succ _
  · exact Nat.le_refl _
  · rcases h2.2 with ⟨e1, e2⟩ | ⟨g, cap, cur, e1, e2, _⟩
    · have e' : v.ownBlock = some k := e
      rw [e1] at e'; cases e'
    · have e' : v.ownBlock = some k := e
      rw [e1] at e'
      have : g = k := by simpa [Value.ownBlock] using e'
      omega
theorem own_type {w : World} {B n : Nat} {v : Value} {xs : List Value} {T : TypeId} (h : w.ownsRow B T 1 v n xs) {k : Nat} (hk : v.ownBlock = some k) : B ≤ k ∧ ∃ cur, Blk w k cur T := by
  rcases h.2 with ⟨e1, _⟩ | ⟨g, cap, cur, e1, e2, e3, _⟩
  · rw [e1] at hk; cases hk
  · rw [e1] at hk
    have : g = k := by simpa [Value.ownBlock] using hk
    subst this; exact ⟨e2, cur, e3⟩
theorem own_turn {M : Nat → Prop} {w w' : World} {B n : Nat} {v : Value} {xs : List Value} {T : TypeId} (h : w.ownsRow B T 1 v n xs) (hT : Turn M w w') (hn : ∀ k, v.ownBlock = some k → ¬ M k) : w'.ownsRow B T 1 v n xs := by
  refine ⟨h.1, ?_⟩
  rcases h.2 with h1 | ⟨g, cap, cur, e1, e2, e3, e4⟩
  · exact .inl h1
  · exact .inr ⟨g, cap, cur, e1, e2, (hT.block g (lt_of_block e3) (hn g (by rw [e1]; rfl))).trans e3, e4⟩

theorem own_slice {w : World} {B n : Nat} {v : Value} {xs : List Value} {T : TypeId} (h : w.ownsRow B T 1 v (n + 1) xs) : ∃ g cap, v = .slice (some ⟨g, 0, none⟩) (n + 1) cap := by
  rcases h.2 with ⟨_, e⟩ | ⟨g, cap, cur, e1, _⟩
  · omega
  · exact ⟨g, cap, e1⟩
theorem begin_push {w w1 w2 wr : World} {n : Nat} {v : Value} {xs : List Value} (hs : w.heap.size ≤ wr.heap.size) (hb : Blk w1 (w.heap.size + 1) #[v, .map (some w.heap.size)] 44) (hm : w1.heap[w.heap.size]? = some (.map #[] 0)) (hB : Below w.heap.size w w1)
    (ho : w1.ownsRow w.heap.size 3 1 v n xs) (hT : Turn (fun k => v.ownBlock = some k) w1 w2) :
    Blk w2 (w.heap.size + 1) #[v, .map (some w.heap.size)] 44 ∧ w2.heap[w.heap.size]? = some (.map #[] 0) ∧ Below w.heap.size w w2 ∧ w2.cell? ⟨w.heap.size + 1, 0, none⟩ = some v ∧ w2.frozen? ⟨w.heap.size + 1, 0, none⟩ = false := by
  have h1 : Blk w2 (w.heap.size + 1) #[v, .map (some w.heap.size)] 44 := hb.turn hT (fun e => by
    obtain ⟨_, cur, h⟩ := own_type ho e
    exact blk_types hb h (by decide))
  refine ⟨h1, (hT.block _ (Array.getElem?_eq_some_iff.1 hm).1 (fun e => ?_)).trans hm, hB.trans (hT.below _ hB.size (fun k hk e => by have := (own_type ho e).1; omega)), h1.cell 0, h1.free 0⟩
  obtain ⟨_, cur, h⟩ := own_type ho e
  unfold Blk at h
  rw [hm] at h; cases h
theorem begin_next {w w2 : World} {n i : Nat} {v v' x : Value} (hlt : i < n) (hx : x = .int .i64 ((i + 1 : Nat) : Int)) (hb : Blk w2 (w.heap.size + 1) #[v, .map (some w.heap.size)] 44) (hm : w2.heap[w.heap.size]? = some (.map #[] 0)) (hB : Below w.heap.size w w2)
    (ho : w2.ownsRow w.heap.size 3 1 v' (i + 1) (List.replicate i (.int .i64 (-1)) ++ [.int .i64 (-1)])) {w3 : World} (hw : w3 = w2.setCell ⟨w.heap.size + 1, 0, none⟩ v') : BeginRel w n x w3 := by
  subst hx hw
  have hT : Turn (fun k => k = w.heap.size + 1) w2 (w2.setCell ⟨w.heap.size + 1, 0, none⟩ v') := (Turn.refl _ w2).set _ _ (.inr rfl)
  refine ⟨i + 1, v', hlt, rfl, (hb.setAt 0 v').is (by simp), own_turn (by rw [List.replicate_succ']; exact ho) hT (fun k hk e => ?_), (hT.block _ (Array.getElem?_eq_some_iff.1 hm).1 (fun e => by have e2 : w.heap.size = w.heap.size + 1 := e; omega)).trans hm,
    hB.trans (hT.below _ hB.size (fun k hk e => by have e2 : k = w.heap.size + 1 := e; omega))⟩
  obtain ⟨_, cur, h⟩ := own_type ho hk
  have e2 : k = w.heap.size + 1 := e
  rw [e2] at h
  exact blk_types hb h (by decide)

set_option maxHeartbeats 1000000 in
theorem begin_any (n : Nat) (hn : n ≤ 64) (w : World) :
    Calls Tryd.prog 15 #[.int .i64 (n : Int)] w fun e w' => ∃ Y : MdB, e = .returned (.pointer (some ⟨Y.m, 0, none⟩)) ∧ MdAt w' Y (.new n) ∧ (∀ k, Y.has k → w.heap.size ≤ k) ∧ Below w.heap.size w w' := by
  go_enter Tryd.func15, Tryd.ntmps15
  have hmm := @run_makeMap Tryd.prog
  go_wp2_with fail
  clear hmm
  go_loopw [8] (fun v8 wr => BeginRel w n v8 wr) (fun v8 _ => n - (intOf v8).toNat)
  case atStart => 
    refine ⟨0, .slice none 0 0, Nat.zero_le _, rfl, ?_, World.ownsRow_nil _ _ _ _, ?_, ?_⟩
    · have := Blk.new (w.alloc (.map #[] 0)) #[.slice none 0 0, .map (some w.heap.size)] 44
      simpa using this
    · have h1 : (w.alloc (.map #[] 0)).heap[w.heap.size]? = some (.map #[] 0) := (MapKept.heap_alloc w _).1
      exact (((Turn.refl (fun _ => False) (w.alloc (.map #[] 0))).alloc _).block _ (by simp) (fun h => h)).trans h1
    · exact ((Below.refl w.heap.size w).alloc (Nat.le_refl _) _).alloc (by simp) _
  case round =>
    obtain ⟨i, v, hi, rfl, hb, ho, hm, hB⟩ := hrel
    by_cases hlt : i < n
    · have h0 := hb.cell 0
      simp only [List.getElem?_toArray, List.getElem?_cons_zero] at h0
      have hbz := hb.free 0
      have hbl := hb.lt
      have hA := (Turn.refl (fun _ => False) wr).alloc (.cells #[.int .i64 (-1)] 3)
      have ho2 := own_turn ho hA (fun _ _ h => h)
      have hb2 := hb.turn hA (fun h => h)
      have hm2 := (hA.block _ (by omega) (fun h => h)).trans hm
      have HO := Lib.hid ho
      clear ho
      have hB1 : Below w.heap.size w (wr.alloc (.cells #[.int .i64 (-1)] 3)) := hB.alloc hB.size _
      have hsz := hB.size
      go_wp2_with (at_builtin; refine wpList_pushI rfl _ _ rfl ho2 (by simp; omega) (by omega) wr.heap.size 1 ((Blk.new wr _ _).cell 0) rfl rfl ?_; intro v' w2 hpo hpt; obtain ⟨g, cp, rfl⟩ := own_slice hpo; obtain ⟨hb3, hm3, hB3, hc3, hz3⟩ := begin_push hsz hb2 hm2 hB1 ho2 hpt; clear h0 hbz)
      go_roundw
      case rel => exact begin_next hlt (by go_num) hb3 hm3 hB3 hpo rfl
      case measure => simp [intOf]; omega
    · obtain rfl : i = n := by omega
      go_wp2_with fail
      go_ret
      exact begin_end hn hb ho hm hB
end Go.Proofs.YtlloanoohphgcaaDoor
