/- Count, for the layers above bits, at this seat's numbers. -/
import Derived.RangeFuncFrom
import Derived.Test.YtgfofilknejmnaaGreatDoorSetG
import Derived.Test.YtgfofilknejmnaaGreatDoorUb
namespace Go.Proofs.YtgfofilknejmnaaGreatDoor
open Go.RowKit Go.Shelf Go.MuLone Go.RwLone
attribute [local go_sem] Oper.semAt_some

/-- How many numbers the words of a list hold. -/
def sumW (S : Nat → Bool) : List (Fin 64) → Nat
  | [] => 0
  | k :: r => cnt S (64 * k.1) 64 + sumW S r
theorem sumW_snoc (S : Nat → Bool) (k : Fin 64) : ∀ l, sumW S (l ++ [k]) = sumW S l + cnt S (64 * k.1) 64
  | [] => by simp [sumW]
  | a :: l => by simp only [List.cons_append, sumW]; rw [sumW_snoc S k l]; omega
theorem sumW_le (S : Nat → Bool) : ∀ l, sumW S l ≤ 64 * l.length
  | [] => by simp [sumW]
  | a :: l => by simp only [sumW, List.length_cons]; have := sumW_le S l; have := cnt_le S 64 (64 * a.1); omega
theorem sumW_wks (S : Nat → Bool) : ∀ m a, a + m ≤ 64 → sumW S (wks a m) = cnt S (64 * a) (64 * m)
  | 0, a, _ => by simp [sumW, cnt, wks_zero]
  | m + 1, a, h => by
    rw [wks_snoc, sumW_snoc, sumW_wks S m a (by omega), wk_val (by omega), show 64 * (m + 1) = 64 * m + 64 by omega, cnt_add, show 64 * (a + m) = 64 * a + 64 * m by omega]

theorem WordsOf.pop {ws : Array Value} {S : Nat → Bool} (h : WordsOf ws S) (k : Nat) (hk : k < 64) : ∃ x : Nat, x < 18446744073709551616 ∧ ws[k]? = some (.int .u64 x) ∧ pop 64 x = cnt S (64 * k) 64 := by
  obtain ⟨x, hx, hw, hb⟩ := h.2 k hk
  exact ⟨x, hx, hw, pop_cnt S 64 x (64 * k) hb⟩

/-- What a question leaves: r, and the set as it was. -/
def AskPost (b : Nat) (lo : Option Nat) (n : Nat) (r : Int) (S : Nat → Bool) (w : World) (e : Ending) (w' : World) : Prop :=
  e = .returned (.int .i64 r) ∧ SetAt w' b lo n S ∧ Turn (fun k => k = b) w w'

theorem count_round (S : Nat → Bool) (pre : List (Fin 64)) (x : Fin 64) (c : Nat) (w1 W : World) (hS : sumW S (pre ++ [x]) = sumW S pre + c)
    (hc : W.cell? ⟨w1.heap.size, 0, none⟩ = some (.int .i64 ((sumW S pre : Nat) : Int))) (hf : W.frozen? ⟨w1.heap.size, 0, none⟩ = false) (hB : Below w1.heap.size w1 W) :
    KeepsOthers W (W.setCell ⟨w1.heap.size, 0, none⟩ (.int .i64 (((sumW S pre : Nat) : Int) + (c : Int)))).drew ∧ KeepsWalks W (W.setCell ⟨w1.heap.size, 0, none⟩ (.int .i64 (((sumW S pre : Nat) : Int) + (c : Int)))).drew ∧
      (((W.setCell ⟨w1.heap.size, 0, none⟩ (.int .i64 (((sumW S pre : Nat) : Int) + (c : Int)))).drew.cell? ⟨w1.heap.size, 0, none⟩ = some (.int .i64 ((sumW S (pre ++ [x]) : Nat) : Int)) ∧ (W.setCell ⟨w1.heap.size, 0, none⟩ (.int .i64 (((sumW S pre : Nat) : Int) + (c : Int)))).drew.frozen? ⟨w1.heap.size, 0, none⟩ = false) ∧
        Below w1.heap.size w1 (W.setCell ⟨w1.heap.size, 0, none⟩ (.int .i64 (((sumW S pre : Nat) : Int) + (c : Int)))).drew) := by
  have hk := (KeepsOthers.setCell W ⟨w1.heap.size, 0, none⟩ (.int .i64 (((sumW S pre : Nat) : Int) + (c : Int)))).trans (KeepsOthers.drew _)
  refine ⟨hk, hk.walks, ⟨?_, ?_⟩, ?_⟩
  · rw [hS, Int.natCast_add]
    exact World.cell?_setCell_same W ⟨w1.heap.size, 0, none⟩ _ hc
  · show (W.setCell _ _).frozen? _ = false
    rw [World.frozen?_setCell]; exact hf
  · exact (hB.setCell (p := ⟨w1.heap.size, 0, none⟩) (Nat.le_refl _) _).drew

set_option maxRecDepth 100000 in
set_option maxHeartbeats 2000000 in
theorem count_some (b l : Nat) (m : Nat) (S : Nat → Bool) (w : World) (hA : SetAt w b (some l) m S) :
    Calls Tryz.prog 40 #[.pointer (some ⟨b, 0, none⟩)] w (AskPost b (some l) m (card S) S w) := by
  obtain ⟨hn, hSn, hB, hne, ws, hL, hw⟩ := hA
  have c2 : w.cell? ⟨b, 2, none⟩ = some (.int .i32 0) := hB.cell 2
  have c4 : w.cell? ⟨b, 4, none⟩ = some (.int .u32 0) := hB.cell 4
  have c5 : w.cell? ⟨b, 5, none⟩ = some (.int .u32 0) := hB.cell 5
  have c6 : w.cell? ⟨b, 6, none⟩ = some (.int .i32 0) := hB.cell 6
  have z2 : w.frozen? ⟨b, 2, none⟩ = false := hB.free 2
  have z6 : w.frozen? ⟨b, 6, none⟩ = false := hB.free 6
  have hB1 := (hB.setAt 2 (.int .i32 1)).setAt 6 (.int .i32 (-1073741824))
  have hL1 := (hL.setOther ⟨b, 2, none⟩ (.int .i32 1) hne).setOther ⟨b, 6, none⟩ (.int .i32 (-1073741824)) hne
  have hT1 : Turn (fun k => k = b) w ((w.setCell ⟨b, 2, none⟩ (.int .i32 1)).setCell ⟨b, 6, none⟩ (.int .i32 (-1073741824))) := ((Turn.refl (fun k => k = b) w).set _ _ (.inr rfl)).set _ _ (.inr rfl)
  obtain ⟨n, h1⟩ : ∃ n : Nat, 6 ≤ n := ⟨6, Nat.le_refl _⟩
  refine calls_of_wp_marks Tryz.func40 rfl n ?_
  simp only [Tryz.ntmps40, List.size_toArray, List.length_cons, List.length_nil, Nat.reduceAdd, Nat.reduceSub, Array.replicate_succ, Array.replicate_zero, List.push_toArray, List.append_toArray, List.nil_append, List.cons_append]
  gi_wp2_with fail
  refine ⟨trivial, fun h => (by cases h), ?_⟩
  refine (callsIn_wide.2 (wlock_free Tryz.rwWLib b 2 _ _ _ c2 c4 c5 c6 z2 z6)).mono ?_
  rintro e w' ⟨rfl, rfl⟩
  generalize (w.setCell ⟨b, 2, none⟩ (.int .i32 1)).setCell ⟨b, 2 + 4, none⟩ (.int .i32 (-1073741824)) = w1 at *
  clear c2 c4 c5 c6 z2 z6
  have hB2 := hB1.alloc (.cells #[.int .i64 0] 3)
  have hL2 := hL1.alloc (.cells #[.int .i64 0] 3)
  have hC2 := Blk.new w1 #[.int .i64 0] 3
  have k1 : (w1.alloc (.cells #[.int .i64 0] 3)).cell? ⟨b, 1, none⟩ = some (.int .i64 0) := hB2.cell 1
  gi_wp2_with fail
  refine wpIn_wide.2 ?_
  go_region_held3 (fun w' => w'.cell? ⟨b, 1, none⟩ = some (.int .i64 0)) (first | go_keep | exact hk2)
    (first
      | (go_at_call 73; refine (words_any b 0 0 _).mono ?_; rintro e w2 ⟨rfl, rfl⟩; have hk2 : (wordsWorld b 0 0 (w1.alloc (.cells #[.int .i64 0] 3)).drew).cell? ⟨b, 1, none⟩ = some (.int .i64 0) := (((hB2.drew.alloc _).alloc _).alloc _).cell 1))
  gi_wp2_with fail
  have hW : Below w1.heap.size w1 (wordsWorld b 0 0 (w1.alloc (.cells #[.int .i64 0] 3)).drew) := by
    unfold wordsWorld
    exact ((((((Below.refl w1.heap.size w1).alloc (Nat.le_refl _) _).drew).alloc (by simp) _).alloc (by simp; omega) _).alloc (by simp; omega) _)
  have hs : (wordsWorld b 0 0 (w1.alloc (.cells #[.int .i64 0] 3)).drew).heap.size = w1.heap.size + 4 := by simp [wordsWorld]
  have hB0 : Blk (wordsWorld b 0 0 (w1.alloc (.cells #[.int .i64 0] 3)).drew) b (setArr m 1 (-1073741824) 1 0 (some ⟨l, 0, none⟩)) 123 := ((hB2.drew.alloc _).alloc _).alloc _
  have hL0 : Blk (wordsWorld b 0 0 (w1.alloc (.cells #[.int .i64 0] 3)).drew) l ws 157 := ((hL2.drew.alloc _).alloc _).alloc _
  have hC0 : Blk (wordsWorld b 0 0 (w1.alloc (.cells #[.int .i64 0] 3)).drew) w1.heap.size #[.int .i64 0] 3 := ((hC2.drew.alloc _).alloc _).alloc _
  have e0 : (wordsWorld b 0 0 (w1.alloc (.cells #[.int .i64 0] 3)).drew).cell? ⟨w1.heap.size + 1, 0, none⟩ = some (.pointer (some ⟨b, 8, none⟩)) := by
    have h := ((Blk.new (w1.alloc (.cells #[.int .i64 0] 3)).drew #[.pointer (some ⟨b, 8, none⟩)] 151).alloc (.cells #[.int .i64 0] 3)).alloc (.cells #[.int .i64 0] 3)
    simp only [World.size_drew, World.size_alloc] at h
    exact h.cell 0
  have e1 : (wordsWorld b 0 0 (w1.alloc (.cells #[.int .i64 0] 3)).drew).cell? ⟨w1.heap.size + 1 + 1, 0, none⟩ = some (.int .i64 0) := by
    have h := (Blk.new ((w1.alloc (.cells #[.int .i64 0] 3)).drew.alloc (.cells #[.pointer (some ⟨b, 8, none⟩)] 151)) #[.int .i64 0] 3).alloc (.cells #[.int .i64 0] 3)
    simp only [World.size_drew, World.size_alloc] at h
    exact h.cell 0
  have e2 : (wordsWorld b 0 0 (w1.alloc (.cells #[.int .i64 0] 3)).drew).cell? ⟨w1.heap.size + 1 + 1 + 1, 0, none⟩ = some (.int .i64 ((0 : Nat) : Int)) := by
    have h := Blk.new (((w1.alloc (.cells #[.int .i64 0] 3)).drew.alloc (.cells #[.pointer (some ⟨b, 8, none⟩)] 151)).alloc (.cells #[.int .i64 0] 3)) #[.int .i64 0] 3
    simp only [World.size_drew, World.size_alloc] at h
    exact h.cell 0
  generalize wordsWorld b 0 0 (w1.alloc (.cells #[.int .i64 0] 3)).drew = W0 at *
  clear hk2 k1 hB2 hL2 hC2
  refine wpIn_rangeFunc_ownF rfl (by omega) (gf := 111) (lb := #[.pointer (some ⟨w1.heap.size + 1, 0, none⟩), .pointer (some ⟨w1.heap.size + 1 + 1, 0, none⟩), .pointer (some ⟨w1.heap.size + 1 + 1 + 1, 0, none⟩)]) rfl trivial (enters_of Tryz.func111 (by kernel_rfl) rfl)
    (words_stops (n - 1) b l m 1 (-1073741824) 0 (by decide) (w1.heap.size + 1) ws hw.1 W0 e0 e1 e2 (by omega) hB0 hL0) walksK_t walksK_b (Below.refl _ _) (fun _ => rfl)
    (fun pre W => (W.cell? ⟨w1.heap.size, 0, none⟩ = some (.int .i64 ((sumW S pre : Nat) : Int)) ∧ W.frozen? ⟨w1.heap.size, 0, none⟩ = false) ∧ Below w1.heap.size w1 W)
    (fun _ _ _ => False)
    (OwnFrom.and (Own.from (fun s A B row hs hg hr => ⟨cell_kept hs.1 hg hr, (frozen_kept hs.1 hg hr).trans hs.2⟩) _) (ownFrom_below (Nat.le_refl _) (by omega)))
    (fun _ _ _ _ _ hs _ _ => hs)
    ⟨⟨hC0.cell 0, hC0.free 0⟩, hW⟩
    (fun x => { tmps := #[.pointer (some ⟨b, 0, none⟩), undef, .int .i64 0, .pointer (some ⟨w1.heap.size, 0, none⟩), undef, .pointer (some ⟨l, x.1, none⟩), .pointer (some ⟨b, 0, none⟩), .pointer (some ⟨b, 0, none⟩), .pointer (some ⟨b, 2, none⟩), .tuple #[], .pointer (some ⟨b, 0, none⟩), .pointer (some ⟨b, 0, none⟩), .pointer (some ⟨b, 2, none⟩), .pointer (some ⟨b, 0, none⟩), .pointer (some ⟨b, 0, none⟩), .pointer (some ⟨b, 8, none⟩), .pointer (some ⟨b, 0, none⟩), .pointer (some ⟨b, 0, none⟩), .pointer (some ⟨b, 1, none⟩), .int .i64 0, wordsFn (w1.heap.size + 1), .int .i64 ((x.1 : Int) * 64), .pointer (some ⟨l, x.1, none⟩), undef, undef, undef, undef, undef, undef], defers := [] }) ?assign ?body ?done ?stop
  case assign =>
    intro l0 x W K hK
    unfold wordArgs
    gi_wp2
    exact hK
  case body =>
    rintro l0 pre x W ⟨⟨hc, hf⟩, hBl⟩ hlen
    obtain ⟨y, hy, hwy, hpy⟩ := hw.pop x.1 x.2
    have hyc : W.cell? ⟨l, x.1, none⟩ = some (.int .u64 y) := ((hBl.cell (p := ⟨l, x.1, none⟩) hL1.lt).trans (hL1.cell _)).trans hwy
    have hle := sumW_le S pre
    have hd : 1 ≤ n - 1 - 1 := by omega
    have f1 : Fence.wide.fn 70 := trivial
    have f2 : Fence.wide.fn 74 := trivial
    have hmx : Tryz.prog.follows .mixedOrders = true := by kernel_rfl
    have hb64 : cnt S (64 * x.1) 64 ≤ 64 := cnt_le _ _ _
    have ho := ones_any y hy
    rw [hpy] at ho
    have HS := sumW_snoc S x pre
    have HS' : Hid (sumW S (pre ++ [x]) = sumW S pre + cnt S (64 * x.1) 64) := HS
    clear HS hpy hwy
    generalize cnt S (64 * x.1) 64 = c at *
    gi_wp2_with fail
    gi_region_with_o (first | (gi_at_call 70; refine (CallsIn.inRound l0 (callsIn_wide.2 (uload_any _ y _ ?_))).mono ?_; exact hyc; rintro e w' ⟨rfl, rfl⟩) | (gi_at_call 74; refine (CallsIn.inRound l0 (callsIn_wide.2 (ho _))).mono ?_; rintro e w' ⟨rfl, rfl⟩))
    all_goals gi_wp2
    all_goals (try go_bits)
    all_goals exact count_round S pre x c w1 W HS'.out hc hf hBl
  case done =>
    rintro D xs W hD rfl ⟨⟨hc, hf⟩, hBl⟩ hK
    rw [sumW_wks S 64 0 (by decide)] at hc
    gi_wp2_with fail
    have hlt := hB.lt
    have hlt1 := hB1.lt
    have hBW : Blk (W.putObj D (.deferred none)) b (setArr m 1 (-1073741824) 1 0 (some ⟨l, 0, none⟩)) 123 := by
      unfold Blk
      rw [World.putObj_heap_other (by omega), hBl.block b hlt1]
      exact hB1
    have hLW : Blk (W.putObj D (.deferred none)) l ws 157 := by
      unfold Blk
      rw [World.putObj_heap_other (by have := hL1.lt; omega), hBl.block l hL1.lt]
      exact hL1
    have hTW : Turn (fun k => k = b) w (W.putObj D (.deferred none)) :=
      hT1.trans (M' := fun k => w1.heap.size ≤ k) ⟨hBl.os, hBl.tape, hBl.output, by have := hBl.size; simp [World.putObj]; omega, fun k hk _ => by
        rw [World.putObj_heap_other (by omega), hBl.block k hk]⟩ (fun k hk h => by have := hT1.size; omega)
    refine ⟨by simp, .inl ⟨D, _, rfl, run_takeDeferred hK, ?_⟩⟩
    generalize W.putObj D (.deferred none) = W2 at *
    refine ⟨by simp, .inr ⟨_, _, 72, #[.pointer (some ⟨b, 2, none⟩)], rfl, by simp [go_sem], ?_⟩⟩
    refine (wunlock_deferred Tryz.rwWLib b 2 _ _ .returning _ (hBW.cell 2) (hBW.cell 4) (hBW.cell 5) (hBW.cell 6) (hBW.free 2) (hBW.free 6)).mono ?_
    rintro e u' w'' ⟨rfl, rfl, rfl⟩
    refine ⟨_, results_tmp rfl _ _ _, ?_⟩
    exact ⟨rfl, ⟨hn, hSn, (hBW.setAt 6 _).setAt 2 _, hne, ws, (hLW.setOther _ _ hne).setOther _ _ hne, hw⟩, (hTW.set _ _ (.inr rfl)).set _ _ (.inr rfl)⟩
  case stop =>
    rintro D c pre W _ _ h _
    exact h.elim
set_option maxRecDepth 100000 in
set_option maxHeartbeats 2000000 in
theorem count_nil (b : Nat) (m : Nat) (S : Nat → Bool) (w : World) (hA : SetAt w b none m S) :
    Calls Tryz.prog 40 #[.pointer (some ⟨b, 0, none⟩)] w (AskPost b none m 0 S w) := by
  obtain ⟨hn, hSn, hB, hS0⟩ := hA
  have c2 : w.cell? ⟨b, 2, none⟩ = some (.int .i32 0) := hB.cell 2
  have c4 : w.cell? ⟨b, 4, none⟩ = some (.int .u32 0) := hB.cell 4
  have c5 : w.cell? ⟨b, 5, none⟩ = some (.int .u32 0) := hB.cell 5
  have c6 : w.cell? ⟨b, 6, none⟩ = some (.int .i32 0) := hB.cell 6
  have z2 : w.frozen? ⟨b, 2, none⟩ = false := hB.free 2
  have z6 : w.frozen? ⟨b, 6, none⟩ = false := hB.free 6
  have hB1 := (hB.setAt 2 (.int .i32 1)).setAt 6 (.int .i32 (-1073741824))
  have hT1 : Turn (fun k => k = b) w ((w.setCell ⟨b, 2, none⟩ (.int .i32 1)).setCell ⟨b, 6, none⟩ (.int .i32 (-1073741824))) := ((Turn.refl (fun k => k = b) w).set _ _ (.inr rfl)).set _ _ (.inr rfl)
  obtain ⟨n, h1⟩ : ∃ n : Nat, 6 ≤ n := ⟨6, Nat.le_refl _⟩
  refine calls_of_wp_marks Tryz.func40 rfl n ?_
  simp only [Tryz.ntmps40, List.size_toArray, List.length_cons, List.length_nil, Nat.reduceAdd, Nat.reduceSub, Array.replicate_succ, Array.replicate_zero, List.push_toArray, List.append_toArray, List.nil_append, List.cons_append]
  gi_wp2_with fail
  refine ⟨trivial, fun h => (by cases h), ?_⟩
  refine (callsIn_wide.2 (wlock_free Tryz.rwWLib b 2 _ _ _ c2 c4 c5 c6 z2 z6)).mono ?_
  rintro e w' ⟨rfl, rfl⟩
  generalize (w.setCell ⟨b, 2, none⟩ (.int .i32 1)).setCell ⟨b, 2 + 4, none⟩ (.int .i32 (-1073741824)) = w1 at *
  clear c2 c4 c5 c6 z2 z6
  have hB2 := hB1.alloc (.cells #[.int .i64 0] 3)
  have hC2 := Blk.new w1 #[.int .i64 0] 3
  have k1 : (w1.alloc (.cells #[.int .i64 0] 3)).cell? ⟨b, 1, none⟩ = some (.int .i64 0) := hB2.cell 1
  gi_wp2_with fail
  refine wpIn_wide.2 ?_
  go_region_held3 (fun w' => w'.cell? ⟨b, 1, none⟩ = some (.int .i64 0)) (first | go_keep | exact hk2)
    (first
      | (go_at_call 73; refine (words_any b 0 0 _).mono ?_; rintro e w2 ⟨rfl, rfl⟩; have hk2 : (wordsWorld b 0 0 (w1.alloc (.cells #[.int .i64 0] 3)).drew).cell? ⟨b, 1, none⟩ = some (.int .i64 0) := (((hB2.drew.alloc _).alloc _).alloc _).cell 1))
  gi_wp2_with fail
  have hW : Below w1.heap.size w1 (wordsWorld b 0 0 (w1.alloc (.cells #[.int .i64 0] 3)).drew) := by
    unfold wordsWorld
    exact ((((((Below.refl w1.heap.size w1).alloc (Nat.le_refl _) _).drew).alloc (by simp) _).alloc (by simp; omega) _).alloc (by simp; omega) _)
  have hs : (wordsWorld b 0 0 (w1.alloc (.cells #[.int .i64 0] 3)).drew).heap.size = w1.heap.size + 4 := by simp [wordsWorld]
  have hB0 : Blk (wordsWorld b 0 0 (w1.alloc (.cells #[.int .i64 0] 3)).drew) b (setArr m 1 (-1073741824) 0 0 none) 123 := ((hB2.drew.alloc _).alloc _).alloc _
  have hC0 : Blk (wordsWorld b 0 0 (w1.alloc (.cells #[.int .i64 0] 3)).drew) w1.heap.size #[.int .i64 0] 3 := ((hC2.drew.alloc _).alloc _).alloc _
  have e0 : (wordsWorld b 0 0 (w1.alloc (.cells #[.int .i64 0] 3)).drew).cell? ⟨w1.heap.size + 1, 0, none⟩ = some (.pointer (some ⟨b, 8, none⟩)) := by
    have h := ((Blk.new (w1.alloc (.cells #[.int .i64 0] 3)).drew #[.pointer (some ⟨b, 8, none⟩)] 151).alloc (.cells #[.int .i64 0] 3)).alloc (.cells #[.int .i64 0] 3)
    simp only [World.size_drew, World.size_alloc] at h
    exact h.cell 0
  have e1 : (wordsWorld b 0 0 (w1.alloc (.cells #[.int .i64 0] 3)).drew).cell? ⟨w1.heap.size + 1 + 1, 0, none⟩ = some (.int .i64 0) := by
    have h := (Blk.new ((w1.alloc (.cells #[.int .i64 0] 3)).drew.alloc (.cells #[.pointer (some ⟨b, 8, none⟩)] 151)) #[.int .i64 0] 3).alloc (.cells #[.int .i64 0] 3)
    simp only [World.size_drew, World.size_alloc] at h
    exact h.cell 0
  have e2 : (wordsWorld b 0 0 (w1.alloc (.cells #[.int .i64 0] 3)).drew).cell? ⟨w1.heap.size + 1 + 1 + 1, 0, none⟩ = some (.int .i64 ((0 : Nat) : Int)) := by
    have h := Blk.new (((w1.alloc (.cells #[.int .i64 0] 3)).drew.alloc (.cells #[.pointer (some ⟨b, 8, none⟩)] 151)).alloc (.cells #[.int .i64 0] 3)) #[.int .i64 0] 3
    simp only [World.size_drew, World.size_alloc] at h
    exact h.cell 0
  generalize wordsWorld b 0 0 (w1.alloc (.cells #[.int .i64 0] 3)).drew = W0 at *
  clear hk2 k1 hB2 hC2
  refine wpIn_rangeFunc_ownF rfl (by omega) (gf := 111) (lb := #[.pointer (some ⟨w1.heap.size + 1, 0, none⟩), .pointer (some ⟨w1.heap.size + 1 + 1, 0, none⟩), .pointer (some ⟨w1.heap.size + 1 + 1 + 1, 0, none⟩)]) rfl trivial (enters_of Tryz.func111 (by kernel_rfl) rfl)
    (words_stops_nil (n - 1) b m 1 (-1073741824) 0 (by decide) (w1.heap.size + 1) W0 e0 e1 e2 (by omega) hB0) walksK_t walksK_b (Below.refl _ _) (fun _ => rfl)
    (fun pre W => (W.cell? ⟨w1.heap.size, 0, none⟩ = some (.int .i64 (0 : Int)) ∧ W.frozen? ⟨w1.heap.size, 0, none⟩ = false) ∧ Below w1.heap.size w1 W)
    (fun _ _ _ => False)
    (OwnFrom.and (Own.from (fun s A B row hs hg hr => ⟨cell_kept hs.1 hg hr, (frozen_kept hs.1 hg hr).trans hs.2⟩) _) (ownFrom_below (Nat.le_refl _) (by omega)))
    (fun _ _ _ _ _ hs _ _ => hs)
    ⟨⟨hC0.cell 0, hC0.free 0⟩, hW⟩
    (fun x => { tmps := #[.pointer (some ⟨b, 0, none⟩), undef, .int .i64 0, .pointer (some ⟨w1.heap.size, 0, none⟩), undef, .pointer (some ⟨0, x.1, none⟩), .pointer (some ⟨b, 0, none⟩), .pointer (some ⟨b, 0, none⟩), .pointer (some ⟨b, 2, none⟩), .tuple #[], .pointer (some ⟨b, 0, none⟩), .pointer (some ⟨b, 0, none⟩), .pointer (some ⟨b, 2, none⟩), .pointer (some ⟨b, 0, none⟩), .pointer (some ⟨b, 0, none⟩), .pointer (some ⟨b, 8, none⟩), .pointer (some ⟨b, 0, none⟩), .pointer (some ⟨b, 0, none⟩), .pointer (some ⟨b, 1, none⟩), .int .i64 0, wordsFn (w1.heap.size + 1), .int .i64 ((x.1 : Int) * 64), .pointer (some ⟨0, x.1, none⟩), undef, undef, undef, undef, undef, undef], defers := [] }) ?assign ?body ?done ?stop
  case assign =>
    intro l0 x W K hK
    unfold wordArgs
    gi_wp2
    exact hK
  case body =>
    rintro l0 pre x W _ hlen
    exact absurd hlen (Nat.not_lt_zero _)
  case done =>
    rintro D xs W hD rfl ⟨⟨hc, hf⟩, hBl⟩ hK
    gi_wp2_with fail
    have hlt := hB.lt
    have hlt1 := hB1.lt
    have hBW : Blk (W.putObj D (.deferred none)) b (setArr m 1 (-1073741824) 0 0 none) 123 := by
      unfold Blk
      rw [World.putObj_heap_other (by omega), hBl.block b hlt1]
      exact hB1
    have hTW : Turn (fun k => k = b) w (W.putObj D (.deferred none)) :=
      hT1.trans (M' := fun k => w1.heap.size ≤ k) ⟨hBl.os, hBl.tape, hBl.output, by have := hBl.size; simp [World.putObj]; omega, fun k hk _ => by
        rw [World.putObj_heap_other (by omega), hBl.block k hk]⟩ (fun k hk h => by have := hT1.size; omega)
    refine ⟨by simp, .inl ⟨D, _, rfl, run_takeDeferred hK, ?_⟩⟩
    generalize W.putObj D (.deferred none) = W2 at *
    refine ⟨by simp, .inr ⟨_, _, 72, #[.pointer (some ⟨b, 2, none⟩)], rfl, by simp [go_sem], ?_⟩⟩
    refine (wunlock_deferred Tryz.rwWLib b 2 _ _ .returning _ (hBW.cell 2) (hBW.cell 4) (hBW.cell 5) (hBW.cell 6) (hBW.free 2) (hBW.free 6)).mono ?_
    rintro e u' w'' ⟨rfl, rfl, rfl⟩
    refine ⟨_, results_tmp rfl _ _ _, ?_⟩
    exact ⟨rfl, ⟨hn, hSn, (hBW.setAt 6 _).setAt 2 _, hS0⟩, (hTW.set _ _ (.inr rfl)).set _ _ (.inr rfl)⟩
  case stop =>
    rintro D c pre W _ h _ _
    exact h.elim
/-- Count. -/
theorem count_any (b : Nat) (lo : Option Nat) (m : Nat) (S : Nat → Bool) (w : World) (hA : SetAt w b lo m S) :
    Calls Tryz.prog 40 #[.pointer (some ⟨b, 0, none⟩)] w (AskPost b lo m (card S) S w) := by
  cases lo with
  | none => rw [card_none S hA.2.2.2]; exact count_nil b m S w hA
  | some l => exact count_some b l m S w hA

end Go.Proofs.YtgfofilknejmnaaGreatDoor
