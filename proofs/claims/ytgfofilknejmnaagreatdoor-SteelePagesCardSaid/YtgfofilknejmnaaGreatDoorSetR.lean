/- Reset, for the layers above bits, at this seat's numbers. -/
import Derived.RangeFuncFrom
import Derived.Laws.LoneSync
import Derived.Test.YtgfofilknejmnaaGreatDoorSetI
namespace Go.Proofs.YtgfofilknejmnaaGreatDoor
open Go.RowKit Go.Shelf Go.MuLone Go.RwLone
attribute [local go_sem] Oper.semAt_some

theorem ustore_any (a : Addr) (y : Value) (x : Int) (w : World) (hc : w.cell? a = some y) (hz : w.frozen? a = false) :
    Calls Tryz.prog 116 #[.pointer (some a), .int .u64 x] w fun e w' => e = .returned (.tuple #[]) ∧ w.setCell a (.int .u64 x) = w' := by
  have hst := run_call_store (P := Tryz.prog) Tryz.func133 (by kernel_rfl) (by kernel_rfl) (by kernel_rfl) (by kernel_rfl) (k := .u64) (y := x) hc hz
  go_enter Tryz.func116, Tryz.ntmps116
  go_wp2
  go_end0
  exact ⟨rfl, rfl⟩

theorem ownFrom_turn {β : Type} {M : Nat → Prop} {w0 : World} {B : Nat} (hB : w0.heap.size ≤ B) : OwnFrom B (fun (_ : β) W => Turn M w0 W) :=
  fun _ _ _ _ hs hg hr => ⟨hg.os.trans hs.os, hg.tape.trans hs.tape, hg.output.trans hs.output, Nat.le_trans hs.size hg.size, fun k hk hm =>
    (hg.block k (Nat.lt_of_lt_of_le hk hs.size) (fun e => by have := (hr k e.symm).1; omega)).trans (hs.block k hk hm)⟩
/-- The words told so far are 0. -/
def ZeroW (l : Nat) (pre : List (Fin 64)) (W : World) : Prop := ∃ ws : Array Value, Blk W l ws 157 ∧ ws.size = 64 ∧ ∀ x ∈ pre, ws[x.1]? = some (.int .u64 0)
theorem zeroW_own (l B : Nat) : OwnFrom B (fun pre W => ZeroW l pre W) := Own.from (fun pre A C row hs hg hr => by
  obtain ⟨ws, h1, h2, h3⟩ := hs
  exact ⟨ws, h1.kept hg hr, h2, h3⟩) B
theorem zeroW_round {l : Nat} {pre : List (Fin 64)} {W : World} (x : Fin 64) (h : ZeroW l pre W) : ZeroW l (pre ++ [x]) (W.setCell ⟨l, x.1, none⟩ (.int .u64 0)) := by
  obtain ⟨ws, h1, h2, h3⟩ := h
  refine ⟨_, h1.setAt x.1 _, by simp [h2], fun y hy => ?_⟩
  have hx := x.2
  by_cases e : y.1 = x.1
  · rw [e]; simp [h2, hx]
  · rcases List.mem_append.1 hy with h | h
    · rw [Array.getElem?_setIfInBounds_ne (fun e' => e e'.symm)]; exact h3 y h
    · rw [List.mem_singleton.1 h] at e; exact absurd rfl e
theorem zeroW_cell {l : Nat} {pre : List (Fin 64)} {W : World} (x : Fin 64) (h : ZeroW l pre W) : ∃ y, W.cell? ⟨l, x.1, none⟩ = some y ∧ W.frozen? ⟨l, x.1, none⟩ = false := by
  obtain ⟨ws, h1, h2, _⟩ := h
  have hx := x.2
  exact ⟨_, (h1.cell x.1).trans (Array.getElem?_eq_getElem (by omega)), h1.free x.1⟩
theorem zeroW_words {l : Nat} {W : World} (h : ZeroW l (wks 0 64) W) : ∃ ws, Blk W l ws 157 ∧ WordsOf ws (fun _ => false) := by
  obtain ⟨ws, h1, h2, h3⟩ := h
  refine ⟨ws, h1, h2, fun k hk => ⟨0, by decide, ?_, fun j _ => by simp⟩⟩
  have h := h3 (wk k) (wks_has (by omega) (by omega))
  rw [wk_val (by omega)] at h
  exact h

/-- What Reset leaves. -/
def ResetPost (b : Nat) (lo : Option Nat) (n : Nat) (w : World) (e : Ending) (w' : World) : Prop :=
  e = .returned (.tuple #[]) ∧ SetAt w' b lo n (fun _ => false) ∧ Turn (fun k => k = b ∨ lo = some k) w w'

theorem reset_round {l : Nat} {pre : List (Fin 64)} {w1 W : World} (x : Fin 64) (hZ : ZeroW l pre W) (hT : Turn (fun k => k = l) w1 W) :
    KeepsOthers W (W.setCell ⟨l, x.1, none⟩ (.int .u64 0)) ∧ KeepsWalks W (W.setCell ⟨l, x.1, none⟩ (.int .u64 0)) ∧ ZeroW l (pre ++ [x]) (W.setCell ⟨l, x.1, none⟩ (.int .u64 0)) ∧ Turn (fun k => k = l) w1 (W.setCell ⟨l, x.1, none⟩ (.int .u64 0)) :=
  ⟨KeepsOthers.setCell _ _ _, (KeepsOthers.setCell _ _ _).walks, zeroW_round x hZ, hT.set _ _ (.inr rfl)⟩

set_option maxRecDepth 100000 in
set_option maxHeartbeats 2000000 in
theorem reset_some (b l : Nat) (m : Nat) (S : Nat → Bool) (w : World) (hA : SetAt w b (some l) m S) :
    Calls Tryz.prog 81 #[.pointer (some ⟨b, 0, none⟩)] w (ResetPost b (some l) m w) := by
  obtain ⟨hn, _, hB, hne, ws, hL, hw⟩ := hA
  have c2 : w.cell? ⟨b, 2, none⟩ = some (.int .i32 0) := hB.cell 2
  have c4 : w.cell? ⟨b, 4, none⟩ = some (.int .u32 0) := hB.cell 4
  have c5 : w.cell? ⟨b, 5, none⟩ = some (.int .u32 0) := hB.cell 5
  have c6 : w.cell? ⟨b, 6, none⟩ = some (.int .i32 0) := hB.cell 6
  have z2 : w.frozen? ⟨b, 2, none⟩ = false := hB.free 2
  have z6 : w.frozen? ⟨b, 6, none⟩ = false := hB.free 6
  have hB1 := (hB.setAt 2 (.int .i32 1)).setAt 6 (.int .i32 (-1073741824))
  have hL1 := (hL.setOther ⟨b, 2, none⟩ (.int .i32 1) hne).setOther ⟨b, 6, none⟩ (.int .i32 (-1073741824)) hne
  have hT1 : Turn (fun k => k = b ∨ some l = some k) w ((w.setCell ⟨b, 2, none⟩ (.int .i32 1)).setCell ⟨b, 6, none⟩ (.int .i32 (-1073741824))) := ((Turn.refl (fun k => k = b ∨ some l = some k) w).set _ _ (.inr (.inl rfl))).set _ _ (.inr (.inl rfl))
  obtain ⟨n, h1⟩ : ∃ n : Nat, 6 ≤ n := ⟨6, Nat.le_refl _⟩
  refine calls_of_wp_marks Tryz.func81 rfl n ?_
  simp only [Tryz.ntmps81, List.size_toArray, List.length_cons, List.length_nil, Nat.reduceAdd, Nat.reduceSub, Array.replicate_succ, Array.replicate_zero, List.push_toArray, List.append_toArray, List.nil_append, List.cons_append]
  gi_wp2_with fail
  refine ⟨trivial, fun h => (by cases h), ?_⟩
  refine (callsIn_wide.2 (wlock_free Tryz.rwWLib b 2 _ _ _ c2 c4 c5 c6 z2 z6)).mono ?_
  rintro e w' ⟨rfl, rfl⟩
  generalize (w.setCell ⟨b, 2, none⟩ (.int .i32 1)).setCell ⟨b, 2 + 4, none⟩ (.int .i32 (-1073741824)) = w1 at *
  clear c2 c4 c5 c6 z2 z6
  have k1 : w1.cell? ⟨b, 1, none⟩ = some (.int .i64 0) := hB1.cell 1
  gi_wp2_with fail
  refine wpIn_wide.2 ?_
  go_region_held3 (fun w' => w'.cell? ⟨b, 1, none⟩ = some (.int .i64 0)) (first | go_keep | exact hk2)
    (first
      | (go_at_call 73; refine (words_any b 0 0 _).mono ?_; rintro e w2 ⟨rfl, rfl⟩; have hk2 : (wordsWorld b 0 0 w1.drew).cell? ⟨b, 1, none⟩ = some (.int .i64 0) := (((hB1.drew.alloc _).alloc _).alloc _).cell 1))
  gi_wp2_with fail
  have hW : Turn (fun k => k = l) w1 (wordsWorld b 0 0 w1.drew) := by
    unfold wordsWorld
    exact (((Turn.refl _ w1).drew.alloc _).alloc _).alloc _
  have hs : (wordsWorld b 0 0 w1.drew).heap.size = w1.heap.size + 3 := by simp [wordsWorld]
  have hB0 : Blk (wordsWorld b 0 0 w1.drew) b (setArr m 1 (-1073741824) 1 0 (some ⟨l, 0, none⟩)) 123 := ((hB1.drew.alloc _).alloc _).alloc _
  have hL0 : Blk (wordsWorld b 0 0 w1.drew) l ws 157 := ((hL1.drew.alloc _).alloc _).alloc _
  have e0 : (wordsWorld b 0 0 w1.drew).cell? ⟨w1.heap.size, 0, none⟩ = some (.pointer (some ⟨b, 8, none⟩)) := by
    have h := ((Blk.new w1.drew #[.pointer (some ⟨b, 8, none⟩)] 151).alloc (.cells #[.int .i64 0] 3)).alloc (.cells #[.int .i64 0] 3)
    simp only [World.size_drew] at h
    exact h.cell 0
  have e1 : (wordsWorld b 0 0 w1.drew).cell? ⟨w1.heap.size + 1, 0, none⟩ = some (.int .i64 0) := by
    have h := (Blk.new (w1.drew.alloc (.cells #[.pointer (some ⟨b, 8, none⟩)] 151)) #[.int .i64 0] 3).alloc (.cells #[.int .i64 0] 3)
    simp only [World.size_drew, World.size_alloc] at h
    exact h.cell 0
  have e2 : (wordsWorld b 0 0 w1.drew).cell? ⟨w1.heap.size + 1 + 1, 0, none⟩ = some (.int .i64 ((0 : Nat) : Int)) := by
    have h := Blk.new ((w1.drew.alloc (.cells #[.pointer (some ⟨b, 8, none⟩)] 151)).alloc (.cells #[.int .i64 0] 3)) #[.int .i64 0] 3
    simp only [World.size_drew, World.size_alloc] at h
    exact h.cell 0
  generalize wordsWorld b 0 0 w1.drew = W0 at *
  clear hk2 k1
  refine wpIn_rangeFunc_ownF rfl (by omega) (gf := 111) (lb := #[.pointer (some ⟨w1.heap.size, 0, none⟩), .pointer (some ⟨w1.heap.size + 1, 0, none⟩), .pointer (some ⟨w1.heap.size + 1 + 1, 0, none⟩)]) rfl trivial (enters_of Tryz.func111 (by kernel_rfl) rfl)
    (words_stops (n - 1) b l m 1 (-1073741824) 0 (by decide) w1.heap.size ws hw.1 W0 e0 e1 e2 (by omega) hB0 hL0) walksK_t walksK_b (Below.refl _ _) (fun _ => rfl)
    (fun pre W => ZeroW l pre W ∧ Turn (fun k => k = l) w1 W)
    (fun _ _ _ => False)
    (OwnFrom.and (zeroW_own l _) (ownFrom_turn (by omega)))
    (fun _ _ _ _ _ hs _ _ => hs)
    ⟨⟨ws, hL0, hw.1, fun x h => (by cases h)⟩, hW⟩
    ?a1 ?assign ?body ?done ?stop
  case assign =>
    intro l0 x W K hK
    unfold wordArgs
    gi_wp2
    exact hK
  case body =>
    rintro l0 pre x W ⟨hZ, hTw⟩ hlen
    obtain ⟨y, hyc, hyz⟩ := zeroW_cell x hZ
    gi_wp2_with fail
    refine ⟨trivial, fun h => (by cases h), ?_⟩
    refine (CallsIn.inRound l0 (callsIn_wide.2 (ustore_any _ y 0 _ hyc hyz))).mono ?_
    rintro e w' ⟨rfl, rfl⟩
    gi_wp2
    exact reset_round x hZ hTw
  case done =>
    rintro D xs W hD rfl ⟨hZ, hTw⟩ hK
    gi_wp2_with fail
    have hlt := hB.lt
    have hlt1 := hB1.lt
    obtain ⟨ws', hLw, hww⟩ := zeroW_words hZ
    have hbl : ¬ b = l := fun e => hne e.symm
    have hBW : Blk (W.putObj D (.deferred none)) b (setArr m 1 (-1073741824) 1 0 (some ⟨l, 0, none⟩)) 123 := by
      have h := hB1.turn hTw hbl
      unfold Blk at h ⊢
      rw [World.putObj_heap_other (by omega)]
      exact h
    have hLW : Blk (W.putObj D (.deferred none)) l ws' 157 := by
      have := hL1.lt
      unfold Blk at hLw ⊢
      rw [World.putObj_heap_other (by omega)]
      exact hLw
    have hTW : Turn (fun k => k = b ∨ some l = some k) w (W.putObj D (.deferred none)) :=
      hT1.trans (M' := fun k => k = l) ⟨hTw.os, hTw.tape, hTw.output, by have := hTw.size; simp [World.putObj]; omega, fun k hk hm => by
        rw [World.putObj_heap_other (by omega), hTw.block k hk hm]⟩ (fun k hk h => .inr (by rw [h]))
    refine ⟨by simp, .inl ⟨D, _, rfl, run_takeDeferred hK, ?_⟩⟩
    generalize W.putObj D (.deferred none) = W2 at *
    refine ⟨by simp, .inr ⟨_, _, 72, #[.pointer (some ⟨b, 2, none⟩)], rfl, by simp [go_sem], ?_⟩⟩
    refine (wunlock_deferred Tryz.rwWLib b 2 _ _ .returning _ (hBW.cell 2) (hBW.cell 4) (hBW.cell 5) (hBW.cell 6) (hBW.free 2) (hBW.free 6)).mono ?_
    rintro e u' w'' ⟨rfl, rfl, rfl⟩
    refine ⟨.tuple #[], by simp [results, Tryz.f81, go_sem], ?_⟩
    exact ⟨rfl, ⟨hn, fun _ h => (by cases h), (hBW.setAt 6 _).setAt 2 _, hne, ws', (hLW.setOther _ _ hne).setOther _ _ hne, hww⟩, (hTW.set _ _ (.inr (.inl rfl))).set _ _ (.inr (.inl rfl))⟩
  case stop =>
    rintro D c pre W _ _ h _
    exact h.elim

set_option maxRecDepth 100000 in
set_option maxHeartbeats 2000000 in
theorem reset_nil (b : Nat) (m : Nat) (S : Nat → Bool) (w : World) (hA : SetAt w b none m S) :
    Calls Tryz.prog 81 #[.pointer (some ⟨b, 0, none⟩)] w (ResetPost b none m w) := by
  obtain ⟨hn, _, hB, _⟩ := hA
  have c2 : w.cell? ⟨b, 2, none⟩ = some (.int .i32 0) := hB.cell 2
  have c4 : w.cell? ⟨b, 4, none⟩ = some (.int .u32 0) := hB.cell 4
  have c5 : w.cell? ⟨b, 5, none⟩ = some (.int .u32 0) := hB.cell 5
  have c6 : w.cell? ⟨b, 6, none⟩ = some (.int .i32 0) := hB.cell 6
  have z2 : w.frozen? ⟨b, 2, none⟩ = false := hB.free 2
  have z6 : w.frozen? ⟨b, 6, none⟩ = false := hB.free 6
  have hB1 := (hB.setAt 2 (.int .i32 1)).setAt 6 (.int .i32 (-1073741824))
  have hT1 : Turn (fun k => k = b ∨ (none : Option Nat) = some k) w ((w.setCell ⟨b, 2, none⟩ (.int .i32 1)).setCell ⟨b, 6, none⟩ (.int .i32 (-1073741824))) := ((Turn.refl (fun k => k = b ∨ (none : Option Nat) = some k) w).set _ _ (.inr (.inl rfl))).set _ _ (.inr (.inl rfl))
  obtain ⟨n, h1⟩ : ∃ n : Nat, 6 ≤ n := ⟨6, Nat.le_refl _⟩
  refine calls_of_wp_marks Tryz.func81 rfl n ?_
  simp only [Tryz.ntmps81, List.size_toArray, List.length_cons, List.length_nil, Nat.reduceAdd, Nat.reduceSub, Array.replicate_succ, Array.replicate_zero, List.push_toArray, List.append_toArray, List.nil_append, List.cons_append]
  gi_wp2_with fail
  refine ⟨trivial, fun h => (by cases h), ?_⟩
  refine (callsIn_wide.2 (wlock_free Tryz.rwWLib b 2 _ _ _ c2 c4 c5 c6 z2 z6)).mono ?_
  rintro e w' ⟨rfl, rfl⟩
  generalize (w.setCell ⟨b, 2, none⟩ (.int .i32 1)).setCell ⟨b, 2 + 4, none⟩ (.int .i32 (-1073741824)) = w1 at *
  clear c2 c4 c5 c6 z2 z6
  have k1 : w1.cell? ⟨b, 1, none⟩ = some (.int .i64 0) := hB1.cell 1
  gi_wp2_with fail
  refine wpIn_wide.2 ?_
  go_region_held3 (fun w' => w'.cell? ⟨b, 1, none⟩ = some (.int .i64 0)) (first | go_keep | exact hk2)
    (first
      | (go_at_call 73; refine (words_any b 0 0 _).mono ?_; rintro e w2 ⟨rfl, rfl⟩; have hk2 : (wordsWorld b 0 0 w1.drew).cell? ⟨b, 1, none⟩ = some (.int .i64 0) := (((hB1.drew.alloc _).alloc _).alloc _).cell 1))
  gi_wp2_with fail
  have hW : Turn (fun _ => False) w1 (wordsWorld b 0 0 w1.drew) := by
    unfold wordsWorld
    exact (((Turn.refl _ w1).drew.alloc _).alloc _).alloc _
  have hs : (wordsWorld b 0 0 w1.drew).heap.size = w1.heap.size + 3 := by simp [wordsWorld]
  have hB0 : Blk (wordsWorld b 0 0 w1.drew) b (setArr m 1 (-1073741824) 0 0 none) 123 := ((hB1.drew.alloc _).alloc _).alloc _
  have e0 : (wordsWorld b 0 0 w1.drew).cell? ⟨w1.heap.size, 0, none⟩ = some (.pointer (some ⟨b, 8, none⟩)) := by
    have h := ((Blk.new w1.drew #[.pointer (some ⟨b, 8, none⟩)] 151).alloc (.cells #[.int .i64 0] 3)).alloc (.cells #[.int .i64 0] 3)
    simp only [World.size_drew] at h
    exact h.cell 0
  have e1 : (wordsWorld b 0 0 w1.drew).cell? ⟨w1.heap.size + 1, 0, none⟩ = some (.int .i64 0) := by
    have h := (Blk.new (w1.drew.alloc (.cells #[.pointer (some ⟨b, 8, none⟩)] 151)) #[.int .i64 0] 3).alloc (.cells #[.int .i64 0] 3)
    simp only [World.size_drew, World.size_alloc] at h
    exact h.cell 0
  have e2 : (wordsWorld b 0 0 w1.drew).cell? ⟨w1.heap.size + 1 + 1, 0, none⟩ = some (.int .i64 ((0 : Nat) : Int)) := by
    have h := Blk.new ((w1.drew.alloc (.cells #[.pointer (some ⟨b, 8, none⟩)] 151)).alloc (.cells #[.int .i64 0] 3)) #[.int .i64 0] 3
    simp only [World.size_drew, World.size_alloc] at h
    exact h.cell 0
  generalize wordsWorld b 0 0 w1.drew = W0 at *
  clear hk2 k1
  refine wpIn_rangeFunc_ownF rfl (by omega) (gf := 111) (lb := #[.pointer (some ⟨w1.heap.size, 0, none⟩), .pointer (some ⟨w1.heap.size + 1, 0, none⟩), .pointer (some ⟨w1.heap.size + 1 + 1, 0, none⟩)]) rfl trivial (enters_of Tryz.func111 (by kernel_rfl) rfl)
    (words_stops_nil (n - 1) b m 1 (-1073741824) 0 (by decide) w1.heap.size W0 e0 e1 e2 (by omega) hB0) walksK_t walksK_b (Below.refl _ _) (fun _ => rfl)
    (fun _ W => Turn (fun _ => False) w1 W)
    (fun _ _ _ => False)
    (ownFrom_turn (by omega))
    (fun _ _ _ _ _ hs _ _ => hs)
    hW
    ?a1 ?assign ?body ?done ?stop
  case assign =>
    intro l0 x W K hK
    unfold wordArgs
    gi_wp2
    exact hK
  case body =>
    rintro l0 pre x W _ hlen
    exact absurd hlen (Nat.not_lt_zero _)
  case done =>
    rintro D xs W hD rfl hTw hK
    gi_wp2_with fail
    have hlt := hB.lt
    have hlt1 := hB1.lt
    have hBW : Blk (W.putObj D (.deferred none)) b (setArr m 1 (-1073741824) 0 0 none) 123 := by
      have h := hB1.turn hTw (fun h => h)
      unfold Blk at h ⊢
      rw [World.putObj_heap_other (by omega)]
      exact h
    have hTW : Turn (fun k => k = b ∨ (none : Option Nat) = some k) w (W.putObj D (.deferred none)) :=
      hT1.trans (M' := fun _ => False) ⟨hTw.os, hTw.tape, hTw.output, by have := hTw.size; simp [World.putObj]; omega, fun k hk hm => by
        rw [World.putObj_heap_other (by omega), hTw.block k hk hm]⟩ (fun k hk h => h.elim)
    refine ⟨by simp, .inl ⟨D, _, rfl, run_takeDeferred hK, ?_⟩⟩
    generalize W.putObj D (.deferred none) = W2 at *
    refine ⟨by simp, .inr ⟨_, _, 72, #[.pointer (some ⟨b, 2, none⟩)], rfl, by simp [go_sem], ?_⟩⟩
    refine (wunlock_deferred Tryz.rwWLib b 2 _ _ .returning _ (hBW.cell 2) (hBW.cell 4) (hBW.cell 5) (hBW.cell 6) (hBW.free 2) (hBW.free 6)).mono ?_
    rintro e u' w'' ⟨rfl, rfl, rfl⟩
    refine ⟨.tuple #[], by simp [results, Tryz.f81, go_sem], ?_⟩
    exact ⟨rfl, ⟨hn, fun _ h => (by cases h), (hBW.setAt 6 _).setAt 2 _, fun _ => rfl⟩, (hTW.set _ _ (.inr (.inl rfl))).set _ _ (.inr (.inl rfl))⟩
  case stop =>
    rintro D c pre W _ h _ _
    exact h.elim

/-- Reset. -/
theorem reset_any (b : Nat) (lo : Option Nat) (m : Nat) (S : Nat → Bool) (w : World) (hA : SetAt w b lo m S) :
    Calls Tryz.prog 81 #[.pointer (some ⟨b, 0, none⟩)] w (ResetPost b lo m w) := by
  cases lo with
  | none => exact reset_nil b m S w hA
  | some l => exact reset_some b l m S w hA
end Go.Proofs.YtgfofilknejmnaaGreatDoor
