/- All, at this seat's numbers. -/
import Derived.Test.YtoemfehlnnbjdaaDoorSetO
namespace Go.Proofs.YtoemfehlnnbjdaaDoor
open Go.RowKit Go.Shelf Go.MuLone Go.RwLone
attribute [local go_sem] Oper.semAt_some

theorem all_any (b : Nat) (w : World) :
    Calls Tryd.prog 51 #[.pointer (some ⟨b, 0, none⟩)] w fun e w' => e = .returned (.func (.func 85) #[] #[.pointer (some ⟨w.heap.size, 0, none⟩)]) ∧ w.alloc (.cells #[.pointer (some ⟨b, 0, none⟩)] 50) = w' := by
  go_enter Tryd.func51, Tryd.ntmps51
  go_wp2_with fail
  go_ret
  exact ⟨rfl, rfl⟩

/-- The numbers of S below i, rising. -/
def elems (S : Nat → Bool) (i : Nat) : List Nat := (List.range i).filter S
theorem elems_zero (S : Nat → Bool) : elems S 0 = [] := rfl
theorem elems_gap (S : Nat → Bool) (i : Nat) : ∀ d, (∀ k, i ≤ k → k < i + d → S k = false) → elems S (i + d) = elems S i
  | 0, _ => rfl
  | d + 1, h => by
    rw [← elems_gap S i d (fun k h1 h2 => h k h1 (by omega))]
    unfold elems
    rw [← Nat.add_assoc, List.range_succ, List.filter_append]
    simp [h (i + d) (by omega) (by omega)]
theorem elems_next {S : Nat → Bool} {i j : Nat} (h : NextIs S i j) : elems S (j + 1) = elems S i ++ [j] := by
  obtain ⟨h1, h2, h3⟩ := h
  have e := elems_gap S i (j - i) (fun k hk hk2 => h3 k hk (by omega))
  rw [show i + (j - i) = j by omega] at e
  rw [← e]
  unfold elems
  rw [List.range_succ, List.filter_append]
  simp [h2]
theorem elems_end {S : Nat → Bool} {i m : Nat} (hi : i ≤ m) (h : ∀ k, i ≤ k → S k = false) : elems S m = elems S i := by
  have e := elems_gap S i (m - i) (fun k hk _ => h k hk)
  rw [show i + (m - i) = m by omega] at e
  exact e
theorem elems_length (S : Nat → Bool) (i : Nat) : (elems S i).length ≤ i := by
  unfold elems
  have := List.length_filter_le S (List.range i)
  simpa using this

/-- What a round over a set keeps: the set, the table, the closure's box. -/
def KpSet (b : Nat) (lo : Option Nat) (B : Nat) (W W' : World) : Prop :=
  W'.heap[b]? = W.heap[b]? ∧ (∀ l, lo = some l → W'.heap[l]? = W.heap[l]?) ∧ W'.heap[B]? = W.heap[B]? ∧ W'.heap[(1 : Nat)]? = W.heap[(1 : Nat)]?
theorem KpSet.trans {b : Nat} {lo : Option Nat} {B : Nat} {A C D : World} (h : KpSet b lo B A C) (k : KpSet b lo B C D) : KpSet b lo B A D :=
  ⟨k.1.trans h.1, fun l hl => (k.2.1 l hl).trans (h.2.1 l hl), k.2.2.1.trans h.2.2.1, k.2.2.2.trans h.2.2.2⟩
theorem KpSet.putObj {b : Nat} {lo : Option Nat} {B : Nat} {n0 : Nat} (hb : b < n0) (hl : ∀ l, lo = some l → l < n0) (hB : B < n0) (ht : (1 : Nat) < n0) (W : World) (l : Nat) (o : Obj) (h : n0 ≤ l) : KpSet b lo B W (W.putObj l o) :=
  ⟨World.putObj_heap_other (by omega), fun l' hl' => World.putObj_heap_other (by have := hl l' hl'; omega), World.putObj_heap_other (by omega), World.putObj_heap_other (by have := ht; omega)⟩
theorem KpSet.ofBelow {b : Nat} {lo : Option Nat} {B : Nat} {n0 : Nat} {W W' : World} (h : Below n0 W W') (hb : b < n0) (hl : ∀ l, lo = some l → l < n0) (hB : B < n0) (ht : 1 < n0) : KpSet b lo B W W' :=
  ⟨h.block _ hb, fun l e => h.block _ (hl l e), h.block _ hB, h.block _ ht⟩
theorem SetAt.kp {b : Nat} {lo : Option Nat} {B : Nat} {W W' : World} {m : Nat} {S : Nat → Bool} (h : SetAt W b lo m S) (hk : KpSet b lo B W W') : SetAt W' b lo m S := by
  obtain ⟨h1, h2, h3⟩ := h
  refine ⟨h1, h2, ?_⟩
  cases lo with
  | none => exact ⟨hk.1.trans h3.1, h3.2⟩
  | some l =>
    obtain ⟨h4, h5, ws, h6, h7⟩ := h3
    exact ⟨hk.1.trans h4, h5, ws, (hk.2.1 l rfl).trans h6, h7⟩
theorem TabAt.kp {b : Nat} {lo : Option Nat} {B : Nat} {W W' : World} (h : TabAt W) (hk : KpSet b lo B W W') : TabAt W' := fun j hj =>
  (World.cell?_of_block (w := W) (a := ⟨1, j, none⟩) hk.2.2.2).trans (h j hj)

/-- What holds between two rounds over a set. -/
def AllRel (b : Nat) (lo : Option Nat) (B m : Nat) (S : Nat → Bool) (J : List Nat → World → Prop) (vi vok : Value) (W : World) : Prop :=
  SetAt W b lo m S ∧ TabAt W ∧ W.cell? ⟨B, 0, none⟩ = some (.pointer (some ⟨b, 0, none⟩)) ∧
    ∃ i, i ≤ m ∧ J (elems S i) W ∧ ((∃ j, NextIs S i j ∧ vi = .int .i64 (j : Int) ∧ vok = .bool true) ∨ ((∀ j, i ≤ j → S j = false) ∧ vi = .int .i64 0 ∧ vok = .bool false))
/-- What every round lowers. -/
def allMu (m : Nat) (vi vok : Value) : Nat := match vok with | .bool true => m + 1 - (intOf vi).toNat | _ => 0

theorem allRel_next {b : Nat} {lo : Option Nat} {B m : Nat} {S : Nat → Bool} {J : List Nat → World → Prop} {i : Nat} {W W' : World} {e : Ending} {n0 : Nat} (hi : i ≤ m) (hJa : AbidesFrom n0 J) (hA : SetAt W b lo m S) (hT : TabAt W)
    (hB : W.cell? ⟨B, 0, none⟩ = some (.pointer (some ⟨b, 0, none⟩))) (hJ : J (elems S i) W) (hP : NextPost b lo m S i W e W') :
    ∃ vi vok, e = .returned (.tuple #[vi, vok]) ∧ AllRel b lo B m S J vi vok W' ∧ (i = 0 ∨ allMu m vi vok < m + 1 - (i - 1)) := by
  obtain ⟨hres, hA', hTn⟩ := hP
  have hBl := same_below hA hA' hTn
  have hk : W.grownBy W' none := ⟨hBl.os, hBl.tape, hBl.output, hBl.size, fun k hk _ => hBl.block k hk⟩
  have hJ' := hJa _ _ _ _ hJ hk (fun r e => by cases e)
  have hT' : TabAt W' := fun j hj => (hBl.cell (p := ⟨1, j, none⟩) hT.lt).trans (hT j hj)
  have hB' : W'.cell? ⟨B, 0, none⟩ = some (.pointer (some ⟨b, 0, none⟩)) := (hBl.cell (p := ⟨B, 0, none⟩) (World.block_lt_of_cell? W _ hB)).trans hB
  rcases hres with ⟨j, hj, rfl⟩ | ⟨hn, rfl⟩
  · refine ⟨_, _, rfl, ⟨hA', hT', hB', i, hi, hJ', .inl ⟨j, hj, rfl, rfl⟩⟩, ?_⟩
    have h1 := hj.1
    have h2 := hA.2.1 j hj.2.1
    simp [allMu, intOf]; omega
  · refine ⟨_, _, rfl, ⟨hA', hT', hB', i, hi, hJ', .inr ⟨hn, rfl, rfl⟩⟩, ?_⟩
    simp [allMu]; omega

set_option maxRecDepth 100000 in
set_option maxHeartbeats 2000000 in
theorem all1_in (n : Nat) (b : Nat) (lo : Option Nat) (B l m : Nat) (S : Nat → Bool) (J Jx : List Nat → World → Prop) (W : World) (hJa : AbidesFrom W.heap.size J)
    (hY : ∀ pre (x : Nat) W1, x < m → J pre W1 → pre.length < m → YieldAt Fence.wide (n - 1) Tryd.prog l #[.int .i64 (x : Int)] W1 fun e W' =>
      (e = .returned (.bool true) ∧ J (pre ++ [x]) W' ∧ KpSet b lo B W1 W') ∨ (e = .returned (.bool false) ∧ Jx (pre ++ [x]) W'))
    (hA : SetAt W b lo m S) (hT : TabAt W) (hB : W.cell? ⟨B, 0, none⟩ = some (.pointer (some ⟨b, 0, none⟩))) (h0 : J [] W) :
    CallsIn Fence.wide n Tryd.prog 85 #[.func (.yield l) #[] #[], .pointer (some ⟨B, 0, none⟩)] W fun e W' => (∃ v, e = .returned v) ∧
      ((∃ xs, xs = elems S m ∧ J xs W') ∨ (∃ pre, (∃ i j, NextIs S i j ∧ pre = elems S (j + 1)) ∧ Jx pre W')) := by
  have hm4 := hA.1
  refine callsIn_of_wp Tryd.func85 rfl (by trivial) ?_ rfl
  simp only [Tryd.ntmps85, List.size_toArray, List.length_cons, List.length_nil, Nat.reduceAdd, Nat.reduceSub, Array.replicate_succ, Array.replicate_zero, List.push_toArray, List.append_toArray, List.nil_append, List.cons_append]
  gi_wp2_with fail
  refine ⟨trivial, fun h => (by cases h), ?_⟩
  refine (callsIn_wide.2 (next_any b lo m S 0 _ hA hT)).mono ?_
  intro e W1 hP
  obtain ⟨vi, vok, rfl, hR, _⟩ := allRel_next (Nat.zero_le _) hJa hA hT hB h0 hP
  clear hP hA hT hB h0
  gi_wp2_with fail
  gi_loopw [3, 4] (fun vi vok wr => AllRel b lo B m S J vi vok wr) (fun vi vok _ => allMu m vi vok)
  case atStart => exact hR
  case round =>
    obtain ⟨hA, hT, hB, i, hi, hJs, h⟩ := hrel
    rcases h with ⟨j, hj, rfl, rfl⟩ | ⟨hn, rfl, rfl⟩
    · have hjm : j < m := hA.2.1 j hj.2.1
      obtain ⟨fn, tmps, assign, body, hy, hY2⟩ := hY _ j wr hjm hJs (Nat.lt_of_le_of_lt (Nat.le_trans (elems_length S i) hj.1) hjm)
      gi_wp2_with fail
      refine ⟨fun h => (by cases h), ?_⟩
      refine hY2.mono ?_
      rintro e W3 (⟨rfl, hJ3, hk3⟩ | ⟨rfl, hJx3⟩)
      · have hA3 := hA.kp hk3
        have hT3 := hT.kp hk3
        have hB3 : W3.cell? ⟨B, 0, none⟩ = some (.pointer (some ⟨b, 0, none⟩)) := (World.cell?_of_block (w := wr) (a := ⟨B, 0, none⟩) hk3.2.2.1).trans hB
        rw [← elems_next hj] at hJ3
        clear hA hT hB hJs hk3 hy hY2
        gi_wp2_with fail
        refine ⟨trivial, fun h => (by cases h), ?_⟩
        rw [show ((j : Int) + 1) = ((j + 1 : Nat) : Int) by omega]
        refine (callsIn_wide.2 (next_any b lo m S (j + 1) _ hA3 hT3)).mono ?_
        intro e W4 hP
        obtain ⟨vi2, vok2, rfl, hR4, hmu⟩ := allRel_next (Nat.succ_le_of_lt hjm) hJa hA3 hT3 hB3 hJ3 hP
        clear hP
        have HM : Hid (allMu m vi2 vok2 < m + 1 - j) := by rcases hmu with h | h; exact absurd h (by omega); exact h
        clear hmu hA3 hT3 hB3 hJ3
        gi_wp2_with fail
        go_roundw
        case rel => exact hR4
        case measure =>
          have := HM.out
          simp [allMu, intOf] at this ⊢
          omega
      · gi_wp2_with fail
        go_end0
        exact ⟨⟨_, rfl⟩, .inr ⟨_, ⟨i, j, hj, (elems_next hj).symm⟩, hJx3⟩⟩
    · gi_wp2_with fail
      refine ⟨fun _ h => (by cases h), ?_⟩
      gi_wp2_with fail
      go_end0
      exact ⟨⟨_, rfl⟩, .inl ⟨_, rfl, by rw [elems_end hi hn]; exact hJs⟩⟩

theorem SetAt.below {w w' : World} {b : Nat} {lo : Option Nat} {m : Nat} {S : Nat → Bool} {B : Nat} (h : SetAt w b lo m S) (hB : Below B w w') (hb : b < B) (hl : ∀ l, lo = some l → l < B) : SetAt w' b lo m S :=
  h.turn (Turn.ofBelow hB) (by omega) (fun l e => by have := hl l e; omega)

/-- The iterator over a set: all of its numbers, rising. -/
theorem all_stops (n : Nat) (b : Nat) (lo : Option Nat) (B m : Nat) (S : Nat → Bool) (w : World) (hA : SetAt w b lo m S) (hT : TabAt w) (hB : w.cell? ⟨B, 0, none⟩ = some (.pointer (some ⟨b, 0, none⟩))) :
    SeqStopsK Fence.wide n Tryd.prog 85 #[.pointer (some ⟨B, 0, none⟩)] (fun x : Nat => #[.int .i64 (x : Int)]) (KpSet b lo B)
      (fun xs => xs = elems S m) (fun pre => ∃ i j, NextIs S i j ∧ pre = elems S (j + 1)) m w := fun l J Jx W hW hJa _ hY h0 =>
  all1_in n b lo B l m S J Jx W hJa (fun pre x W1 _ => hY pre x W1) (hA.below hW hA.lt.1 hA.lt.2) (fun j hj => (hW.cell (p := ⟨1, j, none⟩) hT.lt).trans (hT j hj))
    ((hW.cell (p := ⟨B, 0, none⟩) (World.block_lt_of_cell? w _ hB)).trans hB) h0

/-- The same, where it is known of each number that it is one of a set's. -/
theorem all_stopsF (n : Nat) (b : Nat) (lo : Option Nat) (B m : Nat) (S : Nat → Bool) (w : World) (hA : SetAt w b lo m S) (hT : TabAt w) (hB : w.cell? ⟨B, 0, none⟩ = some (.pointer (some ⟨b, 0, none⟩))) :
    SeqStopsK Fence.wide n Tryd.prog 85 #[.pointer (some ⟨B, 0, none⟩)] (fun x : Fin 4096 => #[.int .i64 ((x.val : Nat) : Int)]) (KpSet b lo B)
      (fun xs => xs.map Fin.val = elems S m) (fun pre => ∃ i j, NextIs S i j ∧ pre.map Fin.val = elems S (j + 1)) m w := fun l J Jx W hW hJa _ hY h0 => by
  have hm := hA.1
  refine (all1_in n b lo B l m S (fun p W => ∃ q : List (Fin 4096), q.map Fin.val = p ∧ J q W) (fun p W => ∃ q : List (Fin 4096), q.map Fin.val = p ∧ Jx q W) W
    (fun s W1 W2 row ⟨q, hq, hs⟩ hg hr => ⟨q, hq, hJa q W1 W2 row hs hg hr⟩) ?_ (hA.below hW hA.lt.1 hA.lt.2) (fun j hj => (hW.cell (p := ⟨1, j, none⟩) hT.lt).trans (hT j hj))
    ((hW.cell (p := ⟨B, 0, none⟩) (World.block_lt_of_cell? w _ hB)).trans hB) ⟨[], rfl, h0⟩).mono ?_
  · rintro pre x W1 hx ⟨q, rfl, hq⟩ hlen
    refine (hY q ⟨x, by omega⟩ W1 hq (by simpa using hlen)).mono ?_
    rintro e W2 (⟨he, hj, hk⟩ | ⟨he, hj⟩)
    · exact .inl ⟨he, ⟨_, by simp, hj⟩, hk⟩
    · exact .inr ⟨he, ⟨_, by simp, hj⟩⟩
  · rintro e W2 ⟨hv, (⟨xs, hxs, q, hq, hj⟩ | ⟨pre, hp, q, hq, hj⟩)⟩
    · exact ⟨hv, .inl ⟨q, hq.trans hxs, hj⟩⟩
    · obtain ⟨i, j, h1, h2⟩ := hp
      exact ⟨hv, .inr ⟨q, ⟨i, j, h1, hq.trans h2⟩, hj⟩⟩

end Go.Proofs.YtoemfehlnnbjdaaDoor
