/- All's iterator, where rounds may change the set at, or below, what they are told; at this seat's numbers. -/
import Derived.Test.YtfipflghnhfcjaaDoorSetS
import Derived.Test.YtfipflghnhfcjaaDoorRanE
import Derived.Lib.Hide
namespace Go.Proofs.YtfipflghnhfcjaaDoor
open Go Go.RowKit Go.Shelf Go.MuLone Go.RwLone
attribute [local go_sem] Oper.semAt_some
set_option linter.unusedSimpArgs false
set_option linter.unusedVariables false

theorem turn_putObj {l : Nat} (W : World) (o : Obj) : Turn (fun k => k = l) W (W.putObj l o) :=
  ⟨rfl, rfl, rfl, by simp, fun k _ hn => World.putObj_heap_other (by have h : ¬ k = l := hn; omega)⟩
/-- A world has one set at a place. -/
theorem SetAt.uniq {w : World} {b : Nat} {lo : Option Nat} {m : Nat} {S S' : Nat → Bool} (h : SetAt w b lo m S) (h' : SetAt w b lo m S') : S = S' := by
  funext k
  by_cases hk : k < m
  · have hm := h.1
    cases lo with
    | none => rw [h.2.2.2 k, h'.2.2.2 k]
    | some l =>
      obtain ⟨_, _, _, _, ws, hL, hw⟩ := h
      obtain ⟨_, _, _, _, ws', hL', hw'⟩ := h'
      have e : ws = ws' := by
        unfold Blk at hL hL'
        rw [hL] at hL'
        injection hL' with e1
        injection e1
      subst e
      obtain ⟨x, hx, hxc, hxb⟩ := hw.2 (k / 64) (by omega)
      obtain ⟨y, hy, hyc, hyb⟩ := hw'.2 (k / 64) (by omega)
      rw [hxc] at hyc
      have e2 : x = y := by
        injection hyc with e3
        injection e3 with _ e4
        omega
      subst e2
      have h1 := hxb (k % 64) (Nat.mod_lt _ (by decide))
      have h2 := hyb (k % 64) (Nat.mod_lt _ (by decide))
      rw [show 64 * (k / 64) + k % 64 = k by omega] at h1 h2
      rw [← h1, h2]
  · have e1 : S k = false := by
      cases e : S k with
      | false => rfl
      | true => exact absurd (h.2.1 k e) hk
    have e2 : S' k = false := by
      cases e : S' k with
      | false => rfl
      | true => exact absurd (h'.2.1 k e) hk
    rw [e1, e2]

/-- What a round over a changing set keeps: the set above what it was told, the closure's box, the table. -/
def KpChg (b : Nat) (lo : Option Nat) (B m x : Nat) (W W' : World) : Prop :=
  (∀ S, SetAt W b lo m S → ∃ S', SetAt W' b lo m S' ∧ ∀ k, x < k → S' k = S k) ∧ W'.heap[B]? = W.heap[B]? ∧ W'.heap[(1 : Nat)]? = W.heap[(1 : Nat)]?
theorem KpChg.trans {b : Nat} {lo : Option Nat} {B m x : Nat} {A C D : World} (h : KpChg b lo B m x A C) (k : KpChg b lo B m x C D) : KpChg b lo B m x A D := by
  refine ⟨fun S hS => ?_, k.2.1.trans h.2.1, k.2.2.trans h.2.2⟩
  obtain ⟨S1, h1, e1⟩ := h.1 S hS
  obtain ⟨S2, h2, e2⟩ := k.1 S1 h1
  exact ⟨S2, h2, fun i hi => (e2 i hi).trans (e1 i hi)⟩
theorem KpChg.putObj {b : Nat} {lo : Option Nat} {B m x : Nat} {n0 : Nat} (hb : b < n0) (hl : ∀ l, lo = some l → l < n0) (hB : B < n0) (ht : (1 : Nat) < n0) (W : World) (l : Nat) (o : Obj) (h : n0 ≤ l) : KpChg b lo B m x W (W.putObj l o) :=
  ⟨fun S hS => ⟨S, hS.turn (turn_putObj W o) (by show ¬ b = l; omega) (fun i e => by have := hl i e; show ¬ i = l; omega), fun _ _ => rfl⟩, World.putObj_heap_other (by omega), World.putObj_heap_other (by have := ht; omega)⟩
/-- The set is changed at x alone. -/
theorem KpChg.one {b : Nat} {lo : Option Nat} {B m x : Nat} {W W' : World} {S S' : Nat → Bool} (hA : SetAt W b lo m S) (hA' : SetAt W' b lo m S') (hS : ∀ k, x < k → S' k = S k) (hT : Turn (fun k => k = b ∨ lo = some k) W W')
    (hB : B < W.heap.size) (hBb : B ≠ b) (hBl : lo ≠ some B) (ht : (1 : Nat) < W.heap.size) (htb : (1 : Nat) ≠ b) (htl : lo ≠ some 1) : KpChg b lo B m x W W' :=
  ⟨fun S0 h0 => by rw [← hA.uniq h0]; exact ⟨S', hA', hS⟩, hT.block _ hB (by rintro (e | e); exact hBb e; exact hBl e), hT.block _ ht (by rintro (e | e); exact htb e; exact htl e)⟩

/-- What holds between two rounds over a changing set. -/
def AllRelE (b : Nat) (lo : Option Nat) (B m : Nat) (S : Nat → Bool) (J : List Nat → World → Prop) (vi vok : Value) (W : World) : Prop :=
  TabAt W ∧ W.cell? ⟨B, 0, none⟩ = some (.pointer (some ⟨b, 0, none⟩)) ∧ ∃ S', SetAt W b lo m S' ∧
    ∃ i, i ≤ m ∧ (∀ k, i ≤ k → S' k = S k) ∧ J (elems S i) W ∧ ((∃ j, NextIs S i j ∧ vi = .int .i64 (j : Int) ∧ vok = .bool true) ∨ ((∀ j, i ≤ j → S j = false) ∧ vi = .int .i64 0 ∧ vok = .bool false))

theorem allRelE_next {b : Nat} {lo : Option Nat} {B m : Nat} {S S' : Nat → Bool} {J : List Nat → World → Prop} {i : Nat} {W W' : World} {e : Ending} {n0 : Nat} (hi : i ≤ m) (hJa : AbidesFrom n0 J) (hA : SetAt W b lo m S') (hS : ∀ k, i ≤ k → S' k = S k) (hT : TabAt W)
    (hB : W.cell? ⟨B, 0, none⟩ = some (.pointer (some ⟨b, 0, none⟩))) (hJ : J (elems S i) W) (hP : NextPost b lo m S' i W e W') :
    ∃ vi vok, e = .returned (.tuple #[vi, vok]) ∧ AllRelE b lo B m S J vi vok W' ∧ (i = 0 ∨ allMu m vi vok < m + 1 - (i - 1)) := by
  obtain ⟨hres, hA', hTn⟩ := hP
  have hBl := same_below hA hA' hTn
  have hk : W.grownBy W' none := ⟨hBl.os, hBl.tape, hBl.output, hBl.size, fun k hk _ => hBl.block k hk⟩
  have hJ' := hJa _ _ _ _ hJ hk (fun r e => by cases e)
  have hT' : TabAt W' := fun j hj => (hBl.cell (p := ⟨1, j, none⟩) hT.lt).trans (hT j hj)
  have hB' : W'.cell? ⟨B, 0, none⟩ = some (.pointer (some ⟨b, 0, none⟩)) := (hBl.cell (p := ⟨B, 0, none⟩) (World.block_lt_of_cell? W _ hB)).trans hB
  rcases hres with ⟨j, hj, rfl⟩ | ⟨hn, rfl⟩
  · have hj2 : NextIs S i j := ⟨hj.1, (hS j hj.1).symm.trans hj.2.1, fun k h1 h2 => (hS k h1).symm.trans (hj.2.2 k h1 h2)⟩
    refine ⟨_, _, rfl, ⟨hT', hB', S', hA', i, hi, hS, hJ', .inl ⟨j, hj2, rfl, rfl⟩⟩, ?_⟩
    have h1 := hj.1
    have h2 := hA.2.1 j hj.2.1
    simp [allMu, intOf]; omega
  · refine ⟨_, _, rfl, ⟨hT', hB', S', hA', i, hi, hS, hJ', .inr ⟨fun j hj => (hS j hj).symm.trans (hn j hj), rfl, rfl⟩⟩, ?_⟩
    simp [allMu]; omega

set_option maxRecDepth 100000 in
set_option maxHeartbeats 2000000 in
theorem all1E_in (n : Nat) (b : Nat) (lo : Option Nat) (B l m : Nat) (S : Nat → Bool) (J Jx : List Nat → World → Prop) (W : World) (hJa : AbidesFrom W.heap.size J)
    (hY : ∀ pre (x : Nat) W1, x < m → (∃ S', SetAt W1 b lo m S' ∧ S' x = true) → J pre W1 → pre.length < m → YieldAt Fence.wide (n - 1) Tryd.prog l #[.int .i64 (x : Int)] W1 fun e W' =>
      (e = .returned (.bool true) ∧ J (pre ++ [x]) W' ∧ KpChg b lo B m x W1 W') ∨ (e = .returned (.bool false) ∧ Jx (pre ++ [x]) W'))
    (hA : SetAt W b lo m S) (hT : TabAt W) (hB : W.cell? ⟨B, 0, none⟩ = some (.pointer (some ⟨b, 0, none⟩))) (h0 : J [] W) :
    CallsIn Fence.wide n Tryd.prog 77 #[.func (.yield l) #[] #[], .pointer (some ⟨B, 0, none⟩)] W fun e W' => (∃ v, e = .returned v) ∧
      ((∃ xs, xs = elems S m ∧ J xs W') ∨ (∃ pre, (∃ i j, NextIs S i j ∧ pre = elems S (j + 1)) ∧ Jx pre W')) := by
  have hm4 := hA.1
  refine callsIn_of_wp Tryd.func77 rfl (by trivial) ?_ rfl
  simp only [Tryd.ntmps77, List.size_toArray, List.length_cons, List.length_nil, Nat.reduceAdd, Nat.reduceSub, Array.replicate_succ, Array.replicate_zero, List.push_toArray, List.append_toArray, List.nil_append, List.cons_append]
  gi_wp2_with fail
  refine ⟨trivial, fun h => (by cases h), ?_⟩
  refine (callsIn_wide.2 (next_any b lo m S 0 _ hA hT)).mono ?_
  intro e W1 hP
  obtain ⟨vi, vok, rfl, hR, _⟩ := allRelE_next (Nat.zero_le _) hJa hA (fun _ _ => rfl) hT hB h0 hP
  clear hP hA hT hB h0
  gi_wp2_with fail
  gi_loopw [3, 4] (fun vi vok wr => AllRelE b lo B m S J vi vok wr) (fun vi vok _ => allMu m vi vok)
  case atStart => exact hR
  case round =>
    obtain ⟨hT, hB, S', hA, i, hi, hSS, hJs, h⟩ := hrel
    have HSS := Lib.hid hSS
    clear hSS
    rcases h with ⟨j, hj, rfl, rfl⟩ | ⟨hn, rfl, rfl⟩
    · have hSj : S' j = true := (HSS.out j hj.1).trans hj.2.1
      have hjm : j < m := hA.2.1 j hSj
      obtain ⟨fn, tmps, assign, body, hy, hY2⟩ := hY _ j wr hjm ⟨S', hA, hSj⟩ hJs (Nat.lt_of_le_of_lt (Nat.le_trans (elems_length S i) hj.1) hjm)
      have HSJ := Lib.hid hSj
      clear hSj
      gi_wp2_with fail
      refine ⟨fun h => (by cases h), ?_⟩
      refine hY2.mono ?_
      rintro e W3 (⟨rfl, hJ3, hk3⟩ | ⟨rfl, hJx3⟩)
      · obtain ⟨S3, hA3, hS3⟩ := hk3.1 S' hA
        have HS3 : Hid (∀ k, j + 1 ≤ k → S3 k = S k) := Lib.hid fun k hk => (hS3 k (by omega)).trans (HSS.out k (by have := hj.1; omega))
        have hT3 : TabAt W3 := fun q hq => (World.cell?_of_block (w := wr) (a := ⟨1, q, none⟩) hk3.2.2).trans (hT q hq)
        have hB3 : W3.cell? ⟨B, 0, none⟩ = some (.pointer (some ⟨b, 0, none⟩)) := (World.cell?_of_block (w := wr) (a := ⟨B, 0, none⟩) hk3.2.1).trans hB
        rw [← elems_next hj] at hJ3
        clear hA hT hB hJs hk3 hy hY2 hS3
        gi_wp2_with fail
        refine ⟨trivial, fun h => (by cases h), ?_⟩
        rw [show ((j : Int) + 1) = ((j + 1 : Nat) : Int) by omega]
        refine (callsIn_wide.2 (next_any b lo m S3 (j + 1) _ hA3 hT3)).mono ?_
        intro e W4 hP
        obtain ⟨vi2, vok2, rfl, hR4, hmu⟩ := allRelE_next (Nat.succ_le_of_lt hjm) hJa hA3 HS3.out hT3 hB3 hJ3 hP
        clear hP
        have HM : Hid (allMu m vi2 vok2 < m + 1 - j) := by rcases hmu with h | h; exact absurd h (by omega); exact h
        clear hmu hA3 hT3 hB3 hJ3
        gi_wp2_with fail
        go_roundw
        case rel => exact hR4
        case measure =>
          have := HM.out
          simp [allMu, intOf] at this ⊢
          omega
      · gi_wp2_with fail
        go_end0
        exact ⟨⟨_, rfl⟩, .inr ⟨_, ⟨i, j, hj, (elems_next hj).symm⟩, hJx3⟩⟩
    · gi_wp2_with fail
      refine ⟨fun _ h => (by cases h), ?_⟩
      gi_wp2_with fail
      go_end0
      exact ⟨⟨_, rfl⟩, .inl ⟨_, rfl, by rw [elems_end hi hn]; exact hJs⟩⟩

/-- What holds as a number is told. -/
def ArrAll (b : Nat) (lo : Option Nat) (m x : Nat) (A C : World) : Prop := A = C ∧ ∃ S', SetAt A b lo m S' ∧ S' x = true

theorem all_seqE (n : Nat) (b : Nat) (lo : Option Nat) (B m : Nat) (S : Nat → Bool) (w : World) (hA : SetAt w b lo m S) (hT : TabAt w) (hB : w.cell? ⟨B, 0, none⟩ = some (.pointer (some ⟨b, 0, none⟩))) :
    SeqE Fence.wide n Tryd.prog 77 #[.pointer (some ⟨B, 0, none⟩)] (fun x : Fin 4096 => #[.int .i64 ((x.val : Nat) : Int)]) (fun x => KpChg b lo B m x.val) (fun x => ArrAll b lo m x.val)
      (fun xs => xs.map Fin.val = elems S m) (fun pre => ∃ i j, NextIs S i j ∧ pre.map Fin.val = elems S (j + 1)) m w := fun l J Jx Jm W hW hJ hJm hJx hArr hY h0 => by
  have hm := hA.1
  have weak : ∀ {β : Type} {X : β → World → Prop}, OwnFrom W.heap.size X → AbidesFrom W.heap.size X := fun hX s A B row hs hg hr =>
    hX s A B row hs hg (fun k e => by obtain ⟨h1, o, h2, h3⟩ := hr k e; exact ⟨h1, o, h2, Obj.not_cells_of_walk h3⟩)
  have hJa : AbidesFrom W.heap.size (fun (p : List Nat) W => ∃ (q : List (Fin 4096)) (O : Nat → Prop), q.map Fin.val = p ∧ J (q, O) W) := fun s W1 W2 row ⟨q, O, hq, hs⟩ hg hr => ⟨q, O, hq, weak hJ (q, O) W1 W2 row hs hg hr⟩
  refine (all1E_in n b lo B l m S (fun p W => ∃ (q : List (Fin 4096)) (O : Nat → Prop), q.map Fin.val = p ∧ J (q, O) W) (fun p W => ∃ (q : List (Fin 4096)) (O : Nat → Prop), q.map Fin.val = p ∧ Jx (q, O) W) W
    hJa ?_ (hA.below hW hA.lt.1 hA.lt.2) (fun j hj => (hW.cell (p := ⟨1, j, none⟩) hT.lt).trans (hT j hj))
    ((hW.cell (p := ⟨B, 0, none⟩) (World.block_lt_of_cell? w _ hB)).trans hB) ⟨[], _, rfl, h0⟩).mono ?_
  · rintro pre x W1 hx hS' ⟨q, O, rfl, hq⟩ hlen
    refine (hY q O ⟨x, by omega⟩ W1 (hArr q O ⟨x, by omega⟩ W1 W1 hq ⟨rfl, hS'⟩) (by simpa using hlen)).mono ?_
    rintro e W2 ⟨O', _, (⟨he, hj, hk⟩ | ⟨he, hj⟩)⟩
    · exact .inl ⟨he, ⟨_, O', by simp, hj⟩, hk⟩
    · exact .inr ⟨he, ⟨_, O', by simp, hj⟩⟩
  · rintro e W2 ⟨hv, (⟨xs, hxs, q, O, hq, hj⟩ | ⟨pre, hp, q, O, hq, hj⟩)⟩
    · exact ⟨hv, .inl ⟨q, O, hq.trans hxs, hj⟩⟩
    · obtain ⟨i, j, h1, h2⟩ := hp
      exact ⟨hv, .inr ⟨q, O, ⟨i, j, h1, hq.trans h2⟩, hj⟩⟩
end Go.Proofs.YtfipflghnhfcjaaDoor
