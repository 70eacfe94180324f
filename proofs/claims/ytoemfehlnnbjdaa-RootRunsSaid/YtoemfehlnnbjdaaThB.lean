/- A thread: New, Reg, Push, Pop, Full, Depth; at this seat's numbers. -/
import Derived.Test.YtoemfehlnnbjdaaThA
import Derived.Deep.RegionHeld3
import Derived.Laws.AppendOwn
import Derived.OwnWalk
namespace Go.Proofs.Ytoemfehlnnbjdaa
open Go Go.RowKit
set_option linter.unusedSimpArgs false
set_option linter.unusedVariables false
attribute [local go_sem] Oper.semAt_some

theorem own_slice {g n cap k : Nat} (h : (Value.slice (some ⟨g, 0, none⟩) n cap).ownBlock = some k) : g = k := by simpa [Value.ownBlock] using h
/-- A row of references in the heap. -/
def RefRow (w : World) (v : Value) (l : List Int) : Prop := w.ownsRow 0 31 1 v l.length (l.map fun r => Value.int .i64 r)
theorem RefRow.is {w : World} {v : Value} {l : List Int} (h : RefRow w v l) : (v = .slice none 0 0 ∧ l = []) ∨ ∃ g cap cur, v = .slice (some ⟨g, 0, none⟩) l.length cap ∧ Blk w g cur 31 ∧ l.length ≤ cap ∧ cap ≤ 9223372036854775807 ∧ cur.size = cap ∧ ∀ k (hk : k < l.length), w.cell? ⟨g, k, none⟩ = some (.int .i64 l[k]) := by
  have h0 := h
  rcases h.2 with ⟨h1, h2⟩ | ⟨g, cap, cur, rfl, _, hg, hn, hm, hs, ht⟩
  · exact .inl ⟨h1, List.length_eq_zero_iff.1 h2⟩
  · refine .inr ⟨g, cap, cur, rfl, hg, hn, hm, by simpa using hs, fun k hk => ?_⟩
    have hc := World.ownsRow.cells h0 (g := g) rfl k (.int .i64 l[k]) (by simp [hk])
    rw [Addr.add_lit, Nat.zero_add] at hc
    exact hc
theorem RefRow.own {w : World} {v : Value} {l : List Int} (h : RefRow w v l) {k : Nat} (hk : v.ownBlock = some k) : ∃ cur, Blk w k cur 31 := by
  rcases h.is with ⟨rfl, _⟩ | ⟨g, cap, cur, rfl, hg, _⟩
  · cases hk
  · have : g = k := by simpa [Value.ownBlock] using hk
    subst this
    exact ⟨cur, hg⟩
theorem RefRow.turn {M : Nat → Prop} {w w' : World} {v : Value} {l : List Int} (h : RefRow w v l) (hT : Turn M w w') (hn : ∀ k, v.ownBlock = some k → ¬ M k) : RefRow w' v l := by
  refine ⟨h.1, ?_⟩
  rcases h.2 with h1 | ⟨g, cap, cur, rfl, hb, hg, rest⟩
  · exact .inl h1
  · exact .inr ⟨g, cap, cur, rfl, hb, (hT.block g (Array.getElem?_eq_some_iff.1 hg).1 (hn g rfl)).trans hg, rest⟩
theorem RefRow.lenRun {w : World} {v : Value} {l : List Int} (h : RefRow w v l) (ty : TypeId) (W : World) : (Builtin.len_ #[30] ty #[v]).run Try.prog W = .ok (.int .i64 (l.length : Int)) W := by
  rcases h.is with ⟨rfl, rfl⟩ | ⟨g, cap, cur, rfl, _⟩
  · kernel_rfl
  · simp [go_sem, Builtin.len_]
theorem infoRefT : (Try.prog.info? 31).map (fun i => (i.zero, i.size, i.bytes)) = some (some (.int .i64 0), 1, 8) := by kernel_rfl
/-- append, of what a row holds: where the new row lies. -/
theorem run_append_at {P : Program} (w : World) (t ty e : TypeId) (i : TypeInfo) (z : Value) (size bytes : Nat) (ht : P.underlying t = some (.slice e)) (hi : P.info? e = some i) (hz : i.zero = some z)
    (hsize : i.size = size) (hby : i.bytes = bytes) (hzs : z.cells.size = size) (v : Value) (n : Nat) (xs : List Value) (hown : w.ownsRow 0 e size v n xs)
    (a : Addr) (m c : Nat) (news : List Value) (hl : news.length = m * size) (hnews : ∀ j u, news[j]? = some u → w.cell? (a.add j) = some u) (h1 : ∀ u ∈ news, u.oneCell' = true) (hm : 0 < m)
    (h63 : n + m ≤ maxLen) (hbytes : (n + m) * bytes ≤ 140737488355328) :
    ∃ v' w', (Builtin.append_ #[t, t] ty #[v, .slice (some a) m c]).run P w = .ok v' w' ∧ w'.ownsRow 0 e size v' (n + m) (xs ++ news) ∧ w.grownBy w' v.ownBlock ∧ (∀ k, v'.ownBlock = some k → v.ownBlock = some k ∨ w.heap.size ≤ k) := by
  subst hsize
  subst hby
  have hsmall : n + m ≤ 9223372036854775807 := by simp only [maxLen] at h63; omega
  have hlen : (xs ++ news).length = (n + m) * i.size := by rw [List.length_append, hown.1, hl, Nat.add_mul]
  have grown : ∀ (old : Nat), old < n + m → ∀ (row : Option Nat),
      (w.drew.alloc (.cells (xs.toArray ++ news.toArray ++ Builtin.zeroCells z.cells (grownCap w (n + m) old e - (n + m))) e)).ownsRow 0 e i.size
        (.slice (some ⟨w.heap.size, 0, none⟩) (n + m) (grownCap w (n + m) old e)) (n + m) (xs ++ news) ∧
      w.grownBy (w.drew.alloc (.cells (xs.toArray ++ news.toArray ++ Builtin.zeroCells z.cells (grownCap w (n + m) old e - (n + m))) e)) row := by
    intro old ho row
    have hge := grownCap_ge w (n + m) old e
    have hcm : grownCap w (n + m) old e ≤ maxLen := grownCap_le_maxLen w (n + m) old e h63
    refine ⟨⟨hlen, .inr ⟨w.heap.size, _, _, rfl, Nat.zero_le _, heap_alloc_new w.drew _, hge, hcm, ?_, ?_⟩⟩, ⟨rfl, rfl, rfl, by simp, fun k hk _ => Below.heap_alloc w.drew _ k hk⟩⟩
    · simp only [Array.size_append, List.size_toArray, size_zeroCells, hzs, hown.1, hl, ← Nat.add_mul]
      congr 1
      omega
    · simp only [Array.toList_append, List.append_assoc]
      rw [← List.append_assoc, ← hlen]
      exact List.take_left
  rcases hown.2 with ⟨rfl, rfl⟩ | ⟨g, cap, cur, rfl, hbg, hg, hnc, hcm, hcs, htake⟩
  · have hx : xs = [] := List.eq_nil_of_length_eq_zero (by simpa using hown.1)
    subst hx
    have hr := run_append_nil (P := P) w t ty e i z ht hi hz a m c news hl hnews hm (by omega) (by have hb := hbytes; simp only [Nat.zero_add] at hb; omega)
    have hgr := grown 0 (by omega) (Value.ownBlock (.slice none 0 0))
    simp only [Nat.zero_add, List.nil_append, Array.empty_append] at hgr ⊢
    exact ⟨_, _, hr, hgr.1, hgr.2, fun k hk => .inr (by simp [Value.ownBlock] at hk; omega)⟩
  · by_cases hroom : n + m ≤ cap
    · obtain ⟨w', h2, h3, h4⟩ := run_append_fits (P := P) w 0 t ty e i i.size ht hi rfl g n cap xs hown a m c news hl hnews h1 hroom
      exact ⟨_, w', h2, h3, h4, fun k hk => .inl hk⟩
    · have holds : ∀ j u, xs[j]? = some u → w.cell? ((⟨g, 0, none⟩ : Addr).add j) = some u := hown.cells (g := g) rfl
      have hr := run_append_grow (P := P) w t ty e i z ht hi hz ⟨g, 0, none⟩ n cap xs hown.1 holds a m c news hl hnews (by omega) (by omega) (growslice_fits (by omega) hbytes)
      have hgr := grown cap (by omega) (Value.ownBlock (.slice (some ⟨g, 0, none⟩) n cap))
      exact ⟨_, _, hr, hgr.1, hgr.2, fun k hk => .inr (by simp [Value.ownBlock] at hk; omega)⟩
/-- .. and as the walk meets it. -/
theorem wpList_append_at {P : Program} (w : World) {ops : Array Oper} {rest : List Oper} {o : Oper} {a : Act} {Q : Exit → Act → World → Prop} (hgd : o.guard = none) (s x : Operand) (t : TypeId)
    (ho : o.op = .call { callee := .builtin .append, args := #[s, x], argTypes := #[t, t] })
    (e : TypeId) (i : TypeInfo) (z : Value) (size bytes : Nat) (ht : P.underlying t = some (.slice e)) (hi : P.info? e = some i) (hz : i.zero = some z)
    (hsize : i.size = size) (hby : i.bytes = bytes) (hzs : z.cells.size = size) (v : Value) (n : Nat) (xs : List Value) (hs : a.eval s = v) (hown : w.ownsRow 0 e size v n xs)
    (ad : Addr) (m c : Nat) (news : List Value) (hx : a.eval x = .slice (some ad) m c) (hl : news.length = m * size) (hnews : ∀ j u, news[j]? = some u → w.cell? (ad.add j) = some u) (h1 : ∀ u ∈ news, u.oneCell' = true) (hm : 0 < m)
    (h63 : n + m ≤ maxLen) (hbytes : (n + m) * bytes ≤ 140737488355328)
    (h : ∀ v' w', w'.ownsRow 0 e size v' (n + m) (xs ++ news) → w.grownBy w' v.ownBlock → (∀ k, v'.ownBlock = some k → v.ownBlock = some k ∨ w.heap.size ≤ k) → wpList P ops Q rest (a.put o.dst v') w') : wpList P ops Q (o :: rest) a w :=
  wpList_plain hgd fun _ hK => by
    obtain ⟨v', w', hr, h2, h3, h4⟩ := run_append_at (P := P) w t o.type e i z size bytes ht hi hz hsize hby hzs v n xs hown ad m c news hl hnews h1 hm h63 hbytes
    unfold Oper.wp execOp
    simp only [ho, resolve, invoke, builtin, Sem.run_bind, Sem.run_pure, Result.andThen_ok, List.map_toArray, List.map_cons, List.map_nil, hs, hx, hr]
    exact hK _ _ (h v' w' h2 h3 h4)
theorem Turn.ofGrown {w w' : World} {row : Option Nat} (h : w.grownBy w' row) : Turn (fun k => row = some k) w w' := ⟨h.os, h.tape, h.output, h.size, fun k hk hn => h.block k hk (fun e => hn e.symm)⟩
/-- append of one. -/
theorem wpList_pushT {ops : Array Oper} {rest : List Oper} {o : Oper} {a : Act} {Q : Exit → Act → World → Prop} {v : Value} {l : List Int} {w : World} (hgd : o.guard = none) (s x : Operand)
    (ho : o.op = .call { callee := .builtin .append, args := #[s, x], argTypes := #[30, 30] }) (h : RefRow w v l) (hl : l.length ≤ 100000) (ad c : Nat) (r : Int) (hr : w.cell? ⟨ad, 0, none⟩ = some (.int .i64 r))
    (hs : a.eval s = v) (hx : a.eval x = .slice (some ⟨ad, 0, none⟩) 1 c) (hK : ∀ g n cap w', RefRow w' (.slice (some ⟨g, 0, none⟩) n cap) (l ++ [r]) → Turn (fun k => v.ownBlock = some k) w w' → (v.ownBlock = some g ∨ w.heap.size ≤ g) → wpList Try.prog ops Q rest (a.put o.dst (.slice (some ⟨g, 0, none⟩) n cap)) w') : wpList Try.prog ops Q (o :: rest) a w := by
  obtain ⟨i0, hi, hz0, hz1, hz2⟩ := info_parts infoRefT
  refine wpList_append_at w hgd s x 30 ho 31 i0 (.int .i64 0) 1 8 Try.underlying30 hi hz0 hz1 hz2 rfl v l.length _ hs h ⟨ad, 0, none⟩ 1 c [.int .i64 r] hx rfl (fun j u hj => by
    match j, hj with
    | 0, hj => simp at hj; subst hj; simpa [Addr.add] using hr) (fun u hu => by simp at hu; subst hu; rfl) (by decide) (by unfold maxLen; omega) (by omega) fun v' w' h2 h3 h4 => ?_
  have hR : RefRow w' v' (l ++ [r]) := by
    unfold RefRow
    rw [List.length_append, List.map_append]
    exact h2
  rcases hR.is with ⟨_, e⟩ | ⟨g, cap, cur, rfl, _⟩
  · simp at e
  · exact hK g _ cap w' hR (Turn.ofGrown h3) (h4 g rfl)

/-- A thread's blocks: itself, and the slices of its registers and its stack. -/
structure ThB where
  t : Nat
  vs : Value
  vk : Value
def ThB.has (T : ThB) (k : Nat) : Prop := k = T.t ∨ T.vs.ownBlock = some k ∨ T.vk.ownBlock = some k
structure ThAt (w : World) (T : ThB) (regs room : Int) (f : Nat → Int) (st : List Int) : Prop where
  head : Blk w T.t #[.int .i64 regs, T.vs, .int .i64 room, T.vk] 69
  set : RegRow w T.vs (segR f 0 regs.toNat)
  stk : RefRow w T.vk st
  few : regs ≤ 4096
  low : room ≤ 4096
  fit : (st.length : Int) ≤ room ∨ st = []
/-- What a call on a thread has turned. -/
structure ThStep (T : ThB) (w : World) (T' : ThB) (w' : World) : Prop where
  t : T'.t = T.t
  new : ∀ k, T'.has k → T.has k ∨ w.heap.size ≤ k
  turn : Turn T.has w w'
section
variable {w w' : World} {T : ThB} {regs room : Int} {f : Nat → Int} {st : List Int}
theorem ThAt.lt (h : ThAt w T regs room f st) : ∀ k, T.has k → k < w.heap.size := by
  rintro k (rfl | e | e)
  · exact h.head.lt
  · obtain ⟨_, hb⟩ := h.set.own e; exact hb.lt
  · obtain ⟨_, hb⟩ := h.stk.own e; exact hb.lt
theorem ThAt.turn {M : Nat → Prop} (h : ThAt w T regs room f st) (hT : Turn M w w') (hn : ∀ k, T.has k → ¬ M k) : ThAt w' T regs room f st :=
  ⟨h.head.turn hT (hn _ (.inl rfl)), h.set.turn hT (fun k e => hn k (.inr (.inl e))), h.stk.turn hT (fun k e => hn k (.inr (.inr e))), h.few, h.low, h.fit⟩
theorem blkT {w : World} {b : Nat} {cs cs' : Array Value} {X X' : TypeId} (h : Blk w b cs X) (h' : Blk w b cs' X') (hne : X ≠ X') : False := by
  unfold Blk at h h'
  rw [h] at h'
  injection h' with h2
  injection h2 with _ h3
  exact hne h3
theorem ThAt.ts (h : ThAt w T regs room f st) : T.vs.ownBlock ≠ some T.t := fun e => by
  obtain ⟨_, hb⟩ := h.set.own e
  exact blkT hb h.head (by decide)
theorem ThAt.tk (h : ThAt w T regs room f st) : T.vk.ownBlock ≠ some T.t := fun e => by
  obtain ⟨_, hb⟩ := h.stk.own e
  exact blkT hb h.head (by decide)
theorem ThAt.sk (h : ThAt w T regs room f st) {k : Nat} (e : T.vs.ownBlock = some k) (e2 : T.vk.ownBlock = some k) : False := by
  obtain ⟨_, hb⟩ := h.set.own e
  obtain ⟨_, hb2⟩ := h.stk.own e2
  exact blkT hb hb2 (by decide)
theorem ThAt.c0 (h : ThAt w T regs room f st) : w.cell? ⟨T.t, 0, none⟩ = some (.int .i64 regs) := h.head.cell 0
theorem ThAt.c1 (h : ThAt w T regs room f st) : w.cell? ⟨T.t, 1, none⟩ = some T.vs := h.head.cell 1
theorem ThAt.c2 (h : ThAt w T regs room f st) : w.cell? ⟨T.t, 2, none⟩ = some (.int .i64 room) := h.head.cell 2
theorem ThAt.c3 (h : ThAt w T regs room f st) : w.cell? ⟨T.t, 3, none⟩ = some T.vk := h.head.cell 3
theorem ThAt.seg (h : ThAt w T regs room f st) : (segR f 0 regs.toNat).length ≤ 4096 := by have := segR_length f 0 regs.toNat; have := h.few; omega
theorem ThAt.deep (h : ThAt w T regs room f st) : st.length ≤ 4096 := by
  rcases h.fit with e | e
  · have := h.low; omega
  · rw [e]; simp

theorem ThAt.drew (h : ThAt w T regs room f st) : ThAt w.drew T regs room f st := h.turn ((Turn.refl (fun _ => False) w).drew) (fun _ _ h => h)

theorem thNew (regs room : Int) (h1 : regs ≤ 4096) (h2 : room ≤ 4096) (w : World) : Calls Try.prog 27 #[.int .i64 regs, .int .i64 room] w fun e w' =>
    ∃ T, e = .returned (.pointer (some ⟨T.t, 0, none⟩)) ∧ ThAt w' T regs room (fun _ => 0) [] ∧ (∀ k, T.has k → w.heap.size ≤ k) ∧ Below w.heap.size w w' := by
  go_enter Try.func27, Try.ntmps27
  go_wp2_with fail
  go_ret
  refine ⟨⟨w.heap.size, .slice none 0 0, .slice none 0 0⟩, rfl, ⟨Blk.new w _ _, ?_, World.ownsRow_nil _ _ _ _, h1, h2, .inr rfl⟩, ?_, (Below.refl _ w).alloc (Nat.le_refl _) _⟩
  · rw [segR_none (fun _ => rfl)]; exact World.ownsRow_nil _ _ _ _
  · rintro k (rfl | e | e)
    · exact Nat.le_refl _
    · cases e
    · cases e
theorem ThAt.depth (h : ThAt w T regs room f st) : Calls Try.prog 24 #[.pointer (some ⟨T.t, 0, none⟩)] w fun e w' => e = .returned (.int .i64 (st.length : Int)) ∧ w = w' := by
  have c3 := h.c3
  have hl := h.stk.lenRun
  go_enter Try.func24, Try.ntmps24
  go_wp2_with fail
  go_ret
  exact ⟨rfl, rfl⟩
theorem ThAt.full (h : ThAt w T regs room f st) (q : Bool) (hq : decide (room ≤ (st.length : Int)) = q) : Calls Try.prog 33 #[.pointer (some ⟨T.t, 0, none⟩)] w fun e w' => e = .returned (.bool q) ∧ w.drew = w' := by
  have c2 := h.c2
  have cD := h.drew.depth
  go_enter Try.func33, Try.ntmps33
  go_wp2_with fail
  go_region_held3 (fun w' => w'.cell? ⟨T.t, 2, none⟩ = some (.int .i64 room)) (first | exact c2)
    (first
      | (go_at_call 24; refine cD.mono ?_; rintro e w' ⟨rfl, rfl⟩))
  go_wp2_with fail
  go_ret
  exact ⟨rfl, rfl⟩
theorem ThAt.knows (h : ThAt w T regs room f st) (i : Int) (q : Bool) (hq : decide (0 ≤ i ∧ i < regs) = q) : Calls Try.prog 28 #[.pointer (some ⟨T.t, 0, none⟩), .int .i64 i] w fun e w' => e = .returned (.bool q) ∧ w = w' := by
  have c0 := h.c0
  by_cases h0 : 0 ≤ i
  · by_cases h1 : i < regs
    · have e : q = true := by rw [← hq]; exact decide_eq_true ⟨h0, h1⟩
      subst e
      clear hq
      go_enter Try.func28, Try.ntmps28
      go_wp2_with fail
      go_ret
      exact ⟨rfl, rfl⟩
    · have e : q = false := by rw [← hq]; exact decide_eq_false (fun h => h1 h.2)
      subst e
      clear hq
      go_enter Try.func28, Try.ntmps28
      go_wp2_with fail
      go_ret
      exact ⟨rfl, rfl⟩
  · have e : q = false := by rw [← hq]; exact decide_eq_false (fun h => h0 h.1)
    subst e
    clear hq
    go_enter Try.func28, Try.ntmps28
    go_wp2_with fail
    go_ret
    exact ⟨rfl, rfl⟩
theorem ThAt.find (h : ThAt w T regs room f st) (i : Nat) (hi : i ≤ regs.toNat) (q : Bool) (hq : (decide (i < regs.toNat) && !decide (f i = 0)) = q) : Calls Try.prog 29 #[.pointer (some ⟨T.t, 0, none⟩), .int .i64 (i : Int)] w fun e w' =>
    e = .returned (.tuple #[.int .i64 ((segR f 0 i).length : Int), .bool q]) ∧ Below w.heap.size w w' := by
  have c1 := h.c1
  obtain ⟨k1, k2, k3⟩ := segR_cut f hi
  have cH := halve (segR f 0 regs.toNat) i (segR f 0 i).length k1 k2 k3 (by have := h.seg; omega) T.vs w h.set q (by rw [(segR_at f hi).1]; exact hq)
  clear k1 k2 k3
  go_enter Try.func29, Try.ntmps29
  go_wp2_with fail
  refine cH.mono ?_
  rintro e w1 ⟨rfl, hB⟩
  clear cH
  go_wp2_with fail
  go_ret2
  exact ⟨rfl, hB⟩
theorem ThAt.pushNo (h : ThAt w T regs room f st) (hr : room ≤ (st.length : Int)) (r : Int) : Calls Try.prog 20 #[.pointer (some ⟨T.t, 0, none⟩), .int .i64 r] w fun e w' =>
    e = .returned (.int .i64 9) ∧ Below w.heap.size w w' := by
  have cF := h.full true (decide_eq_true hr)
  go_enter Try.func20, Try.ntmps20
  go_wp2_with fail
  refine cF.mono ?_
  rintro e w1 ⟨rfl, rfl⟩
  clear cF
  go_wp2_with fail
  go_ret
  exact ⟨rfl, (Below.refl _ w).drew⟩
theorem ThAt.push (h : ThAt w T regs room f st) (hr : (st.length : Int) < room) (r : Int) : Calls Try.prog 20 #[.pointer (some ⟨T.t, 0, none⟩), .int .i64 r] w fun e w' =>
    e = .returned (.int .i64 0) ∧ ∃ T', ThAt w' T' regs room f (st ++ [r]) ∧ ThStep T w T' w' := by
  have cF := h.full false (decide_eq_false (by omega))
  have h1 := h.drew.turn ((Turn.refl (fun _ => False) _).alloc (.cells #[.int .i64 r] 31)) (fun _ _ h => h)
  have c3 := h.c3
  have hdeep := h.deep
  have hnew := (Blk.new w.drew #[.int .i64 r] 31)
  go_enter Try.func20, Try.ntmps20
  go_wp2_with fail
  refine cF.mono ?_
  rintro e w1 ⟨rfl, rfl⟩
  clear cF
  go_wp2_with (at_builtin; refine wpList_pushT rfl _ _ rfl h1.stk (by omega) w.heap.size 1 r (hnew.cell 0) rfl rfl ?_; intro g n cap w2 hR hT hN; have hh := h1.head.turn hT h1.tk; have d3 := hh.cell 3; have z3 := hh.free 3; simp only [List.getElem?_toArray, List.getElem?_cons_zero, List.getElem?_cons_succ] at d3)
  go_ret
  have hset := h1.set.turn hT (fun k e e2 => h1.sk e e2)
  have hN2 : T.vk.ownBlock = some g ∨ w.heap.size ≤ g := by
    rcases hN with e | e
    · exact .inl e
    · exact .inr (by simp at e; omega)
  have hgt : g ≠ T.t := fun e => by
    obtain ⟨_, hb⟩ := hR.own (k := g) rfl
    rw [e] at hb
    exact blkT hb hh (by decide)
  have hS : Turn (fun k => k = T.t) w2 (w2.setCell ⟨T.t, 3, none⟩ (.slice (some ⟨g, 0, none⟩) n cap)) := (Turn.refl _ w2).set _ _ (.inr rfl)
  have hT1 : Turn T.has w w2 := by
    have hA : Turn T.has w (w.alloc (.cells #[.int .i64 r] 31)).drew := ((Turn.refl T.has w).alloc _).drew
    exact hA.trans hT (fun i hi e => .inr (.inr e))
  have htl := h.head.lt
  refine ⟨rfl, ⟨T.t, T.vs, .slice (some ⟨g, 0, none⟩) n cap⟩, ⟨(hh.setAt 3 _).is (by simp), hset.turn hS (fun k e e2 => h.ts (by rw [e, show k = T.t from e2])), hR.turn hS (fun k e e2 => hgt ((own_slice e).trans e2)), h.few, h.low, .inl (by rw [List.length_append]; simp; omega)⟩, ⟨rfl, ?_, ?_⟩⟩
  · rintro k (e | e | e)
    · exact .inl (.inl e)
    · exact .inl (.inr (.inl e))
    · have e3 : g = k := by simpa [Value.ownBlock] using e
      subst e3
      rcases hN2 with e4 | e4
      · exact .inl (.inr (.inr e4))
      · exact .inr e4
  · exact hT1.set _ _ (.inr (.inl rfl))
end
end Go.Proofs.Ytoemfehlnnbjdaa
