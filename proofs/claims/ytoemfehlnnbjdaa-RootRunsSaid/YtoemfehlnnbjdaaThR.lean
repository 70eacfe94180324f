/- Roots: the iterator over a thread's registers and its stack; at this seat's numbers. -/
import Derived.Test.YtoemfehlnnbjdaaThE
import Derived.Test.YtoemfehlnnbjdaaMarks
import Derived.RangeFuncFrom
import Derived.RangeFuncNested
import Derived.LoopIn
import Derived.WalkMore
namespace Go.Proofs.Ytoemfehlnnbjdaa
open Go Go.RowKit Go.Shelf
set_option linter.unusedSimpArgs false
set_option linter.unusedVariables false
attribute [local go_sem] Oper.semAt_some

theorem room_wideT (k : Nat) : Fence.wide.room k := fun d h => by cases h
theorem RoundIn.anyWideT {m m' : Nat} {P : Program} {l : Nat} {f : FuncId} {tmps : Array Value} {assign body : Code} {w : World} {R : Ending → World → Prop}
    (h : RoundIn Fence.wide m P l f tmps assign body w R) : RoundIn Fence.wide m' P l f tmps assign body w R := ⟨h.1, fun c cs _ => h.2 c cs (room_wideT _)⟩
theorem YieldAt.anyWideT {m : Nat} (m' : Nat) {P : Program} {l : Nat} {args : Array Value} {W : World} {R : Ending → World → Prop} (h : YieldAt Fence.wide m P l args W R) : YieldAt Fence.wide m' P l args W R := by
  obtain ⟨fn, tmps, assign, body, hy, hR⟩ := h
  exact ⟨fn, tmps, assign, body, hy, RoundIn.anyWideT hR⟩
theorem abides_belowT {β : Type} {n0 : Nat} {J : β → World → Prop} (hJ : AbidesFrom n0 J) {x : β} {W W' : World} (h : J x W) (hB : Below W.heap.size W W') : J x W' :=
  hJ _ _ _ none h ⟨hB.os, hB.tape, hB.output, hB.size, fun k hk _ => hB.block k hk⟩ (fun r e => by cases e)

/-- What a round over a thread's roots keeps: the thread, the closure's box, and what was laid since. -/
structure KpTh (T : ThB) (B b0 : Nat) (W W' : World) : Prop where
  th : ∀ k, T.has k → W'.heap[k]? = W.heap[k]?
  box : W'.heap[B]? = W.heap[B]?
  late : ∀ (k : Nat) (cs : Array Value), b0 ≤ k → Blk W k cs 67 → Blk W' k cs 67
section
variable {T : ThB} {B b0 : Nat} {regs room : Int} {f : Nat → Int} {st : List Int}
theorem KpTh.trans {A C D : World} (h : KpTh T B b0 A C) (k : KpTh T B b0 C D) : KpTh T B b0 A D :=
  ⟨fun i hi => (k.th i hi).trans (h.th i hi), k.box.trans h.box, fun i cs hb ho => k.late i cs hb (h.late i cs hb ho)⟩
theorem KpTh.putObj {n0 : Nat} (hT : ∀ k, T.has k → k < n0) (hB : B < n0) (W : World) (l : Nat) (o o' : Obj) (h : n0 ≤ l) (ho : W.heap[l]? = some o) (hc : o.isCells = false) : KpTh T B b0 W (W.putObj l o') :=
  ⟨fun k hk => World.putObj_heap_other (by have := hT k hk; omega), World.putObj_heap_other (by omega), fun k cs _ h2 => by
    have hne : k ≠ l := fun e => by subst e; unfold Blk at h2; rw [ho] at h2; cases h2; cases hc
    exact (World.putObj_heap_other (by omega)).trans h2⟩
theorem KpTh.ofBelow {W W' : World} (hT : ∀ k, T.has k → k < W.heap.size) (hB : B < W.heap.size) (h : Below W.heap.size W W') : KpTh T B b0 W W' :=
  ⟨fun k hk => h.block k (hT k hk), h.block B hB, fun k cs _ ho => (h.block k ho.lt).trans ho⟩
theorem ThAt.keep {W W' : World} (h : ThAt W T regs room f st) (k : ∀ k, T.has k → W'.heap[k]? = W.heap[k]?) : ThAt W' T regs room f st := by
  have hb : ∀ {b cs X}, Blk W b cs X → T.has b → Blk W' b cs X := fun {b cs X} hb ht => by unfold Blk at hb ⊢; rw [k b ht]; exact hb
  refine ⟨hb h.head (.inl rfl), ⟨h.set.1, ?_⟩, ⟨h.stk.1, ?_⟩, h.few, h.low, h.fit⟩
  · rcases h.set.2 with e | ⟨g, cap, cur, e, h1, h2, h3⟩
    · exact .inl e
    · exact .inr ⟨g, cap, cur, e, h1, (k g (.inr (.inl (by rw [e]; rfl)))).trans h2, h3⟩
  · rcases h.stk.2 with e | ⟨g, cap, cur, e, h1, h2, h3⟩
    · exact .inl e
    · exact .inr ⟨g, cap, cur, e, h1, (k g (.inr (.inr (by rw [e]; rfl)))).trans h2, h3⟩
end
/-- The registers' roots, and all of them. -/
def regRoots (f : Nat → Int) (n : Nat) : List Int := (segR f 0 n).map Prod.snd
def rootsOf (f : Nat → Int) (n : Nat) (st : List Int) : List Int := regRoots f n ++ st.filter (fun r => r != 0)
theorem segR_pos {f : Nat → Int} {n K : Nat} {p : Nat × Int} (h : (segR f 0 n)[K]? = some p) : p.1 < n ∧ p.2 = f p.1 ∧ (segR f 0 (p.1 + 1)).length = K + 1 := by
  obtain ⟨hK, hg⟩ := List.getElem?_eq_some_iff.1 h
  have hm := segR_mem (List.mem_of_getElem? h)
  have hn : p.1 < n := by omega
  have e1 : (segR f 0 (p.1 + 1)).length = (segR f 0 p.1).length + 1 := by
    show (segR f 0 p.1 ++ oneR f (0 + p.1)).length = _
    rw [List.length_append, Nat.zero_add]
    unfold oneR
    rw [if_neg hm.2.2.2]; rfl
  refine ⟨hn, hm.2.2.1, ?_⟩
  have c1 := segR_cut f (i := p.1) (n := n) (by omega)
  have c2 := segR_cut f (i := p.1 + 1) (n := n) (by omega)
  have h1 : ¬ K < (segR f 0 p.1).length := fun hlt => by have := c1.2.1 K hK hlt; rw [hg] at this; omega
  have h2 : ¬ (segR f 0 (p.1 + 1)).length ≤ K := fun hle => by have := c2.2.2 K hK hle; rw [hg] at this; omega
  omega

set_option maxRecDepth 100000 in
set_option maxHeartbeats 4000000 in
theorem tellRegs_in (n : Nat) {T : ThB} {regs room : Int} {f : Nat → Int} {st : List Int} (B b0 l : Nat) (J Jx : List Int → World → Prop) (W : World) (hb : b0 ≤ W.heap.size) (hJa : AbidesFrom W.heap.size J)
    (hY : ∀ pre (x : Int) W1, J pre W1 → pre.length < 100000 → YieldAt Fence.wide (n - 1) Try.prog l #[.int .i64 x] W1 fun e W' =>
      (e = .returned (.bool true) ∧ J (pre ++ [x]) W' ∧ KpTh T B b0 W1 W') ∨ (e = .returned (.bool false) ∧ Jx (pre ++ [x]) W'))
    (hA : ThAt W T regs room f st) (hB : B < W.heap.size) (h0 : J [] W) :
    CallsIn Fence.wide n Try.prog 38 #[.pointer (some ⟨T.t, 0, none⟩), .func (.yield l) #[] #[]] W fun e W' =>
      (e = .returned (.bool true) ∧ J (regRoots f regs.toNat) W' ∧ KpTh T B b0 W W' ∧ W.heap.size ≤ W'.heap.size) ∨ (e = .returned (.bool false) ∧ ∃ k, k < (regRoots f regs.toNat).length ∧ Jx ((regRoots f regs.toNat).take (k + 1)) W') := by
  have hTl := hA.lt
  have hseg := hA.seg
  refine callsIn_of_wp Try.func38 rfl (by trivial) ?_ rfl
  simp only [Try.ntmps38, List.size_toArray, List.length_cons, List.length_nil, Nat.reduceAdd, Nat.reduceSub, Array.replicate_succ, Array.replicate_zero, List.push_toArray, List.append_toArray, List.nil_append, List.cons_append]
  gi_wp2_with fail
  gi_loopw [5] (fun v5 wr => ∃ K : Nat, v5 = .int .i64 (K : Int) ∧ K ≤ (segR f 0 regs.toNat).length ∧ J ((regRoots f regs.toNat).take K) wr ∧ KpTh T B b0 W wr ∧ W.heap.size ≤ wr.heap.size) (fun v5 _ => (segR f 0 regs.toNat).length - (intOf v5).toNat)
  case atStart => exact ⟨0, rfl, Nat.zero_le _, h0, ⟨fun _ _ => rfl, rfl, fun _ _ _ h => h⟩, Nat.le_refl _⟩
  case round =>
    obtain ⟨K, rfl, hK, hJ, hkp, hsz⟩ := hrel
    have hA1 := hA.keep hkp.th
    have hlen := hA1.set.lenRun
    have c1 := hA1.c1
    by_cases hlt : K < (segR f 0 regs.toNat).length
    · obtain ⟨p, hp⟩ : ∃ p, (segR f 0 regs.toNat)[K]? = some p := ⟨_, List.getElem?_eq_getElem hlt⟩
      obtain ⟨q1, q2, q3⟩ := segR_pos hp
      rcases hA1.set.is with ⟨_, e⟩ | ⟨g, cap, cur, hvs, hg, hlc, hcm, hcs, hcl⟩
      · rw [e] at hlt; exact absurd hlt (Nat.not_lt_zero _)
      · obtain ⟨d0, d1⟩ := hcl K p hp
        have hKI : (K : Int) < ((segR f 0 regs.toNat).length : Int) := by omega
        have hK0 : (0 : Int) ≤ (K : Int) := by omega
        have hreg : (regRoots f regs.toNat).take (K + 1) = (regRoots f regs.toNat).take K ++ [p.2] := by
          unfold regRoots
          rw [← List.map_take, ← List.map_take, List.take_add_one, hp]
          simp
        have hgl := hg.lt
        rw [hvs] at c1 hlen
        have hJ4 : J ((regRoots f regs.toNat).take K) (wr.alloc (.cells #[.int .i64 (p.1 : Int), .int .i64 p.2] 67)) := abides_belowT hJa hJ ((Below.refl _ wr).alloc (Nat.le_refl _) _)
        have hA4 := hA1.below ((Below.refl _ wr).alloc (Nat.le_refl _) (.cells #[.int .i64 (p.1 : Int), .int .i64 p.2] 67))
        have hkp4 : KpTh T B b0 wr (wr.alloc (.cells #[.int .i64 (p.1 : Int), .int .i64 p.2] 67)) := KpTh.ofBelow hA1.lt (by omega) ((Below.refl _ wr).alloc (Nat.le_refl _) _)
        have hnb := Blk.new wr #[.int .i64 (p.1 : Int), .int .i64 p.2] 67
        have hs4 : (wr.alloc (.cells #[.int .i64 (p.1 : Int), .int .i64 p.2] 67)).heap.size = wr.heap.size + 1 := by simp
        have hlen4 : ((regRoots f regs.toNat).take K).length < 100000 := by rw [List.length_take]; omega
        obtain ⟨fn, tmps, assign, body, hy, hY2⟩ := hY _ p.2 _ hJ4 hlen4
        rw [← hreg] at hY2
        have hkl : K < (regRoots f regs.toNat).length := by unfold regRoots; rw [List.length_map]; exact hlt
        have hp1 : (p.1 : Int) ≤ 5000 := by have := hA.few; omega
        have HKP := Lib.hid hkp4
        have HA4 := Lib.hid hA4
        have HS4 := Lib.hid hs4
        have HNB := Lib.hid hnb
        have HK0 := Lib.hid hkp
        have Q1 := Lib.hid q1
        have Q3 := Lib.hid q3
        have HSZ := Lib.hid hsz
        clear hcl hcs hp hreg hJ hJ4 hA4 hkp4 hnb hs4 hlen4 hkp hA1 q1 q2 q3 hsz hg hlc hcm
        gi_wp2_with fail
        refine ⟨fun h => (by cases h), ?_⟩
        refine hY2.mono ?_
        rintro e W3 (⟨rfl, hJ3, hk3⟩ | ⟨rfl, hJx3⟩)
        · have hA3 := HA4.out.keep hk3.th
          have hs4 := HS4.out
          have hsz := HSZ.out
          have hnb3 : Blk W3 wr.heap.size #[.int .i64 (p.1 : Int), .int .i64 p.2] 67 := hk3.late _ _ (by omega) HNB.out
          have d3 := hnb3.cell 0
          have hl3 := hnb3.lt
          simp only [List.getElem?_toArray, List.getElem?_cons_zero] at d3
          have cF := hA3.find (p.1 + 1) Q1.out _ rfl
          rw [Q3.out, show (((p.1 + 1 : Nat)) : Int) = (p.1 : Int) + 1 by omega, show (((K + 1 : Nat)) : Int) = (K : Int) + 1 by omega] at cF
          have hkpW3 := (HK0.out.trans HKP.out).trans hk3
          have hTl3 : ∀ k, T.has k → k < W3.heap.size := hA3.lt
          generalize (decide (p.1 + 1 < regs.toNat) && !decide (f (p.1 + 1) = 0)) = qq at cF
          have HKW := Lib.hid hkpW3
          clear hnb3 hk3 hA3 hy hY2 d0 d1 c1 hlen hs4 hkpW3
          gi_wp2_with fail
          refine ⟨trivial, fun h => (by cases h), ?_⟩
          refine (callsIn_wide.2 cF).mono ?_
          rintro e W4 ⟨rfl, hB4⟩
          have hs44 := hB4.size
          have hJ5 := abides_belowT hJa hJ3 hB4
          have hk5 := HKW.out.trans (KpTh.ofBelow (b0 := b0) (B := B) hTl3 (by omega) hB4)
          have HJ5 := Lib.hid hJ5
          have HK5 := Lib.hid hk5
          clear cF d3 hJ3 hJ5 hk5
          gi_wp2_with fail
          go_roundw
          case rel => exact ⟨K + 1, by go_num, hlt, HJ5.out, HK5.out, by omega⟩
          case measure => simp [intOf]; omega
        · gi_wp2_with fail
          go_ret
          exact .inr ⟨rfl, K, hkl, hJx3⟩
    · obtain rfl : K = (segR f 0 regs.toNat).length := by omega
      have hall : (regRoots f regs.toNat).take (segR f 0 regs.toNat).length = regRoots f regs.toNat := List.take_of_length_le (by unfold regRoots; rw [List.length_map]; exact Nat.le_refl _)
      rw [hall] at hJ
      rcases hA1.set.is with ⟨e1, e2⟩ | ⟨g, cap, cur, hvs, hg, hlc, hcm, hcs, hcl⟩
      · rw [e1] at c1 hlen
        rw [e2] at hlen ⊢
        clear hA1 e1 e2 hall hK hlt
        gi_wp2_with fail
        go_ret
        exact .inl ⟨rfl, hJ, hkp, hsz⟩
      · rw [hvs] at c1 hlen
        clear hA1 hvs hall hK hlt hcl hcs
        gi_wp2_with fail
        go_ret
        exact .inl ⟨rfl, hJ, hkp, hsz⟩
end Go.Proofs.Ytoemfehlnnbjdaa
