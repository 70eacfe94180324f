/- CardAgain, walked, at this seat's numbers. -/
import Derived.Test.YtfipflghnhfcjaaDoorCdL
import Derived.Test.YtfipflghnhfcjaaDoorBinW
namespace Go.Proofs.YtfipflghnhfcjaaDoor
open Go Go.RowKit Go.Shelf Go.MuLone Go.RwLone
set_option linter.unusedSimpArgs false
set_option linter.unusedVariables false
attribute [local go_sem] Oper.semAt_some

theorem card_cnt_elems2 (S : Nat → Bool) : ∀ m, (elems S m).length = cnt S 0 m
  | 0 => rfl
  | m + 1 => by
    have e := cnt_add S m 0 1
    rw [e, ← card_cnt_elems2 S m]
    unfold elems
    rw [List.range_succ, List.filter_append, List.length_append]
    congr 1
    cases h : S m <;> simp [cnt, h]
theorem elems_card2 (S : Nat → Bool) (m : Nat) (hm : m ≤ 4096) (h : ∀ j, S j = true → j < m) : (elems S m).length = card S := by
  rw [card_cnt_elems2]
  unfold card
  have e := cnt_add S m 0 (4096 - m)
  rw [show m + (4096 - m) = 4096 by omega] at e
  rw [e, cnt_none S (4096 - m) (0 + m) (fun j _ => by
    cases hj : S (0 + m + j) with
    | false => rfl
    | true => have := h _ hj; omega)]
  rfl
/-- A page gets dirty, in a table whose leaf is laid. -/
theorem CardIn.dirtyK {B : Nat} {X : ArB} {C : CdB} {s : ArS} {S : Nat → Bool} {wb wr : World} (h : CardIn B X C s S wb wr) (hl : C.lo ≠ none) (p : Nat) (hp : p < s.P) : Calls Tryd.prog 33 #[.pointer (some ⟨C.t, 0, none⟩), .int .i64 (32 * (p : Int) + 1)] wr fun e w' =>
    e = .returned (.bool true) ∧ SetAt w' C.b C.lo s.P (fun j => S j || decide (j = p)) ∧ Turn (fun k => k = C.b ∨ C.lo = some k) wr w' := by
  have c0 := h.cd.c0
  have c1 := h.cd.c1
  have hp6 := h.ar.p64
  have cP := page_yes h.ar (32 * p + 1) (by omega) (by omega)
  have hpgI : ¬ ((p : Nat) : Int) < 0 := by omega
  have epg : pg (32 * p + 1) = p := by unfold pg; omega
  rw [epg, show (((32 * p + 1 : Nat)) : Int) = 32 * (p : Int) + 1 by omega] at cP
  have cS := put_x C.b C.lo s.P S ((p : Nat) : Int) wr h.cd.set
  have hSS : putS s.P S ((p : Nat) : Int) = fun j => S j || decide (j = p) := by
    funext j
    unfold putS may
    rw [decide_eq_true (by omega : (0 : Int) ≤ ((p : Nat) : Int)), decide_eq_true (by omega : ((p : Nat) : Int) < (s.P : Int)), Int.toNat_natCast]
    simp
  rw [hSS] at cS
  clear hSS epg hp
  go_enter Tryd.func33, Tryd.ntmps33
  go_wp2_with fail
  refine cP.mono ?_
  rintro e w1 ⟨rfl, rfl⟩
  clear cP
  go_wp2_with fail
  refine cS.mono ?_
  rintro e w2 ⟨lo', rfl, hS, hlo, hT⟩
  clear cS
  obtain rfl : lo' = C.lo := by
    rcases hlo with e | ⟨e, _⟩
    · exact e
    · exact absurd e hl
  go_wp2_with fail
  go_ret
  exact ⟨rfl, hS, hT⟩
/-- Between two pages that get dirty. -/
def DyRel (B : Nat) (X : ArB) (C : CdB) (bt : Nat) (wb : World) (len : Nat) (v : Value) (wr : World) : Prop :=
  ∃ (i : Nat) (lo : Option Nat) (S : Nat → Bool), i ≤ len ∧ v = .int .i64 (i : Int) ∧ CardIn B X (C.with lo) (.new 8) S wb wr ∧ Blk wr bt #[.pointer (some ⟨C.t, 0, none⟩)] 65

/-- Between two pages told: the pages that are dirty, and those that were put back, are as many as there were and weren't told yet. -/
def AgI (B : Nat) (X : ArB) (C : CdB) (wb : World) (bt bk bl n z len : Nat) (V : World) : Prop :=
  ∃ (S' : Nat → Bool) (k : Nat), TkAt B X C (.new 8) S' wb bt bk bl k ((n : Int) - (len : Nat)) V ∧ card S' + len = n + k ∧ z ≤ V.heap.size
def AgM (B : Nat) (X : ArB) (C : CdB) (wb : World) (bt bk bl n z len x : Nat) (V : World) : Prop :=
  x < 8 ∧ C.lo ≠ none ∧ ∃ (S' : Nat → Bool) (k : Nat), TkAt B X C (.new 8) S' wb bt bk bl k ((n : Int) - (len : Nat)) V ∧ S' x = false ∧ card S' + (len + 1) = n + k ∧ z ≤ V.heap.size

structure AgH (p : Prop) : Prop where
  out : p
def AgG (z : Nat) (O : Nat → Prop) (C : CdB) (bk x : Nat) (V : World) (I : World → Prop) (W' : World) : Prop := ∃ O', Owned z O O' V W' ∧ KpTk C (bk + 1) 8 x V W' ∧ I W'

set_option maxRecDepth 100000 in
set_option maxHeartbeats 8000000 in
theorem again_true (a0 : Option Addr) (ys : List Int) (cap : Nat) (lv : Nat) (hlv : lv < 256) (w : World) (_ : ys.length ≤ 9223372036854775807) (hZ : U8sAt w a0 ys) (hTab : TabAt w) :
    Calls Tryd.prog 7 #[.slice a0 ys.length cap, .int .u8 (lv : Int)] w fun e w' => e = .returned (.bool true) ∧ Below w.heap.size w w' := by
  have HZ := Lib.hid hZ
  clear hZ
  obtain ⟨M, hM6⟩ : ∃ M : Nat, 8 ≤ M := ⟨8, Nat.le_refl _⟩
  refine calls_of_wp_marks Tryd.func7 rfl M ?_
  simp only [Tryd.ntmps7, List.size_toArray, List.length_cons, List.length_nil, Nat.reduceAdd, Nat.reduceSub, Array.replicate_succ, Array.replicate_zero, List.push_toArray, List.append_toArray, List.nil_append, List.cons_append]
  gi_wp2_with fail
  refine ⟨trivial, fun h => (by cases h), ?_⟩
  have hL0 := (Blk.new w #[.int .u8 (lv : Int)] 5).alloc (.cells #[.bool false] 4)
  have hR := Blk.new (w.alloc (.cells #[.int .u8 (lv : Int)] 5)) #[.bool false] 4
  simp only [World.size_alloc] at hR
  have hBb := ((Below.refl w.heap.size w).alloc (Nat.le_refl _) (.cells #[.int .u8 (lv : Int)] 5)).alloc (by simp) (.cells #[.bool false] 4)
  have hDb : TabAt ((w.alloc (.cells #[.int .u8 (lv : Int)] 5)).alloc (.cells #[.bool false] 4)) := fun j hj => cell_allocKeep (cell_allocKeep (hTab j hj) _) _
  have hsb : ((w.alloc (.cells #[.int .u8 (lv : Int)] 5)).alloc (.cells #[.bool false] 4)).heap.size = w.heap.size + 2 := by simp
  have hgd := hTab.lt
  generalize (w.alloc (.cells #[.int .u8 (lv : Int)] 5)).alloc (.cells #[.bool false] 4) = wb at *
  refine (callsIn_wide.2 (cdfit_true wb)).mono ?_
  rintro e w1 ⟨rfl, hB⟩
  have hR1 : w1.cell? ⟨w.heap.size + 1, 0, none⟩ = some (.bool false) := (hB.cell (p := ⟨w.heap.size + 1, 0, none⟩) hR.lt).trans (hR.cell 0)
  have hZ1 : w1.frozen? ⟨w.heap.size + 1, 0, none⟩ = false := (hB.frozen (p := ⟨w.heap.size + 1, 0, none⟩) hR.lt).trans (hR.free 0)
  by_cases hbig : 60 < (ys.length : Int)
  · gi_wp2_with fail
    refine ⟨.bool true, ?_, rfl, (hBb.trans (hB.mono (by omega))).setCell (p := ⟨w.heap.size + 1, 0, none⟩) (by show w.heap.size ≤ w.heap.size + 1; omega) (.bool true)⟩
    have hc := World.cell?_setCell_same w1 ⟨w.heap.size + 1, 0, none⟩ (.bool true) hR1
    simp [results, Tryd.f7, go_sem, hc]
  clear hR1 hZ1
  gi_wp2_with fail
  refine ⟨trivial, fun h => (by cases h), ?_⟩
  refine (callsIn_wide.2 (ar_new 8 8 (by decide) w1)).mono ?_
  rintro e w2 ⟨X, rfl, hA, hX, hB2⟩
  gi_wp2_with fail
  refine ⟨trivial, fun h => (by cases h), ?_⟩
  have hs1 := hB.size
  refine (callsIn_wide.2 (cdNew (B := wb.heap.size) (wb := wb) hA (fun k hk => by have := hX k hk; omega) (hB.trans (hB2.mono hs1)) (Nat.le_refl _))).mono ?_
  rintro e w3 ⟨C, rfl, h3, _, _⟩
  clear hA hX hB hB2
  have h4 := h3.alloc (.cells #[.pointer (some ⟨C.t, 0, none⟩)] 65)
  have hb4 := Blk.new w3 #[.pointer (some ⟨C.t, 0, none⟩)] 65
  clear h3
  gi_wp2_with fail
  generalize w3.alloc (.cells #[.pointer (some ⟨C.t, 0, none⟩)] 65) = w4 at *
  generalize w3.heap.size = bt at *
  gi_loopw [20] (fun v20 wr => DyRel wb.heap.size X C bt wb ys.length v20 wr) (fun v20 _ => ys.length - (intOf v20).toNat)
  case atStart => exact ⟨0, C.lo, _, Nat.zero_le _, rfl, h4, hb4⟩
  case round =>
    clear h4 hb4
    obtain ⟨i, lo, S, hi, rfl, h1, hb⟩ := hrel
    have hc := hb.cell 0
    simp only [List.getElem?_toArray, List.getElem?_cons_zero] at hc
    have hi0 : (0 : Int) ≤ (i : Int) := by omega
    by_cases hlt : i < ys.length
    · have hi1 : (i : Int) < (ys.length : Int) := by omega
      obtain ⟨bk, off, rfl, hbk, hc0, hwy⟩ := HZ.out i hlt
      replace hc0 := ((hBb.trans (h1.below.mono (by omega))).cell (p := ⟨bk, off + i, none⟩) hbk).trans hc0
      obtain ⟨n, hn, hn256⟩ := u8_natC hwy
      rw [hn] at hc0
      have cD := h1.dirty ((n : Int) + 1) true (decide_eq_true ⟨by omega, by show (n : Int) + 1 ≤ 32 * ((8 : Nat) : Int); omega⟩)
      have hfar := h1.far hb (by decide) (by decide) (by decide)
      have hn0 : (0 : Int) ≤ (n : Int) := by omega
      have hn1 : (n : Int) ≤ 255 := by omega
      generalize dirtyS (ArS.new 8).P S ((n : Int) + 1) = S2 at *
      clear hn hwy
      gi_wp2_with fail
      refine ⟨trivial, fun h => (by cases h), ?_⟩
      refine (callsIn_wide.2 cD).mono ?_
      rintro e w5 ⟨rfl, lo5, h5, k5⟩
      have hb5 := hb.turn k5 hfar
      clear cD hc0 hc hb k5 hfar h1
      gi_wp2_with fail
      go_roundw
      case rel => exact ⟨i + 1, _, S2, by omega, by go_num, h5, hb5⟩
      case measure => simp [intOf]; omega
    · obtain rfl : i = ys.length := by omega
      obtain ⟨C2, hC2, ht2⟩ : ∃ C2, C2 = C.with lo ∧ C2.t = C.t := ⟨_, rfl, rfl⟩
      rw [← hC2] at h1
      rw [← ht2] at hb hc
      have c0 := h1.cd.c0
      clear ht2 hC2
      obtain ⟨n, hn⟩ : ∃ n, card S = n := ⟨_, rfl⟩
      have hn8 : n ≤ 4096 := by rw [← hn]; exact cnt_le S 4096 0
      have hbl := hb.lt

      have hlt0 : ∀ k, X.has k → k < wr.heap.size := h1.ar.lt
      have hcl0 : ∀ k, C2.has k → k < wr.heap.size := h1.cd.lt
      have hco := h1.own
      have hm8 : ∀ j, S j = true → j < 8 := h1.cd.set.2.1
      have HE : Hid ((elems S 8).length = n) := Lib.hid (by rw [← hn]; exact elems_card2 S 8 (by decide) hm8)
      have HN := Lib.hid hn
      have HM8 := Lib.hid hm8
      clear hn hm8
      gi_wp2_with fail
      refine ⟨trivial, fun h => (by cases h), ?_⟩
      refine (callsIn_wide.2 (h1.count n HN.out)).mono ?_
      rintro e w5 ⟨rfl, h5, hB5⟩
      have hb5 := hb.below hB5
      have hc5 := hb5.cell 0
      simp only [List.getElem?_toArray, List.getElem?_cons_zero] at hc5
      have hsz5 := hB5.size
      have hT6 : TkAt wb.heap.size X C2 (.new 8) S wb bt (w5.heap.size + 1) w5.heap.size 0 (n : Int) ((w5.alloc (.cells #[.int .i64 (n : Int)] 3)).alloc (.cells #[.int .i64 0] 3)) :=
        ⟨(h5.alloc _).alloc _, (hb5.alloc _).alloc _, by
          have := Blk.new (w5.alloc (.cells #[.int .i64 (n : Int)] 3)) #[.int .i64 0] 3
          simp only [World.size_alloc] at this
          exact this, (Blk.new w5 _ _).alloc _⟩
      have hT7 := hT6.ask ((Below.refl _ ((w5.alloc (.cells #[.int .i64 (n : Int)] 3)).alloc (.cells #[.int .i64 0] 3))).alloc (Nat.le_refl _) (.cells #[.pointer (some ⟨C2.t, 0, none⟩)] 65))
      have hbox7 : (((w5.alloc (.cells #[.int .i64 (n : Int)] 3)).alloc (.cells #[.int .i64 0] 3)).alloc (.cells #[.pointer (some ⟨C2.t, 0, none⟩)] 65)).cell? ⟨((w5.alloc (.cells #[.int .i64 (n : Int)] 3)).alloc (.cells #[.int .i64 0] 3)).heap.size, 0, none⟩ = some (.pointer (some ⟨C2.t, 0, none⟩)) := (Blk.new ((w5.alloc (.cells #[.int .i64 (n : Int)] 3)).alloc (.cells #[.int .i64 0] 3)) _ _).cell 0
      have hs6 : ((w5.alloc (.cells #[.int .i64 (n : Int)] 3)).alloc (.cells #[.int .i64 0] 3)).heap.size = w5.heap.size + 2 := by simp
      have hs7 : w5.heap.size + 3 ≤ (((w5.alloc (.cells #[.int .i64 (n : Int)] 3)).alloc (.cells #[.int .i64 0] 3)).alloc (.cells #[.pointer (some ⟨C2.t, 0, none⟩)] 65)).heap.size := by simp
      have hsB := h5.size
      rw [hs6] at hbox7
      have hbl5 := hb5.lt
      have HT7 := Lib.hid hT7
      have HBX := Lib.hid hbox7
      clear h1 hb hc c0 h5 hb5 hT6 hs6 hB5 hT7 hbox7
      gi_wp2_with fail
      refine ⟨trivial, fun h => (by cases h), ?_⟩
      refine (callsIn_wide.2 (takefn_any C2.t _)).mono ?_
      rintro e w' ⟨rfl, rfl⟩
      clear hc5
      gi_wp2_with fail
      have hT7 := HT7.out
      have hbox7 := HBX.out
      clear HT7 HBX
      generalize (((w5.alloc (.cells #[.int .i64 (n : Int)] 3)).alloc (.cells #[.int .i64 0] 3)).alloc (.cells #[.pointer (some ⟨C2.t, 0, none⟩)] 65)) = V7 at *
      have hXlt7 : ∀ k, X.has k → k < V7.heap.size := fun k hk => by have := hlt0 k hk; omega
      have hClt7 : ∀ k, C2.has k → k < V7.heap.size := fun k hk => by have := hcl0 k hk; omega
      have hXltb : ∀ k, X.has k → k < w5.heap.size := fun k hk => by have := hlt0 k hk; omega
      have hCltb : ∀ k, C2.has k → k < w5.heap.size := fun k hk => by have := hcl0 k hk; omega
      have hB7 : wb.heap.size ≤ V7.heap.size := by omega
      generalize w5.heap.size = bl at *
      generalize hbk : bl + 1 = bk at *
      replace hbox7 : V7.cell? ⟨bk + 1, 0, none⟩ = some (.pointer (some ⟨C2.t, 0, none⟩)) := by rw [← hbk]; exact hbox7
      have hD7 : TabAt V7 := fun j hj => (hT7.card.below.cell (p := ⟨1, j, none⟩) (by show (1 : Nat) < _; omega)).trans (hDb j hj)
      have hBn7 : ¬ C2.has (bk + 1) := fun h => by have := hCltb _ h; omega
      have htn7 : ¬ C2.has 1 := fun h => by have := hco _ h; omega
      have hbln : ¬ X.has bl := fun h => by have := hXltb _ h; omega
      have hbkn : ¬ X.has bk := fun h => by have := hXltb _ h; omega
      have hbtb : bt < bl := hbl5
      have hc7 : card S + ([] : List (Fin 4096)).length = n + 0 := by rw [List.length_nil, Nat.add_zero, Nat.add_zero]; exact HN.out
      have hT7' : TkAt wb.heap.size X C2 (.new 8) S wb bt bk bl 0 ((n : Int) - (([] : List (Fin 4096)).length : Nat)) V7 := by rw [List.length_nil]; simpa using hT7
      have HBK := Lib.hid hbk
      have HC7 := Lib.hid hc7
      have hlv8 := hlv
      have hsb2 : w.heap.size + 2 ≤ wb.heap.size := by omega
      have hsb3 : wb.heap.size ≤ w.heap.size + 2 := by omega
      clear hsb hc7
      refine wpIn_rangeE rfl (by omega) (gf := 61) (lb := #[.pointer (some ⟨bk + 1, 0, none⟩)]) rfl trivial (enters_of Tryd.func61 (by kernel_rfl) rfl)
        (take_seq (M - 1) (by omega) (xa := X.a) (bk + 1) V7 hT7.card.cd hD7 hbox7 hBn7 htn7) KpTk.trans (fun x V l o hl => KpTk.putObj (n0 := V7.heap.size) hClt7 (by omega) (by omega) V l o hl)
        (fun x A D ⟨S1, _, _, _, _, hT⟩ => ⟨hT.size, fun k hk hlt => hT.block k hlt (by rintro (e | e); have := hClt7 k (.inr (.inl e)); omega; have := hClt7 k (.inr (.inr e)); omega)⟩) (Below.refl _ _) (fun _ => rfl)
        (fun (st : List (Fin 4096) × (Nat → Prop)) V => AgI wb.heap.size X C2 wb bt bk bl n V7.heap.size st.1.length V)
        (fun (st : (List (Fin 4096) × (Nat → Prop)) × Fin 4096) V => AgM wb.heap.size X C2 wb bt bk bl n V7.heap.size st.1.1.length st.2.val V)
        (fun c (st : List (Fin 4096) × (Nat → Prop)) V => n < st.1.length)
        (fun st V V' row hs hg hr => by
          obtain ⟨S', k, h1, h2, h3⟩ := hs
          exact ⟨S', k, h1.grow V7.heap.size hXlt7 hClt7 hB7 hg hr, h2, Nat.le_trans h3 hg.size⟩)
        (fun st V V' row hs hg hr => by
          obtain ⟨h8, hl, S', k, h1, h0, h2, h3⟩ := hs
          exact ⟨h8, hl, S', k, h1.grow V7.heap.size hXlt7 hClt7 hB7 hg hr, h0, h2, Nat.le_trans h3 hg.size⟩)
        (fun c st V V' row hs hg hr => hs)
        (fun pre O x A D hi ha => by
          obtain ⟨S', k, h1, h2, h3⟩ := hi
          obtain ⟨S1, k1, k2, k3, k4, k5⟩ := ha
          have e := h1.card.cd.set.uniq k1
          subst e
          have hT := h1.drop k4 k5
          refine ⟨k3, fun e => ?_, _, k, hT, by simp [dropN1], ?_, Nat.le_trans h3 k5.size⟩
          · have g2 := k1.2.2
            rw [e] at g2
            have g3 := g2.2 x.val
            rw [k2] at g3; cases g3
          · have hc : card S' = card (dropN1 S' x.val) + 1 := card_drop S' x.val x.isLt k2
            have h2' : card S' + pre.length = n + k := h2
            show card (dropN1 S' x.val) + (pre.length + 1) = n + k
            rw [hc] at h2'
            rw [← h2', Nat.add_assoc, Nat.add_comm 1 pre.length])
        ⟨S, 0, hT7', HC7.out, Nat.le_refl _⟩ ?aA ?assignA ?bodyA ?doneA ?stopA
      case assignA =>
        intro l0 x V K hK
        gi_wp2
        exact hK
      case bodyA =>
        rintro l0 pre O x V ⟨hx8, hlo, S1, k, hT, hSx, hcd, hVs⟩ hpl
        replace hcd : card S1 + (pre.length + 1) = n + k := hcd
        replace hx8 : x.val < 8 := hx8
        replace hT : TkAt wb.heap.size X C2 (.new 8) S1 wb bt bk bl k ((n : Int) - (pre.length : Nat)) V := hT
        replace hVs : V7.heap.size ≤ V.heap.size := hVs
        have ck := hT.kb.cell 0
        have cl := hT.lb.cell 0
        have ct := hT.tb.cell 0
        have zk := hT.kb.free 0
        have zl := hT.lb.free 0
        simp only [List.getElem?_toArray, List.getElem?_cons_zero] at ck cl ct
        have hLV : V.cell? ⟨w.heap.size, 0, none⟩ = some (.int .u8 (lv : Int)) := (hT.card.below.cell (p := ⟨w.heap.size, 0, none⟩) hL0.lt).trans (hL0.cell 0)
        have hRW : V.cell? ⟨w.heap.size + 1, 0, none⟩ = some (.bool false) := (hT.card.below.cell (p := ⟨w.heap.size + 1, 0, none⟩) hR.lt).trans (hR.cell 0)
        have hZW : V.frozen? ⟨w.heap.size + 1, 0, none⟩ = false := (hT.card.below.frozen (p := ⟨w.heap.size + 1, 0, none⟩) hR.lt).trans (hR.free 0)
        have hbkl : bk ≠ bl := by omega
        have hc4 : card S1 ≤ 4096 := cnt_le S1 4096 0
        obtain ⟨cS, hcS⟩ : ∃ cS, card S1 = cS := ⟨_, rfl⟩
        rw [hcS] at hcd hc4
        have HCS := Lib.hid hcS
        clear hcS
        have hpl8 : pre.length < 8 := hpl
        have hk1 : (k : Int) ≤ 100000 := by omega
        have hx0 : (0 : Int) ≤ ((x.val : Nat) : Int) := by omega
        have hx7 : ((x.val : Nat) : Int) < 8 := by omega
        obtain ⟨r, hr⟩ : ∃ r : Int, (n : Int) - (pre.length : Nat) = r := ⟨_, rfl⟩
        have hr1 : -8 ≤ r := by omega
        have hr2 : r ≤ 4096 := by omega
        rw [hr] at hT cl
        have HR := Lib.hid hr
        have HCD := Lib.hid hcd
        have HSX := Lib.hid hSx
        have HLO := Lib.hid hlo
        clear hr hcd hc4 hpl hlo hSx hlv8
        obtain ⟨z, hz⟩ : ∃ z : Int, (lv : Int) / 2 ^ x.val = z := ⟨_, rfl⟩
        have hshr := fun (W : World) (T : TypeId) => run_shr_u8 (P := Tryd.prog) W T lv x.val (by omega) z hz
        obtain ⟨z2, hz2⟩ : ∃ z2, bits .and .u8 z 1 = z2 := ⟨_, rfl⟩
        have hand := fun (W : World) (T : TypeId) => run_and_u8 (P := Tryd.prog) W T z 1 z2 hz2
        obtain ⟨bq, hbq⟩ : ∃ bq, (z2 == 1) = bq := ⟨_, rfl⟩
        have hclt := hT.card.cd.lt
        clear hz hz2
        have fin_ : ∀ (V4 : World) (S4 : Nat → Bool) (k4 : Nat), TkAt wb.heap.size X C2 (.new 8) S4 wb bt bk bl k4 r V4 → (∀ i, x.val < i → S4 i = S1 i) → cS + (pre.length + 1) + (k4 - k) = n + k4 → k ≤ k4 → card S4 = cS + (k4 - k) → Turn (fun j => j = C2.b ∨ C2.lo = some j ∨ j = bk) V V4 →
            (∃ O', Owned V7.heap.size O O' V (V4.setCell ⟨bl, 0, none⟩ (.int .i64 (r - 1))) ∧ KpTk C2 (bk + 1) 8 x.val V (V4.setCell ⟨bl, 0, none⟩ (.int .i64 (r - 1))) ∧ AgI wb.heap.size X C2 wb bt bk bl n V7.heap.size (pre ++ [x]).length (V4.setCell ⟨bl, 0, none⟩ (.int .i64 (r - 1)))) ∧
            Turn (fun j => j = C2.b ∨ C2.lo = some j ∨ j = bk ∨ j = bl) V (V4.setCell ⟨bl, 0, none⟩ (.int .i64 (r - 1))) := fun V4 S4 k4 hT4 hS4 hcd4 hkk hc4 hTn => by
          have hT5 := hT4.setL hbln (by omega) hbkl (r - 1)
          have hTt : Turn (fun j => j = C2.b ∨ C2.lo = some j ∨ j = bk ∨ j = bl) V (V4.setCell ⟨bl, 0, none⟩ (.int .i64 (r - 1))) := (hTn.mono fun j _ e => by rcases e with e | e | e; exact .inl e; exact .inr (.inl e); exact .inr (.inr (.inl e))).set _ _ (.inr (.inr (.inr (.inr rfl))))
          have hlow : ∀ j, (j = C2.b ∨ C2.lo = some j ∨ j = bk ∨ j = bl) → j < bk + 1 := by
            rintro j (e | e | e | e)
            · have := hCltb _ (.inr (.inl e)); omega
            · have := hCltb _ (.inr (.inr e)); omega
            · omega
            · omega
          refine ⟨⟨O, Owned.ofTurn hTt (fun j e => by have := hlow j e; omega), ⟨⟨fun S0 h0 => ?_, hTt.block _ (by omega) (fun e => by have := hlow _ e; omega), hTt.block _ (by omega) (fun e => ?_)⟩, hTt.block _ (hclt _ (.inl rfl)) (fun e => ?_)⟩, S4, k4, ?_, ?_, Nat.le_trans hVs hTt.size⟩, hTt⟩
          · have e0 := hT.card.cd.set.uniq h0
            subst e0
            exact ⟨S4, hT5.card.cd.set, hS4⟩
          · rcases e with e | e | e | e
            · exact htn7 (.inr (.inl e))
            · exact htn7 (.inr (.inr e))
            · omega
            · omega
          · rcases e with e | e | e | e
            · exact hT.card.cd.tb e
            · exact hT.card.cd.tl e
            · have := hCltb _ (.inl rfl); omega
            · have := hCltb _ (.inl rfl); omega
          · have e1 : (n : Int) - (((pre ++ [x]).length : Nat) : Int) = r - 1 := by have := HR.out; rw [List.length_append]; simp only [List.length_singleton]; omega
            rw [e1]; exact hT5
          · rw [List.length_append, List.length_singleton, hc4]; omega
        have HF := Lib.hid fin_
        clear fin_
        have hlow : ∀ j, ((j = C2.b ∨ C2.lo = some j ∨ j = bk ∨ j = bl) ∨ j = w.heap.size + 1) → j < V7.heap.size := by
          rintro j ((e | e | e | e) | e)
          · have := hCltb _ (.inr (.inl e)); omega
          · have := hCltb _ (.inr (.inr e)); omega
          · omega
          · omega
          · omega
        by_cases hneg : r - 1 < 0
        · have hdec : decide (r - 1 < 0) = true := decide_eq_true hneg
          have hbad : n < (pre ++ [x]).length := by have := HR.out; rw [List.length_append, List.length_singleton]; omega
          cases bq
          · have h4 := HF.out V S1 k hT (fun _ _ => rfl) (by have := HCD.out; omega) (Nat.le_refl _) (by rw [HCS.out]; omega) (Turn.refl _ _)
            have cl5 : (V.setCell ⟨bl, 0, none⟩ (.int .i64 (r - 1))).cell? ⟨bl, 0, none⟩ = some (.int .i64 (r - 1)) := World.cell?_setCell_same V _ _ cl
            have hRW5 : (V.setCell ⟨bl, 0, none⟩ (.int .i64 (r - 1))).cell? ⟨w.heap.size + 1, 0, none⟩ = some (.bool false) := cell_setBlock hRW (by show w.heap.size + 1 ≠ bl; omega)
            have H4 := Lib.hid h4.2
            clear h4 hT HF
            gi_wp2_with (first | (refine wpListIn_bin rfl .shr _ _ _ _ rfl _ _ rfl rfl rfl (hshr _ _) ?_) | (refine wpListIn_bin rfl .and _ _ _ _ rfl _ _ rfl rfl rfl (hand _ _) ?_))
            exact ⟨O, Owned.ofTurn ((H4.out.mono fun j _ e => (.inl e : (j = C2.b ∨ C2.lo = some j ∨ j = bk ∨ j = bl) ∨ j = w.heap.size + 1)).set _ _ (.inr (.inr rfl))) (fun j e => hlow j e), hbad⟩
          · have cD := hT.card.dirtyK HLO.out x.val hx8
            have hct4 := hT.tb
            gi_wp2_with (first | (refine wpListIn_bin rfl .shr _ _ _ _ rfl _ _ rfl rfl rfl (hshr _ _) ?_) | (refine wpListIn_bin rfl .and _ _ _ _ rfl _ _ rfl rfl rfl (hand _ _) ?_))
            refine ⟨trivial, fun h => (by cases h), ?_⟩
            refine ((callsIn_wide.2 cD).inRound l0).mono ?_
            rintro e V4 ⟨rfl, hS4, hTn⟩
            clear cD
            have hTd := hT.drop hS4 hTn
            have ck4 := hTd.kb.cell 0
            have zk4 := hTd.kb.free 0
            have hT4 := hTd.setK hbkn (by omega) (fun e => hbkl e.symm) (k + 1)
            have cl4 := hT4.lb.cell 0
            have zl4 := hT4.lb.free 0
            simp only [List.getElem?_toArray, List.getElem?_cons_zero] at ck4 cl4
            have h4 := HF.out (V4.setCell ⟨bk, 0, none⟩ (.int .i64 ((k + 1 : Nat) : Int))) _ (k + 1) hT4 (fun i hi => by rw [decide_eq_false (by omega)]; simp) (by have := HCD.out; omega) (by omega) (by rw [card_put S1 x.val x.isLt HSX.out, HCS.out]; omega) ((hTn.mono fun j _ e => by rcases e with e | e; exact .inl e; exact .inr (.inl e)).set _ _ (.inr (.inr (.inr rfl))))
            have cl5 : ((V4.setCell ⟨bk, 0, none⟩ (.int .i64 ((k + 1 : Nat) : Int))).setCell ⟨bl, 0, none⟩ (.int .i64 (r - 1))).cell? ⟨bl, 0, none⟩ = some (.int .i64 (r - 1)) := World.cell?_setCell_same _ _ _ cl4
            have hRL : w.heap.size + 1 < V.heap.size := World.block_lt_of_cell? V _ hRW
            have hRW4 : V4.cell? ⟨w.heap.size + 1, 0, none⟩ = some (.bool false) := (hTn.cell (a := ⟨w.heap.size + 1, 0, none⟩) hRL (by rintro (e | e); have := hco _ (.inr (.inl e)); simp only at this; omega; have := hco _ (.inr (.inr e)); simp only at this; omega)).trans hRW
            have hRW5 : ((V4.setCell ⟨bk, 0, none⟩ (.int .i64 ((k + 1 : Nat) : Int))).setCell ⟨bl, 0, none⟩ (.int .i64 (r - 1))).cell? ⟨w.heap.size + 1, 0, none⟩ = some (.bool false) := cell_setBlock (cell_setBlock hRW4 (by show w.heap.size + 1 ≠ bk; omega)) (by show w.heap.size + 1 ≠ bl; omega)
            have hZL : V4.frozen? ⟨w.heap.size + 1, 0, none⟩ = false := (World.frozen?_of_block (w := V) (hTn.block (w.heap.size + 1) hRL (by rintro (e | e); have := hco _ (.inr (.inl e)); omega; have := hco _ (.inr (.inr e)); omega))).trans hZW
            have hkn : (((k + 1 : Nat)) : Int) = (k : Int) + 1 := by omega
            have H4 := Lib.hid h4.2
            simp only [hkn] at cl4 zl4 cl5 hRW5
            have H5 : Hid ((((k + 1 : Nat)) : Int) = (k : Int) + 1) := Lib.hid hkn
            clear h4 hT HF hTd hT4 hS4 hTn hct4 ck cl zk zl hRW hZW hkn
            gi_wp2_with fail
            rw [← H5.out]
            exact ⟨O, Owned.ofTurn ((H4.out.mono fun j _ e => (.inl e : (j = C2.b ∨ C2.lo = some j ∨ j = bk ∨ j = bl) ∨ j = w.heap.size + 1)).set _ _ (.inr (.inr rfl))) (fun j e => hlow j e), hbad⟩
        · have hge : 0 ≤ r - 1 := by omega
          have elen : (pre ++ [x]).length = pre.length + 1 := by simp
          have hdec : decide (r - 1 < 0) = false := decide_eq_false (by omega)
          refine wpIn_mono (Q := fun e _ W' => e = .normal ∧ AgG V7.heap.size O C2 bk x.val V (AgI wb.heap.size X C2 wb bt bk bl n V7.heap.size (pre.length + 1)) W') ?_ (fun e a' W' ⟨he, hw⟩ => by
            subst he
            have hw2 : AgG V7.heap.size O C2 bk x.val V (AgI wb.heap.size X C2 wb bt bk bl n V7.heap.size (pre ++ [x]).length) W' := by rw [elen]; exact hw
            exact hw2)
          cases bq
          · have h4 := HF.out V S1 k hT (fun _ _ => rfl) (by have := HCD.out; omega) (Nat.le_refl _) (by rw [HCS.out]; omega) (Turn.refl _ _)
            have cl5 : (V.setCell ⟨bl, 0, none⟩ (.int .i64 (r - 1))).cell? ⟨bl, 0, none⟩ = some (.int .i64 (r - 1)) := World.cell?_setCell_same V _ _ cl
            have hRW5 : (V.setCell ⟨bl, 0, none⟩ (.int .i64 (r - 1))).cell? ⟨w.heap.size + 1, 0, none⟩ = some (.bool false) := cell_setBlock hRW (by show w.heap.size + 1 ≠ bl; omega)
            have HG : AgH (AgG V7.heap.size O C2 bk x.val V (AgI wb.heap.size X C2 wb bt bk bl n V7.heap.size (pre.length + 1)) (V.setCell ⟨bl, 0, none⟩ (.int .i64 (r - 1)))) := ⟨by rw [← elen]; exact h4.1⟩
            clear h4 hT HF
            gi_wp2_with (first | (refine wpListIn_bin rfl .shr _ _ _ _ rfl _ _ rfl rfl rfl (hshr _ _) ?_) | (refine wpListIn_bin rfl .and _ _ _ _ rfl _ _ rfl rfl rfl (hand _ _) ?_))
            first | exact ⟨rfl, HG.out⟩ | exact HG.out
          · have cD := hT.card.dirtyK HLO.out x.val hx8
            have hct4 := hT.tb
            gi_wp2_with (first | (refine wpListIn_bin rfl .shr _ _ _ _ rfl _ _ rfl rfl rfl (hshr _ _) ?_) | (refine wpListIn_bin rfl .and _ _ _ _ rfl _ _ rfl rfl rfl (hand _ _) ?_))
            refine ⟨trivial, fun h => (by cases h), ?_⟩
            refine ((callsIn_wide.2 cD).inRound l0).mono ?_
            rintro e V4 ⟨rfl, hS4, hTn⟩
            clear cD
            have hTd := hT.drop hS4 hTn
            have ck4 := hTd.kb.cell 0
            have zk4 := hTd.kb.free 0
            have hT4 := hTd.setK hbkn (by omega) (fun e => hbkl e.symm) (k + 1)
            have cl4 := hT4.lb.cell 0
            have zl4 := hT4.lb.free 0
            simp only [List.getElem?_toArray, List.getElem?_cons_zero] at ck4 cl4
            have h4 := HF.out (V4.setCell ⟨bk, 0, none⟩ (.int .i64 ((k + 1 : Nat) : Int))) _ (k + 1) hT4 (fun i hi => by rw [decide_eq_false (by omega)]; simp) (by have := HCD.out; omega) (by omega) (by rw [card_put S1 x.val x.isLt HSX.out, HCS.out]; omega) ((hTn.mono fun j _ e => by rcases e with e | e; exact .inl e; exact .inr (.inl e)).set _ _ (.inr (.inr (.inr rfl))))
            have cl5 : ((V4.setCell ⟨bk, 0, none⟩ (.int .i64 ((k + 1 : Nat) : Int))).setCell ⟨bl, 0, none⟩ (.int .i64 (r - 1))).cell? ⟨bl, 0, none⟩ = some (.int .i64 (r - 1)) := World.cell?_setCell_same _ _ _ cl4
            have hRL : w.heap.size + 1 < V.heap.size := World.block_lt_of_cell? V _ hRW
            have hRW4 : V4.cell? ⟨w.heap.size + 1, 0, none⟩ = some (.bool false) := (hTn.cell (a := ⟨w.heap.size + 1, 0, none⟩) hRL (by rintro (e | e); have := hco _ (.inr (.inl e)); simp only at this; omega; have := hco _ (.inr (.inr e)); simp only at this; omega)).trans hRW
            have hRW5 : ((V4.setCell ⟨bk, 0, none⟩ (.int .i64 ((k + 1 : Nat) : Int))).setCell ⟨bl, 0, none⟩ (.int .i64 (r - 1))).cell? ⟨w.heap.size + 1, 0, none⟩ = some (.bool false) := cell_setBlock (cell_setBlock hRW4 (by show w.heap.size + 1 ≠ bk; omega)) (by show w.heap.size + 1 ≠ bl; omega)
            have hZL : V4.frozen? ⟨w.heap.size + 1, 0, none⟩ = false := (World.frozen?_of_block (w := V) (hTn.block (w.heap.size + 1) hRL (by rintro (e | e); have := hco _ (.inr (.inl e)); omega; have := hco _ (.inr (.inr e)); omega))).trans hZW
            have hkn : (((k + 1 : Nat)) : Int) = (k : Int) + 1 := by omega
            have HG : AgH (AgG V7.heap.size O C2 bk x.val V (AgI wb.heap.size X C2 wb bt bk bl n V7.heap.size (pre.length + 1)) ((V4.setCell ⟨bk, 0, none⟩ (.int .i64 ((k : Int) + 1))).setCell ⟨bl, 0, none⟩ (.int .i64 (r - 1)))) := ⟨by rw [← elen, ← hkn]; exact h4.1⟩
            simp only [hkn] at cl4 zl4 cl5 hRW5
            clear h4 hT HF hTd hT4 hS4 hTn hct4 ck cl zk zl hRW hZW hkn
            gi_wp2_with fail
            first | exact ⟨rfl, HG.out⟩ | exact HG.out
      case doneA =>
        rintro D xs O V hD hxs ⟨S', k, hT, hcd, hVs⟩ hK
        have hxs2 : xs.map Fin.val = elems S 8 := hxs
        have hxl : xs.length = n := by rw [← HE.out, ← hxs2, List.length_map]
        clear hxs2
        replace hT : TkAt wb.heap.size X C2 (.new 8) S' wb bt bk bl k ((n : Int) - (xs.length : Nat)) V := hT
        replace hcd : card S' + xs.length = n + k := hcd
        have hck : card S' = k := by rw [hxl] at hcd; omega
        replace hVs : V7.heap.size ≤ V.heap.size := hVs
        have ct := hT.tb.cell 0
        have ck := hT.kb.cell 0
        simp only [List.getElem?_toArray, List.getElem?_cons_zero] at ct ck
        have c0 := hT.card.cd.c0
        have cC := hT.card.drew.count k hck
        have hbl9 := hT.card.below
        have hkk : ((k : Int) == (k : Int)) = true := by simp
        have hbtl := hT.tb.lt
        have hbkl2 := hT.kb.lt
        have hCt := hT.card.cd.lt _ (.inl rfl)
        have hMM : Marks wb.heap.size (D + 1) [{ target := .collected D, args := #[] }] V := ⟨D, rfl, by omega, by omega, hK, trivial⟩
        have hDD := (Array.getElem?_eq_some_iff.mp hK).1
        have hRl : w.heap.size + 1 < V.heap.size := by omega
        have hRW : V.cell? ⟨w.heap.size + 1, 0, none⟩ = some (.bool false) := (hbl9.cell (p := ⟨w.heap.size + 1, 0, none⟩) hR.lt).trans (hR.cell 0)
        have hZW : V.frozen? ⟨w.heap.size + 1, 0, none⟩ = false := (hbl9.frozen (p := ⟨w.heap.size + 1, 0, none⟩) hR.lt).trans (hR.free 0)
        have hBbV := (hBb.trans (hbl9.mono (by omega))).drew
        have hn1 : bt ≠ w.heap.size + 1 := fun e => by have h5 := hT.tb; have hlt := hR.lt; unfold Blk at h5 hR; have h6 : V.heap[w.heap.size + 1]? = _ := (hbl9.block _ hlt).trans hR; rw [e, h6] at h5; cases h5
        have hn2 : C2.t ≠ w.heap.size + 1 := by have := hco _ (.inl rfl); omega
        have hn3 : bk ≠ w.heap.size + 1 := by omega
        clear hT hck hcd hxl hxs hT7 hT7' hbox7 hD7 hBn7 htn7
        gi_wp2_with fail
        refine wpIn_wide.2 ?_
        go_region_held3 (fun W' => W'.cell? ⟨bt, 0, none⟩ = some (.pointer (some ⟨C2.t, 0, none⟩)) ∧ W'.cell? ⟨C2.t, 0, none⟩ = some (.pointer (some ⟨C2.b, 0, none⟩)) ∧ W'.cell? ⟨bk, 0, none⟩ = some (.int .i64 (k : Int)))
          (first | exact hk7 | exact hk6 | exact ⟨ct, c0, ck⟩)
          (first
            | (go_at_call 34; refine cC.mono ?_; rintro e w6 ⟨rfl, h6, hB6⟩; have hk6 : w6.cell? ⟨bt, 0, none⟩ = some (.pointer (some ⟨C2.t, 0, none⟩)) ∧ w6.cell? ⟨C2.t, 0, none⟩ = some (.pointer (some ⟨C2.b, 0, none⟩)) ∧ w6.cell? ⟨bk, 0, none⟩ = some (.int .i64 (k : Int)) := ⟨(hB6.cell (p := ⟨bt, 0, none⟩) hbtl).trans ct, (hB6.cell (p := ⟨C2.t, 0, none⟩) hCt).trans c0, (hB6.cell (p := ⟨bk, 0, none⟩) hbkl2).trans ck⟩; have hRW6 : w6.cell? ⟨w.heap.size + 1, 0, none⟩ = some (.bool false) := (hB6.cell (p := ⟨w.heap.size + 1, 0, none⟩) hRl).trans hRW; have hZW6 : w6.frozen? ⟨w.heap.size + 1, 0, none⟩ = false := (hB6.frozen (p := ⟨w.heap.size + 1, 0, none⟩) hRl).trans hZW; have hk7 : (w6.setCell ⟨w.heap.size + 1, 0, none⟩ (.bool true)).cell? ⟨bt, 0, none⟩ = some (.pointer (some ⟨C2.t, 0, none⟩)) ∧ (w6.setCell ⟨w.heap.size + 1, 0, none⟩ (.bool true)).cell? ⟨C2.t, 0, none⟩ = some (.pointer (some ⟨C2.b, 0, none⟩)) ∧ (w6.setCell ⟨w.heap.size + 1, 0, none⟩ (.bool true)).cell? ⟨bk, 0, none⟩ = some (.int .i64 (k : Int)) := ⟨cell_setBlock hk6.1 hn1, cell_setBlock hk6.2.1 hn2, cell_setBlock hk6.2.2 hn3⟩))
        have hbw := hBbV.trans (hB6.mono (by show w.heap.size ≤ V.heap.size; omega))
        have hBW9 := hbw.setCell (p := ⟨w.heap.size + 1, 0, none⟩) (by show w.heap.size ≤ w.heap.size + 1; omega) (.bool true)
        have hR9 : (w6.setCell ⟨w.heap.size + 1, 0, none⟩ (.bool true)).cell? ⟨w.heap.size + 1, 0, none⟩ = some (.bool true) := World.cell?_setCell_same w6 _ _ hRW6
        have hs6 : V.heap.size ≤ w6.heap.size := hB6.size
        have hs9 : D + 1 ≤ (w6.setCell ⟨w.heap.size + 1, 0, none⟩ (.bool true)).heap.size := by simp; omega
        have hM9 : Marks wb.heap.size (D + 1) [{ target := .collected D, args := #[] }] (w6.setCell ⟨w.heap.size + 1, 0, none⟩ (.bool true)) := hMM.keep fun i0 h0 h1 h2 => (Below.heap_setCell _ _ _ _ (fun e => by have e2 : i0 = w.heap.size + 1 := e; omega)).trans ((hB6.block i0 (by show i0 < V.heap.size; omega)).trans h2)
        have hRl9 : w.heap.size + 1 < (w6.setCell ⟨w.heap.size + 1, 0, none⟩ (.bool true)).heap.size := by simp; omega
        clear hMM h6 hk6 hB6 cC ct ck c0 hbw
        gi_wp2_with fail
        generalize w6.setCell ⟨w.heap.size + 1, 0, none⟩ (.bool true) = V8 at *
        refine leavesP_marks hM9 (by omega) fun w' hb _ hcs => ?_
        have hRF := hcs ⟨w.heap.size + 1, 0, none⟩ _ hRl9 hR9
        refine ⟨.bool true, ?_, rfl, hBW9.trans (hb.mono (by omega))⟩
        simp [results, Tryd.f7, go_sem, hRF]
      case stopA =>
        rintro D c pre O V hD ⟨i, j, hj, hpre⟩ hbad hK
        exfalso
        have hb : n < pre.length := hbad
        have h1 : pre.length = (elems S (j + 1)).length := by rw [← hpre, List.length_map]
        have h2 : (elems S (j + 1)).length ≤ (elems S 8).length := by
          rw [card_cnt_elems2, card_cnt_elems2]
          have hj8 : j < 8 := HM8.out j hj.2.1
          have e := cnt_add S (j + 1) 0 (8 - (j + 1))
          rw [show j + 1 + (8 - (j + 1)) = 8 by omega] at e
          omega
        rw [HE.out] at h2
        omega
theorem again_frame (a0 : Option Addr) (ys : List Int) (cap : Nat) (lv : Int) (h : (Lit.int .u8 lv).wf = true) (w : World) (hl : ys.length ≤ 9223372036854775807) (hZ : U8sAt w a0 ys) (hTab : TabAt w) :
    Calls Tryd.prog 7 #[.slice a0 ys.length cap, .int .u8 lv] w fun e w' => e = .returned (.bool true) ∧ Below w.heap.size w w' := by
  obtain ⟨n, rfl, hn⟩ := u8_natC h
  exact again_true a0 ys cap n hn w hl hZ hTab
end Go.Proofs.YtfipflghnhfcjaaDoor
