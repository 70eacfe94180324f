/- ArenaApart, walked, at this seat's numbers. -/
import Derived.Test.YtcpimoepbmlmdaaDoorArSa
import Derived.Test.YtcpimoepbmlmdaaDoorArCs
import Derived.Test.YtcpimoepbmlmdaaDoorGrow
namespace Go.Proofs.YtcpimoepbmlmdaaDoor
open Go Go.RowKit Go.Shelf Go.MuLone Go.RwLone Go.Maps
set_option linter.unusedSimpArgs false
set_option linter.unusedVariables false
attribute [local go_sem] Oper.semAt_some

theorem take_clss {s : ArS} (hF : Fits s) (c : Int) (p : Nat) : (s.take c).cls p = s.cls p ∨ (seekF s c ≠ 0 ∧ 1 ≤ seekF s c ∧ seekF s c ≤ 32 * s.P ∧ p = pg (seekF s c) ∧ s.cls p = -1 ∧ (s.take c).cls p = c) := by
  by_cases h0 : seekF s c = 0
  · left; rw [take_none h0]
  · obtain ⟨_, h1, h2, _, _, _, h7⟩ := seekF_is hF h0
    by_cases e : p = pg (seekF s c)
    · subst e
      have hc : (s.take c).cls (pg (seekF s c)) = c := by
        rw [take_some h0]
        show upd s.cls _ c _ = c
        simp [upd]
      rcases h7 with h7 | ⟨h7, _⟩
      · left; rw [hc, h7]
      · right; exact ⟨h0, h1, h2, rfl, h7, hc⟩
    · left
      rw [take_some h0]
      show upd s.cls _ c _ = _
      unfold upd
      rw [if_neg e]

theorem TwoAt.box {B : Nat} {X : ArB} {Y : MdB} {s t : ArS} {wb wr w' : World} (h : TwoAt B X Y s t wb wr) {b : Nat} {cs : Array Value} {T : TypeId} (hb : Blk wr b cs T) (hT : boxy T = true) (hB : B ≤ b) (ht : Turn (fun k => k = b) wr w') : TwoAt B X Y s t wb w' := by
  obtain ⟨t1, t2, t3, t4, _⟩ := boxy_is hT
  refine ⟨h.ar.turned ht (fun k hk e => ?_) (fun k hk e => ?_), h.md.turn ht (fun k hk e => ?_), h.own, h.sep⟩
  · subst e; exact h.ar.at_.far hb t1 t2 t3 t4 hk
  · have e2 : k = b := e
    omega
  · subst e; exact h.md.far hb hT hk
theorem row3 (a b c : Int) : ∃ f : Nat → Int, (#[.int .i64 a, .int .i64 b, .int .i64 c] : Array Value) = row 3 f :=
  ⟨fun k => if k = 0 then a else if k = 1 then b else c, by simp [row, Array.ofFn_succ]⟩

/-- Between two pages that are looked at ahead of a take. -/
def WasRel (B : Nat) (X : ArB) (Y : MdB) (s : ArS) (ba b6 b8 : Nat) (k n : Int) (wb : World) (v : Value) (wx : World) : Prop :=
  ∃ (p : Nat) (f : Nat → Int), p ≤ 3 ∧ v = .int .i64 (p : Int) ∧ TwoAt B X Y s s wb wx ∧ Blk wx ba #[.pointer (some ⟨X.a, 0, none⟩)] 24 ∧ Blk wx b6 #[.int .i64 k, .int .i64 n] 29 ∧ Blk wx b8 (row 3 f) 57 ∧ ∀ j, j < p → f j = s.cls j

def ApRel (B : Nat) (X : ArB) (Y : MdB) (ba : Nat) (wb : World) (len : Nat) (v : Value) (wr : World) : Prop :=
  ∃ (i : Nat) (lo : Option Nat) (s : ArS), i ≤ len ∧ v = .int .i64 (i : Int) ∧ s.P = 3 ∧ TwoAt B (X.with lo) Y s s wb wr ∧ Blk wr ba #[.pointer (some ⟨X.a, 0, none⟩)] 24

set_option maxRecDepth 100000 in
set_option maxHeartbeats 16000000 in
theorem apart_true (a0 : Option Addr) (len cap : Nat) (K N : Nat → Int) (w : World) (_ : len ≤ 9223372036854775807) (hC : CallsAt w a0 len K N) (hT : TableAt w) :
    Calls Tryd.prog 7 #[.slice a0 len cap] w fun e w' => e = .returned (.bool true) ∧ Below w.heap.size w w' := by
  have hg := hT.lt
  have HCA := Lib.hid hC
  clear hC
  obtain ⟨M, hM6⟩ : ∃ M : Nat, 8 ≤ M := ⟨8, Nat.le_refl _⟩
  refine calls_of_wp_marks Tryd.func7 rfl M ?_
  simp only [Tryd.ntmps7, List.size_toArray, List.length_cons, List.length_nil, Nat.reduceAdd, Nat.reduceSub, Array.replicate_succ, Array.replicate_zero, List.push_toArray, List.append_toArray, List.nil_append, List.cons_append]
  gi_wp2_with fail
  refine ⟨trivial, fun h => (by cases h), ?_⟩
  have hR := Blk.new w #[.bool false] 4
  have hBb := (Below.refl w.heap.size w).alloc (Nat.le_refl _) (.cells #[.bool false] 4)
  have hTb : TableAt (w.alloc (.cells #[.bool false] 4)) := hT.below ((Below.refl w.heap.size w).alloc (Nat.le_refl _) _)
  have hsb : (w.alloc (.cells #[.bool false] 4)).heap.size = w.heap.size + 1 := by simp
  generalize w.alloc (.cells #[.bool false] 4) = wb at *
  refine (callsIn_wide.2 (fit_true wb hTb)).mono ?_
  rintro e w1 ⟨rfl, hB⟩
  have hR1 : w1.cell? ⟨w.heap.size, 0, none⟩ = some (.bool false) := (hB.cell (p := ⟨w.heap.size, 0, none⟩) hR.lt).trans (hR.cell 0)
  have hZ1 : w1.frozen? ⟨w.heap.size, 0, none⟩ = false := (hB.frozen (p := ⟨w.heap.size, 0, none⟩) hR.lt).trans (hR.free 0)
  by_cases hbig : 80 < (len : Int)
  · gi_wp2_with fail
    refine ⟨.bool true, ?_, rfl, (hBb.trans (hB.mono (by omega))).setCell (p := ⟨w.heap.size, 0, none⟩) (Nat.le_refl _) (.bool true)⟩
    have hc := World.cell?_setCell_same w1 ⟨w.heap.size, 0, none⟩ (.bool true) hR1
    simp [results, Tryd.f7, go_sem, hc]
  clear hR1 hZ1
  gi_wp2_with fail
  refine ⟨trivial, fun h => (by cases h), ?_⟩
  refine (callsIn_wide.2 (new_in 3 3 (by decide) wb.heap.size wb _ hB (Nat.le_refl _) hTb (by omega))).mono ?_
  rintro e w2 ⟨X, rfl, h2, _, _⟩
  clear hB
  gi_wp2_with fail
  refine ⟨trivial, fun h => (by cases h), ?_⟩
  refine (callsIn_wide.2 (two_new (P := 3) (by omega) h2)).mono ?_
  rintro e w3 ⟨Y, rfl, h3, _⟩
  clear h2
  gi_wp2_with fail
  have hk3 := Blk.new w3 #[.pointer (some ⟨X.a, 0, none⟩)] 24
  have h4 := h3.alloc (.cells #[.pointer (some ⟨X.a, 0, none⟩)] 24)
  clear h3
  generalize w3.alloc (.cells #[.pointer (some ⟨X.a, 0, none⟩)] 24) = w4 at *
  generalize w3.heap.size = ba at *
  gi_loopw [25] (fun v wr => ApRel wb.heap.size X Y ba wb len v wr) (fun v _ => len - (intOf v).toNat)
  case atStart => exact ⟨0, X.lo, .new 3, Nat.zero_le _, rfl, rfl, h4, hk3⟩
  case round =>
    clear h4 hk3
    obtain ⟨i, lo, s, hi, rfl, hsP, h1, hk1⟩ := hrel
    have HSP := Lib.hid hsP
    clear hsP
    by_cases hlt : i < len
    · obtain ⟨bk, off, rfl, hbk, hc0, hc1, hk0w, hk1w⟩ := HCA.out i hlt
      replace hc0 := ((hBb.trans (h1.ar.below.mono (by omega))).cell (p := ⟨bk, off + i * 2, none⟩) hbk).trans hc0
      replace hc1 := ((hBb.trans (h1.ar.below.mono (by omega))).cell (p := ⟨bk, off + i * 2 + 1, none⟩) hbk).trans hc1
      have i0 : 0 ≤ (i : Int) := by omega
      have i1 : (i : Int) < (len : Int) := by omega
      obtain ⟨q, hq3, hq⟩ := i64_and_mask (K i) 3 (by decide)
      replace hq : bits .and .i64 (K i) 3 = (q : Int) := hq
      have h2 := h1.alloc (.cells #[.int .i64 (K i), .int .i64 (N i)] 29)
      have hk2 := hk1.alloc (.cells #[.int .i64 (K i), .int .i64 (N i)] 29)
      have hcx := Blk.new wr #[.int .i64 (K i), .int .i64 (N i)] 29
      have hk1lt := hk1.lt
      clear h1 hk1
      by_cases hq4 : (q : Int) = 3
      · rw [hq4] at hq
        gi_wp2_with fail
        refine ⟨trivial, fun h => (by cases h), ?_⟩
        refine (callsIn_wide.2 (h2.nth (N i))).mono ?_
        rintro e w5 ⟨r, hr8, rfl, h5, hB5⟩
        have hk5 := hk2.below hB5
        clear h2 hk2 hc0 hc1 hcx hB5
        have hwr : (Lit.int .i64 (r : Int)).wf = true := wf_of (by omega) (by omega)
        gi_wp2_with fail
        refine ⟨trivial, fun h => (by cases h), ?_⟩
        refine (callsIn_wide.2 (h5.giveM (r : Int) hwr)).mono ?_
        rintro e w6 ⟨rfl, h6, bx6, _⟩
        have hk6 := bx6 _ _ _ (by decide) hk5
        have hc6 := hk6.cell 0
        simp only [List.getElem?_toArray, List.getElem?_cons_zero] at hc6
        clear h5 hk5
        gi_wp2_with fail
        refine ⟨trivial, fun h => (by cases h), ?_⟩
        refine (callsIn_wide.2 (h6.giveA (r : Int))).mono ?_
        rintro e w7 ⟨rfl, lo7, h7, bx7, _⟩
        have hk7 := bx7 _ _ _ (by decide) hk6
        clear h6 hk6 hc6
        gi_wp2_with fail
        go_roundw
        case rel => exact ⟨i + 1, lo7, s.giveI (r : Int), by omega, by go_num, by rw [giveI_P]; exact HSP.out, h7, hk7⟩
        case measure => simp [intOf]; omega
      · have hqE : ((q : Int) == 3) = false := not_eqb hq4
        have HQ3 : Hid (q ≤ 2) := Lib.hid (by omega)
        have hsB := h2.ar.size
        have hba := hk1lt
        obtain ⟨f0, hf0⟩ := row3 0 0 0
        have h3 := h2.alloc (.cells #[.int .i64 0, .int .i64 0, .int .i64 0] 57)
        have hk3 := hk2.alloc (.cells #[.int .i64 0, .int .i64 0, .int .i64 0] 57)
        have hx3 := hcx.alloc (.cells #[.int .i64 0, .int .i64 0, .int .i64 0] 57)
        have hb3 : Blk ((wr.alloc (.cells #[.int .i64 (K i), .int .i64 (N i)] 29)).alloc (.cells #[.int .i64 0, .int .i64 0, .int .i64 0] 57)) (wr.heap.size + 1) #[.int .i64 0, .int .i64 0, .int .i64 0] 57 := by
          have := Blk.new (wr.alloc (.cells #[.int .i64 (K i), .int .i64 (N i)] 29)) #[.int .i64 0, .int .i64 0, .int .i64 0] 57
          simpa using this
        have HF0 := Lib.hid hf0
        clear h2 hk2 hcx hf0
        gi_wp2_with fail
        have hb8B : wb.heap.size ≤ wr.heap.size + 1 := by simp at hsB; omega
        have hn1 : ba ≠ wr.heap.size + 1 := by omega
        have hn2 : wr.heap.size ≠ wr.heap.size + 1 := by omega
        clear hc0 hc1 hsB hba hk1lt
        generalize (wr.alloc (.cells #[.int .i64 (K i), .int .i64 (N i)] 29)).alloc (.cells #[.int .i64 0, .int .i64 0, .int .i64 0] 57) = w9 at *
        generalize wr.heap.size = b6 at *
        gi_loopw [43] (fun v43 wx => WasRel wb.heap.size (X.with lo) Y s ba b6 (b6 + 1) (K i) (N i) wb v43 wx) (fun v43 _ => 3 - (intOf v43).toNat)
        case atStart => exact ⟨0, f0, by omega, rfl, h3, hk3, hx3, hb3.is HF0.out, fun j hj => absurd hj (by omega)⟩
        case round =>
          clear h3 hk3 hx3 hb3
          obtain ⟨p, f, hp, rfl, h3, hk3, hx3, hb3, hf⟩ := hrel
          have hc3 := hk3.cell 0
          simp only [List.getElem?_toArray, List.getElem?_cons_zero] at hc3
          have hp0 : (0 : Int) ≤ (p : Int) := by omega
          by_cases hp3 : p < 3
          · have hp1 : (p : Int) < 3 := by omega
            have cC := class_any h3.ar.at_.toArMem (p : Int)
            rw [show clsI s (p : Int) = s.cls p by unfold clsI; rw [if_pos (by have := HSP.out; omega)]; rfl] at cC
            have hcp := (hb3.cell p).trans (row_get f hp3)
            have hzp := hb3.free p
            have HF := Lib.hid hf
            have hv3 := hb3.setAt p (.int .i64 (s.cls p))
            rw [row_set f _ hp3] at hv3
            have HV := Lib.hid hv3
            have hT3 : Turn (fun k => k = b6 + 1) wr (wr.setCell ⟨b6 + 1, p, none⟩ (.int .i64 (s.cls p))) := (Turn.refl (fun k => k = b6 + 1) wr).set _ _ (.inr rfl)
            have HT := Lib.hid hT3
            have HB3 := Lib.hid hb3
            clear hf hv3 hT3 hb3
            obtain ⟨cl, hcl⟩ : ∃ cl, s.cls p = cl := ⟨_, rfl⟩
            rw [hcl] at cC HV HT
            have HCL := Lib.hid hcl
            clear hcl
            gi_wp2_with fail
            refine ⟨trivial, fun h => (by cases h), ?_⟩
            refine (callsIn_wide.2 cC).mono ?_
            rintro e w' ⟨rfl, rfl⟩
            clear cC
            gi_wp2_with fail
            go_roundw
            case rel =>
              refine ⟨p + 1, _, by omega, by go_num, h3.box HB3.out (by decide) hb8B HT.out, hk3.turn HT.out hn1, hx3.turn HT.out hn2, HV.out, fun j hj => ?_⟩
              unfold upd
              by_cases e : j = p
              · rw [if_pos e, e]; exact HCL.out.symm
              · rw [if_neg e]; exact HF.out j (by omega)
            case measure => simp [intOf]; omega
          · obtain rfl : p = 3 := by omega
            have HF := Lib.hid hf
            have hcx := hx3.cell 0
            simp only [List.getElem?_toArray, List.getElem?_cons_zero] at hcx
            have hcs := take_clss h3.ar.at_.fits (q : Int)
            have HCS := Lib.hid hcs
            obtain ⟨x, hx⟩ : ∃ x, seekF s (q : Int) = x := ⟨_, rfl⟩
            have cT := h3.takeAb (q : Int) x (decide (x ≠ 0)) hx rfl
            obtain ⟨bq, hbq⟩ : ∃ bq, decide (x ≠ 0) = bq := ⟨_, rfl⟩
            rw [hbq] at cT
            have HX := Lib.hid hx
            have HBQ := Lib.hid hbq
            clear hf hcs hx hbq
            gi_wp2_with fail
            refine ⟨trivial, fun h => (by cases h), ?_⟩
            refine (callsIn_wide.2 cT).mono ?_
            rintro e w5 ⟨rfl, lo5, h5, bx5⟩
            have hk5 := bx5 _ _ _ (by decide) hk3
            have hx5 := bx5 _ _ _ (by decide) hx3
            have hb5 := bx5 _ _ _ (by decide) hb3
            have hcx := hx5.cell 0
            simp only [List.getElem?_toArray, List.getElem?_cons_zero] at hcx
            clear cT h3 hk3 hx3 hb3 hc3
            gi_wp2_with fail
            refine ⟨trivial, fun h => (by cases h), ?_⟩
            refine (callsIn_wide.2 (h5.takeM (q : Int))).mono ?_
            rintro e w6 ⟨rfl, h6, bx6, _⟩
            have hk6 := bx6 _ _ _ (by decide) hk5
            have hx6 := bx6 _ _ _ (by decide) hx5
            have hb6 := bx6 _ _ _ (by decide) hb5
            have hcx := hx6.cell 0
            have hc6 := hk6.cell 0
            simp only [List.getElem?_toArray, List.getElem?_cons_zero] at hcx hc6
            clear h5 hk5 hx5 hb5
            gi_wp2_with fail
            gi_loopw [65] (fun v65 wx => ∃ p : Nat, p ≤ 3 ∧ v65 = .int .i64 (p : Int) ∧ w6 = wx) (fun v65 _ => 3 - (intOf v65).toNat)
            case atStart => exact ⟨0, by omega, rfl, rfl⟩
            case round =>
              obtain ⟨p, hp, rfl, rfl⟩ := hrel
              have hp0 : (0 : Int) ≤ (p : Int) := by omega
              by_cases hp3 : p < 3
              · have hp1 : (p : Int) < 3 := by omega
                have cC := class_any h6.ar.at_.toArMem (p : Int)
                rw [show clsI (s.take (q : Int)) (p : Int) = (s.take (q : Int)).cls p by unfold clsI; rw [if_pos (by have := HSP.out; rw [take_P]; omega)]; rfl] at cC
                have hcp := (hb6.cell p).trans (row_get f hp3)
                rw [HF.out p hp3] at hcp
                rcases HCS.out p with e1 | ⟨e1, e2, e3, e4, e5, e6⟩
                · rw [e1] at cC
                  generalize s.cls p = cl at *
                  clear e1
                  have hcc : (cl != cl) = false := by simp
                  gi_wp2_with fail
                  refine ⟨trivial, fun h => (by cases h), ?_⟩
                  refine (callsIn_wide.2 cC).mono ?_
                  rintro e w' ⟨rfl, rfl⟩
                  clear cC
                  gi_wp2_with fail
                  case h_2 =>
                    refine ⟨trivial, ?_⟩
                    gi_wp2_with fail
                    go_roundw
                    case rel => exact ⟨p + 1, by omega, by go_num, trivial⟩
                    case measure => simp [intOf]; omega
                  all_goals first
                    | (rename_i b h1 h2; exact absurd h1 (by simp [undef]))
                    | (rename_i b h1; exact absurd h1 (by simp [undef]))
                    | (rename_i h1; exact absurd h1 (by simp [undef]))
                · rw [e6] at cC
                  rw [e5] at hcp
                  rw [HX.out] at e1 e2 e3 e4
                  have cP := page_yes h6.ar.at_.toArMem x e2 (by rw [take_P]; exact e3)
                  rw [← e4] at cP
                  obtain rfl : bq = true := by rw [← HBQ.out]; exact decide_eq_true e1
                  have hqm : ((q : Int) != -1) = true := bne_iff_ne.2 (by omega)
                  have hqq : ((q : Int) != (q : Int)) = false := by simp
                  have hpp : ((p : Int) != (p : Int)) = false := by simp
                  clear e2 e3 e4 e5 e6
                  gi_wp2_with fail
                  refine ⟨trivial, fun h => (by cases h), ?_⟩
                  refine (callsIn_wide.2 cC).mono ?_
                  rintro e w' ⟨rfl, rfl⟩
                  clear cC
                  gi_wp2_with fail
                  refine ⟨trivial, fun h => (by cases h), ?_⟩
                  refine (callsIn_wide.2 cP).mono ?_
                  rintro e w' ⟨rfl, rfl⟩
                  clear cP
                  gi_wp2_with fail
                  go_roundw
                  case rel => exact ⟨p + 1, by omega, by go_num, trivial⟩
                  case measure => simp [intOf]; omega
              · obtain rfl : p = 3 := by omega
                gi_wp2_with fail
                go_roundw
                case rel => exact ⟨i + 1, lo5, s.take (q : Int), by omega, by go_num, by rw [take_P]; exact HSP.out, h6, hk6⟩
                case measure => simp [intOf]; omega
    · obtain rfl : i = len := by omega
      have hA := h1.ar
      have HF := Lib.hid hA.at_.fits
      have hXlt0 := hA.at_.lt
      have htb := hA.tabB
      clear h1
      gi_wp2_with fail
      refine wpIn_loop_grow (fun T u => spl (spl T u 14 2) u 102 16) (fun u ds W => ∃ p : Nat, p ≤ 3 ∧ u 102 = .int .i64 (p : Int) ∧ ArIn wb.heap.size (X.with lo) s wb W ∧ Blk W ba #[.pointer (some ⟨X.a, 0, none⟩)] 24 ∧ ∃ hi, hi ≤ W.heap.size ∧ Marks wb.heap.size hi ds W) (fun u => 3 - (intOf (u 102)).toNat) rfl ⟨0, by omega, rfl, hA, hk1, 0, by omega, trivial⟩ ?_
      clear hA hk1
      rintro u ds W ⟨p, hp, hu, hI, hk, hi, hhi, hM⟩
      simp only [spl, List.take_succ_cons, List.take_zero, List.drop_succ_cons, List.drop_zero, List.cons_append, List.nil_append, List.range'_succ, List.range'_zero, List.map_cons, List.map_nil, Nat.reduceAdd, hu]
      have hc := hk.cell 0
      simp only [List.getElem?_toArray, List.getElem?_cons_zero] at hc
      by_cases hp3 : p < 3
      · have hp1 : (p : Int) < 3 := by omega
        have hXlt := hI.at_.lt
        have hsB := hI.size
        have hkl := hk.lt
        have hI6 := ((hI.alloc (.cells #[.int .i64 (p : Int)] 3)).alloc (.cells #[.pointer (some ⟨X.a, 0, none⟩)] 24)).alloc (.cells #[.int .i64 (p : Int)] 3)
        have hk6 := ((hk.alloc (.cells #[.int .i64 (p : Int)] 3)).alloc (.cells #[.pointer (some ⟨X.a, 0, none⟩)] 24)).alloc (.cells #[.int .i64 (p : Int)] 3)
        have hbox : Blk (((W.alloc (.cells #[.int .i64 (p : Int)] 3)).alloc (.cells #[.pointer (some ⟨X.a, 0, none⟩)] 24)).alloc (.cells #[.int .i64 (p : Int)] 3)) W.heap.size #[.int .i64 (p : Int)] 3 := ((Blk.new W _ _).alloc _).alloc _
        have b0 : (((W.alloc (.cells #[.int .i64 (p : Int)] 3)).alloc (.cells #[.pointer (some ⟨X.a, 0, none⟩)] 24)).alloc (.cells #[.int .i64 (p : Int)] 3)).cell? ⟨W.heap.size + 1, 0, none⟩ = some (.pointer (some ⟨X.a, 0, none⟩)) := by
          have := ((Blk.new (W.alloc (.cells #[.int .i64 (p : Int)] 3)) #[.pointer (some ⟨X.a, 0, none⟩)] 24).alloc (.cells #[.int .i64 (p : Int)] 3)).cell 0
          simpa using this
        have b1 : (((W.alloc (.cells #[.int .i64 (p : Int)] 3)).alloc (.cells #[.pointer (some ⟨X.a, 0, none⟩)] 24)).alloc (.cells #[.int .i64 (p : Int)] 3)).cell? ⟨W.heap.size + 1 + 1, 0, none⟩ = some (.int .i64 (p : Int)) := by
          have := (Blk.new ((W.alloc (.cells #[.int .i64 (p : Int)] 3)).alloc (.cells #[.pointer (some ⟨X.a, 0, none⟩)] 24)) #[.int .i64 (p : Int)] 3).cell 0
          simpa using this
        have hs6 : (((W.alloc (.cells #[.int .i64 (p : Int)] 3)).alloc (.cells #[.pointer (some ⟨X.a, 0, none⟩)] 24)).alloc (.cells #[.int .i64 (p : Int)] 3)).heap.size = W.heap.size + 3 := by simp
        have hM6 : Marks wb.heap.size hi ds (((W.alloc (.cells #[.int .i64 (p : Int)] 3)).alloc (.cells #[.pointer (some ⟨X.a, 0, none⟩)] 24)).alloc (.cells #[.int .i64 (p : Int)] 3)) :=
          hM.keep fun k _ h1 h2 => ((Below.heap_alloc _ _ _ (by simp; omega)).trans ((Below.heap_alloc _ _ _ (by simp; omega)).trans (Below.heap_alloc _ _ _ (by omega)))).trans h2
        clear hI hk hM
        gi_wp2_with fail
        refine ⟨trivial, fun h => (by cases h), ?_⟩
        refine (callsIn_wide.2 (cellsfn_any X.a (p : Int) _)).mono ?_
        rintro e w' ⟨rfl, rfl⟩
        gi_wp2_with fail
        generalize (((W.alloc (.cells #[.int .i64 (p : Int)] 3)).alloc (.cells #[.pointer (some ⟨X.a, 0, none⟩)] 24)).alloc (.cells #[.int .i64 (p : Int)] 3)) = W6 at *
        generalize W.heap.size = s0 at *
        refine wpIn_rangeFunc_ownF rfl (by omega) (gf := 55) (lb := #[.pointer (some ⟨s0 + 1, 0, none⟩), .pointer (some ⟨s0 + 1 + 1, 0, none⟩)]) rfl trivial (enters_of Tryd.func55 (by kernel_rfl) rfl)
          (pg_stops (X := X.with lo) (s := s) (M - 1) (s0 + 1) p (by have := HSP.out; omega) W6 hI6.at_.toArMem b0 b1) KpAr.trans (fun V l o o' hl _ _ _ => KpAr.putObj (n0 := W6.heap.size) (fun k hk => by have := hXlt k hk; omega) (by omega) V l o' hl) (Below.refl _ _) (fun _ => rfl)
          (fun pre V => ArIn wb.heap.size (X.with lo) s wb V ∧ Blk V s0 #[.int .i64 (p : Int)] 3 ∧ Blk V ba #[.pointer (some ⟨X.a, 0, none⟩)] 24 ∧ Marks wb.heap.size hi ds V ∧ W6.heap.size ≤ V.heap.size) (fun _ _ _ => False)
          (fun pre V V' row hs hg hr => ⟨hs.1.far hg (fun r e => ⟨by have := (hr r e).1; omega, (hr r e).2⟩), hs.2.1.kept hg (fun r e => (hr r e).2), hs.2.2.1.kept hg (fun r e => (hr r e).2), hs.2.2.2.1.keep fun k _ h1 h2 => (hg.block k (by have := hs.2.2.2.2; omega) (fun e => by have := (hr k e.symm).1; omega)).trans h2, Nat.le_trans hs.2.2.2.2 hg.size⟩)
          (fun _ _ _ _ _ hs _ _ => hs) ⟨hI6, hbox, hk6, hM6, Nat.le_refl _⟩ ?a1 ?assign ?body ?done ?stop
        case assign =>
          intro l0 x V K hK
          unfold pgArgs
          gi_wp2
          exact hK
        case body =>
          rintro l0 pre x V ⟨hI, hbV, hkV, hMV, hVs⟩ hpl
          have hcb := hbV.cell 0
          have hck := hkV.cell 0
          simp only [List.getElem?_toArray, List.getElem?_cons_zero] at hcb hck
          have hat := hI.at_.fits.at_ _ x.2
          obtain ⟨r, hr⟩ : ∃ r, r = 32 * p + x.1.val + 1 := ⟨_, rfl⟩
          have hpg : pg r = p := by rw [hr]; unfold pg; have := x.1.isLt; omega
          rw [← hr, hpg] at hat
          have hri : 32 * (p : Int) + ((x.1.val : Nat) : Int) + 1 = (r : Int) := by omega
          simp only [hri]
          obtain ⟨a1, a2, a3, a4⟩ := hat
          have cC := class_any hI.at_.toArMem (p : Int)
          rw [show clsI s (p : Int) = s.cls p by unfold clsI; rw [if_pos (by have := HSP.out; omega)]; rfl] at cC
          obtain ⟨hWc, hWo⟩ := wN_pos a3
          have cW := wordsW (s.cls p) (wN (s.cls p)) V hI.tabAt hWo
          generalize s.cls p = cl at *
          generalize wN cl = wn at *
          have hr2 : r ≤ 2048 := by have := HF.out.p64; omega
          have hrem : ((r : Int) - 1).tmod (wn : Int) = 0 := by
            rw [Int.tmod_eq_emod_of_nonneg (by omega)]
            rcases hWc with rfl | rfl | rfl <;> omega
          have hw0 : ¬ (wn : Int) = 0 := by omega
          have hwz : ((wn : Int) == 0) = false := not_eqb hw0
          have hr1 : (1 : Int) ≤ (r : Int) := by omega
          have hr3 : (r : Int) ≤ 2048 := by omega
          clear hr hpg a1 a2 a3 a4 hWc hWo
          gi_wp2_with fail
          refine ⟨trivial, fun h => (by cases h), ?_⟩
          refine ((callsIn_wide.2 cC).inRound l0).mono ?_
          rintro e w' ⟨rfl, rfl⟩
          clear cC
          gi_wp2_with fail
          refine ⟨trivial, fun h => (by cases h), ?_⟩
          refine ((callsIn_wide.2 cW).inRound l0).mono ?_
          rintro e w' ⟨rfl, rfl⟩
          clear cW
          gi_wp2_with fail
          exact ⟨KeepsOthers.refl _, ⟨fun _ _ => rfl, rfl, rfl⟩, hI, hbV, hkV, hMV, hVs⟩
        case done =>
          rintro D xs V hD hxs ⟨hI, hbV, hkV, hMV, hVs⟩ hK
          gi_wp2_with fail
          refine ⟨_, rfl, rfl, ⟨p + 1, by omega, ?_, hI, hkV, D + 1, ?_, (hMV.mono (show hi ≤ D by omega)).push (by omega) (by omega) hK⟩, ?_⟩
          · show Value.int .i64 ((p : Int) + 1) = _
            congr 1
          · have := (Array.getElem?_eq_some_iff.mp hK).1; omega
          · show 3 - (intOf (Value.int .i64 ((p : Int) + 1))).toNat < 3 - (intOf (Value.int .i64 (p : Int))).toNat
            simp [intOf]; omega
        case stop =>
          rintro D c pre V hD _ hs _
          exact hs.elim
      · obtain rfl : p = 3 := by omega
        have hRW : W.cell? ⟨w.heap.size, 0, none⟩ = some (.bool false) := (hI.below.cell (p := ⟨w.heap.size, 0, none⟩) hR.lt).trans (hR.cell 0)
        have hZW : W.frozen? ⟨w.heap.size, 0, none⟩ = false := (hI.below.frozen (p := ⟨w.heap.size, 0, none⟩) hR.lt).trans (hR.free 0)
        have hBW := (hBb.trans (hI.below.mono (by omega))).setCell (p := ⟨w.heap.size, 0, none⟩) (Nat.le_refl _) (.bool true)
        have hR9 : (W.setCell ⟨w.heap.size, 0, none⟩ (.bool true)).cell? ⟨w.heap.size, 0, none⟩ = some (.bool true) := World.cell?_setCell_same _ _ _ hRW
        have hRl := hR.lt
        have hWs := hI.below.size
        have hM9 : Marks wb.heap.size hi ds (W.setCell ⟨w.heap.size, 0, none⟩ (.bool true)) := hM.keep fun k h0 _ h2 => (Below.heap_setCell _ _ _ _ (fun e => by have e2 : k = w.heap.size := e; omega)).trans h2
        have hs9 : (W.setCell ⟨w.heap.size, 0, none⟩ (.bool true)).heap.size = W.heap.size := by simp
        gi_wp2_with fail
        generalize W.setCell ⟨w.heap.size, 0, none⟩ (.bool true) = V at *
        refine leavesP_marks hM9 (by omega) fun w' hb _ hcs => ?_
        have hRF := hcs ⟨w.heap.size, 0, none⟩ _ (by show w.heap.size < _; omega) hR9
        refine ⟨.bool true, ?_, rfl, hBW.trans (hb.mono (by omega))⟩
        simp [results, Tryd.f7, go_sem, hRF]
end Go.Proofs.YtcpimoepbmlmdaaDoor
