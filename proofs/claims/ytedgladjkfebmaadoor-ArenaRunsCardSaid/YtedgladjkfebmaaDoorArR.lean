/- ArenaRefs, walked, at this seat's numbers. -/
import Derived.Test.YtedgladjkfebmaaDoorArO
import Derived.Test.YtedgladjkfebmaaDoorArP
import Derived.Test.YtedgladjkfebmaaDoorArQ
namespace Go.Proofs.YtedgladjkfebmaaDoor
open Go Go.RowKit Go.Shelf Go.MuLone Go.RwLone
set_option linter.unusedSimpArgs false
set_option linter.unusedVariables false
attribute [local go_sem] Oper.semAt_some

theorem mem_elems {S : Nat → Bool} {n j : Nat} : j ∈ elems S n ↔ j < n ∧ S j = true := by unfold elems; simp
/-- Was it among those that came? -/
def cameI (pre : List (Fin 4096)) (raw : Int) : Bool := pre.any fun x => ((x.val : Nat) : Int) == raw
theorem came_snoc (pre : List (Fin 4096)) (x : Fin 4096) (raw : Int) : cameI (pre ++ [x]) raw = (cameI pre raw || ((x.val : Nat) : Int) == raw) := by simp [cameI]
theorem came_all {s : ArS} (hF : Fits s) {xs : List (Fin 4096)} {raw : Int} (h : xs.map Fin.val = elems s.S (32 * s.P + 1)) : cameI xs raw = inS s.S raw := by
  rw [Bool.eq_iff_iff]
  constructor
  · intro hc
    simp only [cameI, List.any_eq_true, beq_iff_eq] at hc
    obtain ⟨x, hx, rfl⟩ := hc
    have : x.val ∈ elems s.S (32 * s.P + 1) := by rw [← h]; exact List.mem_map_of_mem hx
    rw [inS_nat]; exact (mem_elems.1 this).2
  · intro hc
    have h0 : 0 ≤ raw ∧ s.S raw.toNat = true := by simpa [inS] using hc
    obtain ⟨r, rfl⟩ : ∃ r : Nat, raw = r := ⟨raw.toNat, by omega⟩
    rw [inS_nat] at hc
    have hm : r ∈ xs.map Fin.val := by rw [h]; exact mem_elems.2 ⟨by have := (hF.at_ r hc).2.1; omega, hc⟩
    obtain ⟨x, hx, rfl⟩ := List.mem_map.1 hm
    simp only [cameI, List.any_eq_true, beq_iff_eq]
    exact ⟨x, hx, rfl⟩
/-- Between two takes of nobody's. -/
def AnyRel (B : Nat) (X : ArB) (wb : World) (P m : Nat) (v21 : Value) (wr : World) : Prop :=
  ∃ (i : Nat) (lo : Option Nat) (s : ArS), i ≤ m ∧ v21 = .int .i64 (i : Int) ∧ s.P = P ∧ ArIn B (X.with lo) s wb wr
theorem ask_deferred {w w' : World} {D : Nat} (hB : Below w.heap.size w w') (hK : w.heap[D]? = some (.deferred (some []))) : w'.heap[D]? = some (.deferred (some [])) :=
  (hB.block D (Array.getElem?_eq_some_iff.mp hK).1).trans hK
theorem hasWd_no {s : ArS} {r i : Int} (h : inS s.S r = false) : hasWd s r i = false := by simp [hasWd, h]

set_option maxRecDepth 100000 in
set_option maxHeartbeats 8000000 in
theorem refs_true (pages n raw : Int) (w : World) (hTab : TabAt w) (hT : TableAt w) :
    Calls Tryd.prog 5 #[.int .i64 pages, .int .i64 n, .int .i64 raw] w fun e w' => e = .returned (.bool true) ∧ Below w.heap.size w w' := by
  have hg := hT.lt
  obtain ⟨P, hP7, hPe⟩ := i64_and_mask pages 7 (by decide)
  replace hPe : bits .and .i64 pages 7 = (P : Int) := hPe
  obtain ⟨m, hm31, hme⟩ := i64_and_mask n 31 (by decide)
  replace hme : bits .and .i64 n 31 = (m : Int) := hme
  obtain ⟨M, hM6⟩ : ∃ M : Nat, 8 ≤ M := ⟨8, Nat.le_refl _⟩
  refine calls_of_wp_marks Tryd.func5 rfl M ?_
  simp only [Tryd.ntmps5, List.size_toArray, List.length_cons, List.length_nil, Nat.reduceAdd, Nat.reduceSub, Array.replicate_succ, Array.replicate_zero, List.push_toArray, List.append_toArray, List.nil_append, List.cons_append]
  have hRB := Blk.new w #[.int .i64 raw] 30
  have hBb := (Below.refl w.heap.size w).alloc (Nat.le_refl _) (.cells #[.int .i64 raw] 30)
  have hTb : TableAt (w.alloc (.cells #[.int .i64 raw] 30)) := hT.below ((Below.refl w.heap.size w).alloc (Nat.le_refl _) _)
  have hDb : TabAt (w.alloc (.cells #[.int .i64 raw] 30)) := fun j hj => cell_allocKeep (hTab j hj) _
  have hsb : w.heap.size + 1 ≤ (w.alloc (.cells #[.int .i64 raw] 30)).heap.size := by simp
  have hgd := hTab.lt
  gi_wp2_with fail
  refine ⟨trivial, fun h => (by cases h), ?_⟩
  generalize w.alloc (.cells #[.int .i64 raw] 30) = wb at *
  refine (callsIn_wide.2 (fit_true wb hTb)).mono ?_
  rintro e w1 ⟨rfl, hB⟩
  gi_wp2_with fail
  refine ⟨trivial, fun h => (by cases h), ?_⟩
  refine (callsIn_wide.2 (new_in (P : Int) P (by omega) wb.heap.size wb _ hB (Nat.le_refl _) hTb (by omega))).mono ?_
  rintro e w2 ⟨X, rfl, h2, _, _⟩
  clear hB hPe
  gi_wp2_with fail
  clear hme
  gi_loopw [21] (fun v21 wr => AnyRel wb.heap.size X wb P m v21 wr) (fun v21 _ => m - (intOf v21).toNat)
  case atStart => exact ⟨0, X.lo, .new P, Nat.zero_le _, rfl, rfl, h2⟩
  case round =>
    clear h2
    obtain ⟨i, lo, s, hi, rfl, hsP, hIn⟩ := hrel
    have HSP := Lib.hid hsP
    clear hsP
    by_cases hlt : i < m
    · have i0 : (0 : Int) ≤ (i : Int) := by omega
      have i1 : (i : Int) < (m : Int) := by omega
      have i2 : (i : Int) ≤ 31 := by omega
      gi_wp2_with fail
      refine ⟨trivial, fun h => (by cases h), ?_⟩
      refine (callsIn_wide.2 (hIn.take _)).mono ?_
      rintro e w3 ⟨rfl, lo3, hIn3, _⟩
      clear hIn
      gi_wp2_with fail
      go_roundw
      case rel => exact ⟨i + 1, lo3, _, by omega, by go_num, by rw [take_P]; exact HSP.out, hIn3⟩
      case measure => simp [intOf]; omega
    · have hR0 : wr.cell? ⟨w.heap.size, 0, none⟩ = some (.int .i64 raw) := (hIn.below.cell (p := ⟨w.heap.size, 0, none⟩) hRB.lt).trans (hRB.cell 0)
      have i3 : ¬ (i : Int) < (m : Int) := by omega
      have hP0 : (0 : Int) ≤ (P : Int) := by omega
      have hP1 : (P : Int) ≤ 7 := by omega
      rcases (show (1 ≤ raw ∧ raw ≤ 32 * (P : Int)) ∨ raw < 1 ∨ (1 ≤ raw ∧ 32 * (P : Int) < raw) by omega) with hin | hin | hin
      · have q1 : (1 : Int) ≤ raw := by omega
        have q2 : raw ≤ 32 * (P : Int) := by omega
        have cP := page_any hIn.at_.toArMem raw
        obtain ⟨pI, hpI⟩ : ∃ pI : Int, pgI s raw = pI := ⟨_, rfl⟩
        have q3 : (raw - 1) / 32 = pI := by rw [← hpI]; unfold pgI; rw [if_pos (by rw [HSP.out]; omega)]; unfold pg; omega
        have q4 : (0 : Int) ≤ pI := by omega
        rw [hpI] at cP
        have HPI := Lib.hid hpI
        clear hpI hin
        gi_wp2_with fail
        refine ⟨trivial, fun h => (by cases h), ?_⟩
        refine (callsIn_wide.2 cP).mono ?_
        rintro e w' ⟨rfl, rfl⟩
        clear cP
        gi_wp2_with fail
        refine ⟨trivial, fun h => (by cases h), ?_⟩
        refine (callsIn_wide.2 (allfn_any X.a _)).mono ?_
        rintro e w' ⟨rfl, rfl⟩
        have hIn6 := (hIn.alloc (.cells #[.bool false] 4)).alloc (.cells #[.pointer (some ⟨X.a, 0, none⟩)] 24)
        have hbox : Blk ((wr.alloc (.cells #[.bool false] 4)).alloc (.cells #[.pointer (some ⟨X.a, 0, none⟩)] 24)) wr.heap.size #[.bool false] 4 := (Blk.new wr _ _).alloc _
        have b0 : (((wr.alloc (.cells #[.bool false] 4)).alloc (.cells #[.pointer (some ⟨X.a, 0, none⟩)] 24))).cell? ⟨wr.heap.size + 1, 0, none⟩ = some (.pointer (some ⟨X.a, 0, none⟩)) := by
          have := (Blk.new (wr.alloc (.cells #[.bool false] 4)) #[.pointer (some ⟨X.a, 0, none⟩)] 24).cell 0
          simp only [World.size_alloc] at this
          exact this
        have hs6 : wr.heap.size + 2 ≤ (((wr.alloc (.cells #[.bool false] 4)).alloc (.cells #[.pointer (some ⟨X.a, 0, none⟩)] 24))).heap.size := by simp
        have hXlt := hIn.at_.lt
        have hsB := hIn.size
        have hF := Lib.hid hIn.at_.fits
        gi_wp2_with fail
        generalize ((wr.alloc (.cells #[.bool false] 4)).alloc (.cells #[.pointer (some ⟨X.a, 0, none⟩)] 24)) = W6 at *
        clear hIn hR0
        generalize wr.heap.size = s0 at *
        have hD6 : TabAt W6 := fun j hj => (hIn6.below.cell (p := ⟨1, j, none⟩) (by show (1 : Nat) < _; omega)).trans (hDb j hj)
        refine wpIn_rangeO rfl (by omega) (gf := 39) (lb := #[.pointer (some ⟨s0 + 1, 0, none⟩)]) rfl trivial (enters_of Tryd.func39 (by kernel_rfl) rfl)
          (allA_seq (X := X.with lo) (M - 1) (by omega) (s0 + 1) W6 hIn6.at_.toArMem hD6 b0) KpAll.trans
          (fun V l o hl => KpAll.putObj (n0 := W6.heap.size) (fun k hk => by have := hXlt k hk; omega) (by omega) (by omega) V l o hl) (Below.refl _ _) (fun _ => rfl)
          (fun st V => ArIn wb.heap.size (X.with lo) s wb V ∧ Blk V s0 #[.bool (cameI st.1 raw)] 4 ∧ W6.heap.size ≤ V.heap.size) (fun _ _ _ => False)
          (fun st V V' row hs hg hr => ⟨hs.1.far hg (fun k e => ⟨by have := (hr k e).1; omega, (hr k e).2⟩), hs.2.1.kept hg (fun k e => (hr k e).2), Nat.le_trans hs.2.2 hg.size⟩)
          (fun _ _ _ _ _ hs _ _ => hs) ⟨hIn6, hbox, Nat.le_refl _⟩ ?a1in ?assignin ?bodyin ?donein ?stopin
        case assignin =>
          intro l0 x V K hK
          gi_wp2
          exact hK
        case bodyin =>
          rintro l0 pre O x V ⟨hI, hbV, hsV⟩ hpl
          have hcb := hbV.cell 0
          have hzb := hbV.free 0
          simp only [List.getElem?_toArray, List.getElem?_cons_zero] at hcb
          have hRV : V.cell? ⟨w.heap.size, 0, none⟩ = some (.int .i64 raw) := (hI.below.cell (p := ⟨w.heap.size, 0, none⟩) hRB.lt).trans (hRB.cell 0)
          have hcs := came_snoc pre x raw
          have HB := Lib.hid hbV
          have fin : ∀ b, b = (cameI pre raw || ((x.val : Nat) : Int) == raw) → ∃ O', Owned W6.heap.size O O' V (V.setCell ⟨s0, 0, none⟩ (.bool b)) ∧ KpAll (X.with lo) (s0 + 1) V (V.setCell ⟨s0, 0, none⟩ (.bool b)) ∧ (ArIn wb.heap.size (X.with lo) s wb (V.setCell ⟨s0, 0, none⟩ (.bool b)) ∧ Blk (V.setCell ⟨s0, 0, none⟩ (.bool b)) s0 #[.bool (cameI (pre ++ [x]) raw)] 4 ∧ W6.heap.size ≤ (V.setCell ⟨s0, 0, none⟩ (.bool b)).heap.size) := fun b hb => by
            have hTs : Turn (fun k => k = s0) V (V.setCell ⟨s0, 0, none⟩ (.bool b)) := (Turn.refl _ V).set _ _ (.inr rfl)
            refine ⟨O, Owned.ofTurn hTs (fun k e => by omega), KpAll.ofTurn hTs (fun k hk => by have := hXlt k hk; omega) (by omega) (by omega) (by omega) (by omega), hI.turned hTs (fun k hk e => by have := hXlt k hk; omega) (fun k hk e => by omega), ?_, by simpa using hsV⟩
            refine (HB.out.setAt 0 _).is ?_
            rw [hb, ← hcs]; rfl
          have HF2 := Lib.hid fin
          clear fin hcs hbV
          cases hb1 : cameI pre raw with
          | true =>
            rw [hb1] at hcb
            have H1 := Lib.hid hb1
            clear hb1
            gi_wp2
            exact HF2.out true (by rw [H1.out]; rfl)
          | false =>
            rw [hb1] at hcb
            have H1 := Lib.hid hb1
            clear hb1
            gi_wp2
            exact HF2.out _ (by rw [H1.out, Bool.false_or])
        case donein =>
          rintro D xs O V hD hxs ⟨hI, hbV, hsV⟩ hK
          rw [came_all hF.out hxs] at hbV
          have hcb := hbV.cell 0
          simp only [List.getElem?_toArray, List.getElem?_cons_zero] at hcb
          have hRV : V.cell? ⟨w.heap.size, 0, none⟩ = some (.int .i64 raw) := (hI.below.cell (p := ⟨w.heap.size, 0, none⟩) hRB.lt).trans (hRB.cell 0)
          have cH := hI.drew.has raw
          have hD6' : wb.heap.size ≤ D := by omega
          have hslt := hbV.lt
          obtain ⟨t, ht⟩ : ∃ t, inS s.S raw = t := ⟨_, rfl⟩
          rw [ht] at hcb cH
          have HT := Lib.hid ht
          clear ht hbV hxs
          gi_wp2_with fail
          refine wpIn_wide.2 ?_
          go_region_held3 (fun W' => W'.cell? ⟨w.heap.size, 0, none⟩ = some (.int .i64 raw) ∧ W'.cell? ⟨s0, 0, none⟩ = some (.bool t)) (first | exact hk4 | exact ⟨hRV, hcb⟩)
            (first
              | (go_at_call 23; refine cH.mono ?_; rintro e w4 ⟨rfl, hB4⟩; have hk4 : w4.cell? ⟨w.heap.size, 0, none⟩ = some (.int .i64 raw) ∧ w4.cell? ⟨s0, 0, none⟩ = some (.bool t) := ⟨(hB4.cell (p := ⟨w.heap.size, 0, none⟩) (World.block_lt_of_cell? V _ hRV)).trans hRV, (hB4.cell (p := ⟨s0, 0, none⟩) (World.block_lt_of_cell? V _ hcb)).trans hcb⟩))
          have hI4 := hI.drew.ask hB4
          have hK4 := ask_deferred hB4 hK
          obtain ⟨hk5, hk6⟩ := hk4
          clear cH hB4 hI hK hRV hcb
          cases t with
          | true =>
            have hr : 0 ≤ raw ∧ s.S raw.toNat = true := by have := HT.out; simpa [inS] using this
            obtain ⟨r, rfl⟩ : ∃ r : Nat, raw = r := ⟨raw.toNat, by omega⟩
            have hrS : s.S r = true := by simpa using hr.2
            obtain ⟨a1, a2, a3, a4⟩ := hF.out.at_ r hrS
            have e1 : clsI s pI = s.cls (pg r) := by
              rw [← HPI.out, pgI, if_pos ⟨by omega, by omega⟩, Int.toNat_natCast]; exact clsI_pg a1 a2
            have hc0 : 0 ≤ clsI s pI := by rw [e1]; rcases okC_cases a3 with e | e | e <;> omega
            clear e1
            have cC := class_any hI4.at_.toArMem pI
            generalize clsI s pI = c at *
            have HG : Hid (inS (s.giveI (r : Int)).S (r : Int) = false) := Lib.hid (by rw [giveI_nat hrS, inS_nat]; simp [dropN])
            clear hr hrS a3 a4
            gi_wp2_with fail
            refine ⟨trivial, fun h => (by cases h), ?_⟩
            refine (callsIn_wide.2 cC).mono ?_
            rintro e w' ⟨rfl, rfl⟩
            have cG := hI4.give (r : Int)
            rw [HT.out] at cG
            clear cC
            gi_wp2_with fail
            refine ⟨trivial, fun h => (by cases h), ?_⟩
            refine (callsIn_wide.2 cG).mono ?_
            rintro e w5 ⟨rfl, lo5, hI5, hS5⟩
            have hK5 := keep_deferred hI4.at_ hS5 hK4
            have hk7 : w5.cell? ⟨w.heap.size, 0, none⟩ = some (.int .i64 (r : Int)) := (hI5.below.cell (p := ⟨w.heap.size, 0, none⟩) hRB.lt).trans (hRB.cell 0)
            have cH2 := hI5.has (r : Int)
            rw [HG.out] at cH2
            clear cG hI4 hS5 hK4 hk5 hk6
            gi_wp2_with fail
            refine ⟨trivial, fun h => (by cases h), ?_⟩
            refine (callsIn_wide.2 cH2).mono ?_
            rintro e w6 ⟨rfl, hB6⟩
            have hI6 := hI5.ask hB6
            have hK6 := ask_deferred hB6 hK5
            clear cH2 hI5 hB6 hK5 hk7
            gi_wp2_with fail
            refine ⟨by simp, .inl ⟨D, _, rfl, run_takeDeferred hK6, ?_⟩⟩
            exact ⟨_, results_tmp rfl _ _ _, rfl, take_end hK6 (by omega) (hBb.trans (hI6.below.mono (by omega)))⟩
          | false =>
            have cW := word_any hI4.at_ hI4.tabAt raw 0
            rw [show wordI s raw 0 = 0 by unfold wordI; rw [if_neg (by rw [hasWd_no HT.out]; decide)]] at cW
            gi_wp2_with fail
            refine ⟨trivial, fun h => (by cases h), ?_⟩
            refine (callsIn_wide.2 cW).mono ?_
            rintro e w5 ⟨rfl, hB5⟩
            have hI5 := hI4.ask hB5
            have hK5 := ask_deferred hB5 hK4
            have hk7 : w5.cell? ⟨w.heap.size, 0, none⟩ = some (.int .i64 raw) := (hB5.cell (p := ⟨w.heap.size, 0, none⟩) (World.block_lt_of_cell? w4 _ hk5)).trans hk5
            have cS := set_any hI5.at_ hI5.tabAt raw 0 5
            rw [hasWd_no HT.out, show s.setW raw 0 5 = s by unfold ArS.setW; rw [if_neg (by rw [hasWd_no HT.out]; decide)]] at cS
            clear cW hB5 hk5 hk6 hI4 hK4
            gi_wp2_with fail
            refine ⟨trivial, fun h => (by cases h), ?_⟩
            refine (callsIn_wide.2 cS).mono ?_
            intro e w6 hP6
            obtain ⟨rfl, lo6, hI6, hS6⟩ := hI5.post hP6
            have hK6 := keep_deferred hI5.at_ hS6 hK5
            have hk8 : w6.cell? ⟨w.heap.size, 0, none⟩ = some (.int .i64 raw) := (hI6.below.cell (p := ⟨w.heap.size, 0, none⟩) hRB.lt).trans (hRB.cell 0)
            have cG := hI6.give raw
            rw [HT.out] at cG
            clear cS hP6 hk7 hI5 hK5 hS6
            gi_wp2_with fail
            refine ⟨trivial, fun h => (by cases h), ?_⟩
            refine (callsIn_wide.2 cG).mono ?_
            rintro e w7 ⟨rfl, lo7, hI7, hS7⟩
            have hK7 := keep_deferred hI6.at_ hS7 hK6
            clear cG hI6 hS7 hK6 hk8
            gi_wp2_with fail
            refine ⟨by simp, .inl ⟨D, _, rfl, run_takeDeferred hK7, ?_⟩⟩
            exact ⟨_, results_tmp rfl _ _ _, rfl, take_end hK7 (by omega) (hBb.trans (hI7.below.mono (by omega)))⟩
        case stopin =>
          intro D c pre O V hD _ h _
          exact h.elim
      · have q1 : raw < (1 : Int) := by omega
        have cP := page_any hIn.at_.toArMem raw
        obtain ⟨pI, hpI⟩ : ∃ pI : Int, pgI s raw = pI := ⟨_, rfl⟩
        have q3 : pI = -1 := by rw [← hpI]; unfold pgI; rw [if_neg (by omega)]
        subst q3
        rw [hpI] at cP
        have HPI := Lib.hid hpI
        clear hpI hin
        gi_wp2_with fail
        refine ⟨trivial, fun h => (by cases h), ?_⟩
        refine (callsIn_wide.2 cP).mono ?_
        rintro e w' ⟨rfl, rfl⟩
        clear cP
        gi_wp2_with fail
        refine ⟨trivial, fun h => (by cases h), ?_⟩
        refine (callsIn_wide.2 (allfn_any X.a _)).mono ?_
        rintro e w' ⟨rfl, rfl⟩
        have hIn6 := (hIn.alloc (.cells #[.bool false] 4)).alloc (.cells #[.pointer (some ⟨X.a, 0, none⟩)] 24)
        have hbox : Blk ((wr.alloc (.cells #[.bool false] 4)).alloc (.cells #[.pointer (some ⟨X.a, 0, none⟩)] 24)) wr.heap.size #[.bool false] 4 := (Blk.new wr _ _).alloc _
        have b0 : (((wr.alloc (.cells #[.bool false] 4)).alloc (.cells #[.pointer (some ⟨X.a, 0, none⟩)] 24))).cell? ⟨wr.heap.size + 1, 0, none⟩ = some (.pointer (some ⟨X.a, 0, none⟩)) := by
          have := (Blk.new (wr.alloc (.cells #[.bool false] 4)) #[.pointer (some ⟨X.a, 0, none⟩)] 24).cell 0
          simp only [World.size_alloc] at this
          exact this
        have hs6 : wr.heap.size + 2 ≤ (((wr.alloc (.cells #[.bool false] 4)).alloc (.cells #[.pointer (some ⟨X.a, 0, none⟩)] 24))).heap.size := by simp
        have hXlt := hIn.at_.lt
        have hsB := hIn.size
        have hF := Lib.hid hIn.at_.fits
        gi_wp2_with fail
        generalize ((wr.alloc (.cells #[.bool false] 4)).alloc (.cells #[.pointer (some ⟨X.a, 0, none⟩)] 24)) = W6 at *
        clear hIn hR0
        generalize wr.heap.size = s0 at *
        have hD6 : TabAt W6 := fun j hj => (hIn6.below.cell (p := ⟨1, j, none⟩) (by show (1 : Nat) < _; omega)).trans (hDb j hj)
        refine wpIn_rangeO rfl (by omega) (gf := 39) (lb := #[.pointer (some ⟨s0 + 1, 0, none⟩)]) rfl trivial (enters_of Tryd.func39 (by kernel_rfl) rfl)
          (allA_seq (X := X.with lo) (M - 1) (by omega) (s0 + 1) W6 hIn6.at_.toArMem hD6 b0) KpAll.trans
          (fun V l o hl => KpAll.putObj (n0 := W6.heap.size) (fun k hk => by have := hXlt k hk; omega) (by omega) (by omega) V l o hl) (Below.refl _ _) (fun _ => rfl)
          (fun st V => ArIn wb.heap.size (X.with lo) s wb V ∧ Blk V s0 #[.bool (cameI st.1 raw)] 4 ∧ W6.heap.size ≤ V.heap.size) (fun _ _ _ => False)
          (fun st V V' row hs hg hr => ⟨hs.1.far hg (fun k e => ⟨by have := (hr k e).1; omega, (hr k e).2⟩), hs.2.1.kept hg (fun k e => (hr k e).2), Nat.le_trans hs.2.2 hg.size⟩)
          (fun _ _ _ _ _ hs _ _ => hs) ⟨hIn6, hbox, Nat.le_refl _⟩ ?a1lo ?assignlo ?bodylo ?donelo ?stoplo
        case assignlo =>
          intro l0 x V K hK
          gi_wp2
          exact hK
        case bodylo =>
          rintro l0 pre O x V ⟨hI, hbV, hsV⟩ hpl
          have hcb := hbV.cell 0
          have hzb := hbV.free 0
          simp only [List.getElem?_toArray, List.getElem?_cons_zero] at hcb
          have hRV : V.cell? ⟨w.heap.size, 0, none⟩ = some (.int .i64 raw) := (hI.below.cell (p := ⟨w.heap.size, 0, none⟩) hRB.lt).trans (hRB.cell 0)
          have hcs := came_snoc pre x raw
          have HB := Lib.hid hbV
          have fin : ∀ b, b = (cameI pre raw || ((x.val : Nat) : Int) == raw) → ∃ O', Owned W6.heap.size O O' V (V.setCell ⟨s0, 0, none⟩ (.bool b)) ∧ KpAll (X.with lo) (s0 + 1) V (V.setCell ⟨s0, 0, none⟩ (.bool b)) ∧ (ArIn wb.heap.size (X.with lo) s wb (V.setCell ⟨s0, 0, none⟩ (.bool b)) ∧ Blk (V.setCell ⟨s0, 0, none⟩ (.bool b)) s0 #[.bool (cameI (pre ++ [x]) raw)] 4 ∧ W6.heap.size ≤ (V.setCell ⟨s0, 0, none⟩ (.bool b)).heap.size) := fun b hb => by
            have hTs : Turn (fun k => k = s0) V (V.setCell ⟨s0, 0, none⟩ (.bool b)) := (Turn.refl _ V).set _ _ (.inr rfl)
            refine ⟨O, Owned.ofTurn hTs (fun k e => by omega), KpAll.ofTurn hTs (fun k hk => by have := hXlt k hk; omega) (by omega) (by omega) (by omega) (by omega), hI.turned hTs (fun k hk e => by have := hXlt k hk; omega) (fun k hk e => by omega), ?_, by simpa using hsV⟩
            refine (HB.out.setAt 0 _).is ?_
            rw [hb, ← hcs]; rfl
          have HF2 := Lib.hid fin
          clear fin hcs hbV
          cases hb1 : cameI pre raw with
          | true =>
            rw [hb1] at hcb
            have H1 := Lib.hid hb1
            clear hb1
            gi_wp2
            exact HF2.out true (by rw [H1.out]; rfl)
          | false =>
            rw [hb1] at hcb
            have H1 := Lib.hid hb1
            clear hb1
            gi_wp2
            exact HF2.out _ (by rw [H1.out, Bool.false_or])
        case donelo =>
          rintro D xs O V hD hxs ⟨hI, hbV, hsV⟩ hK
          rw [came_all hF.out hxs] at hbV
          have hcb := hbV.cell 0
          simp only [List.getElem?_toArray, List.getElem?_cons_zero] at hcb
          have hRV : V.cell? ⟨w.heap.size, 0, none⟩ = some (.int .i64 raw) := (hI.below.cell (p := ⟨w.heap.size, 0, none⟩) hRB.lt).trans (hRB.cell 0)
          have cH := hI.drew.has raw
          have hD6' : wb.heap.size ≤ D := by omega
          have hslt := hbV.lt
          obtain ⟨t, ht⟩ : ∃ t, inS s.S raw = t := ⟨_, rfl⟩
          rw [ht] at hcb cH
          have HT := Lib.hid ht
          clear ht hbV hxs
          gi_wp2_with fail
          refine wpIn_wide.2 ?_
          go_region_held3 (fun W' => W'.cell? ⟨w.heap.size, 0, none⟩ = some (.int .i64 raw) ∧ W'.cell? ⟨s0, 0, none⟩ = some (.bool t)) (first | exact hk4 | exact ⟨hRV, hcb⟩)
            (first
              | (go_at_call 23; refine cH.mono ?_; rintro e w4 ⟨rfl, hB4⟩; have hk4 : w4.cell? ⟨w.heap.size, 0, none⟩ = some (.int .i64 raw) ∧ w4.cell? ⟨s0, 0, none⟩ = some (.bool t) := ⟨(hB4.cell (p := ⟨w.heap.size, 0, none⟩) (World.block_lt_of_cell? V _ hRV)).trans hRV, (hB4.cell (p := ⟨s0, 0, none⟩) (World.block_lt_of_cell? V _ hcb)).trans hcb⟩))
          have hI4 := hI.drew.ask hB4
          have hK4 := ask_deferred hB4 hK
          obtain ⟨hk5, hk6⟩ := hk4
          clear cH hB4 hI hK hRV hcb
          cases t with
          | true =>
            exfalso
            have hr : 0 ≤ raw ∧ s.S raw.toNat = true := by have := HT.out; simpa [inS] using this
            obtain ⟨r, rfl⟩ : ∃ r : Nat, raw = r := ⟨raw.toNat, by omega⟩
            have h3 := hF.out.at_ r (by simpa using hr.2)
            have h4 := HSP.out
            omega
          | false =>
            have cW := word_any hI4.at_ hI4.tabAt raw 0
            rw [show wordI s raw 0 = 0 by unfold wordI; rw [if_neg (by rw [hasWd_no HT.out]; decide)]] at cW
            gi_wp2_with fail
            refine ⟨trivial, fun h => (by cases h), ?_⟩
            refine (callsIn_wide.2 cW).mono ?_
            rintro e w5 ⟨rfl, hB5⟩
            have hI5 := hI4.ask hB5
            have hK5 := ask_deferred hB5 hK4
            have hk7 : w5.cell? ⟨w.heap.size, 0, none⟩ = some (.int .i64 raw) := (hB5.cell (p := ⟨w.heap.size, 0, none⟩) (World.block_lt_of_cell? w4 _ hk5)).trans hk5
            have cS := set_any hI5.at_ hI5.tabAt raw 0 5
            rw [hasWd_no HT.out, show s.setW raw 0 5 = s by unfold ArS.setW; rw [if_neg (by rw [hasWd_no HT.out]; decide)]] at cS
            clear cW hB5 hk5 hk6 hI4 hK4
            gi_wp2_with fail
            refine ⟨trivial, fun h => (by cases h), ?_⟩
            refine (callsIn_wide.2 cS).mono ?_
            intro e w6 hP6
            obtain ⟨rfl, lo6, hI6, hS6⟩ := hI5.post hP6
            have hK6 := keep_deferred hI5.at_ hS6 hK5
            have hk8 : w6.cell? ⟨w.heap.size, 0, none⟩ = some (.int .i64 raw) := (hI6.below.cell (p := ⟨w.heap.size, 0, none⟩) hRB.lt).trans (hRB.cell 0)
            have cG := hI6.give raw
            rw [HT.out] at cG
            clear cS hP6 hk7 hI5 hK5 hS6
            gi_wp2_with fail
            refine ⟨trivial, fun h => (by cases h), ?_⟩
            refine (callsIn_wide.2 cG).mono ?_
            rintro e w7 ⟨rfl, lo7, hI7, hS7⟩
            have hK7 := keep_deferred hI6.at_ hS7 hK6
            clear cG hI6 hS7 hK6 hk8
            gi_wp2_with fail
            refine ⟨by simp, .inl ⟨D, _, rfl, run_takeDeferred hK7, ?_⟩⟩
            exact ⟨_, results_tmp rfl _ _ _, rfl, take_end hK7 (by omega) (hBb.trans (hI7.below.mono (by omega)))⟩
        case stoplo =>
          intro D c pre O V hD _ h _
          exact h.elim
      · have q1 : (1 : Int) ≤ raw := by omega
        have q2 : ¬ raw ≤ 32 * (P : Int) := by omega
        have cP := page_any hIn.at_.toArMem raw
        obtain ⟨pI, hpI⟩ : ∃ pI : Int, pgI s raw = pI := ⟨_, rfl⟩
        have q3 : pI = -1 := by rw [← hpI]; unfold pgI; rw [if_neg (by rw [HSP.out]; omega)]
        subst q3
        rw [hpI] at cP
        have HPI := Lib.hid hpI
        clear hpI hin
        gi_wp2_with fail
        refine ⟨trivial, fun h => (by cases h), ?_⟩
        refine (callsIn_wide.2 cP).mono ?_
        rintro e w' ⟨rfl, rfl⟩
        clear cP
        gi_wp2_with fail
        refine ⟨trivial, fun h => (by cases h), ?_⟩
        refine (callsIn_wide.2 (allfn_any X.a _)).mono ?_
        rintro e w' ⟨rfl, rfl⟩
        have hIn6 := (hIn.alloc (.cells #[.bool false] 4)).alloc (.cells #[.pointer (some ⟨X.a, 0, none⟩)] 24)
        have hbox : Blk ((wr.alloc (.cells #[.bool false] 4)).alloc (.cells #[.pointer (some ⟨X.a, 0, none⟩)] 24)) wr.heap.size #[.bool false] 4 := (Blk.new wr _ _).alloc _
        have b0 : (((wr.alloc (.cells #[.bool false] 4)).alloc (.cells #[.pointer (some ⟨X.a, 0, none⟩)] 24))).cell? ⟨wr.heap.size + 1, 0, none⟩ = some (.pointer (some ⟨X.a, 0, none⟩)) := by
          have := (Blk.new (wr.alloc (.cells #[.bool false] 4)) #[.pointer (some ⟨X.a, 0, none⟩)] 24).cell 0
          simp only [World.size_alloc] at this
          exact this
        have hs6 : wr.heap.size + 2 ≤ (((wr.alloc (.cells #[.bool false] 4)).alloc (.cells #[.pointer (some ⟨X.a, 0, none⟩)] 24))).heap.size := by simp
        have hXlt := hIn.at_.lt
        have hsB := hIn.size
        have hF := Lib.hid hIn.at_.fits
        gi_wp2_with fail
        generalize ((wr.alloc (.cells #[.bool false] 4)).alloc (.cells #[.pointer (some ⟨X.a, 0, none⟩)] 24)) = W6 at *
        clear hIn hR0
        generalize wr.heap.size = s0 at *
        have hD6 : TabAt W6 := fun j hj => (hIn6.below.cell (p := ⟨1, j, none⟩) (by show (1 : Nat) < _; omega)).trans (hDb j hj)
        refine wpIn_rangeO rfl (by omega) (gf := 39) (lb := #[.pointer (some ⟨s0 + 1, 0, none⟩)]) rfl trivial (enters_of Tryd.func39 (by kernel_rfl) rfl)
          (allA_seq (X := X.with lo) (M - 1) (by omega) (s0 + 1) W6 hIn6.at_.toArMem hD6 b0) KpAll.trans
          (fun V l o hl => KpAll.putObj (n0 := W6.heap.size) (fun k hk => by have := hXlt k hk; omega) (by omega) (by omega) V l o hl) (Below.refl _ _) (fun _ => rfl)
          (fun st V => ArIn wb.heap.size (X.with lo) s wb V ∧ Blk V s0 #[.bool (cameI st.1 raw)] 4 ∧ W6.heap.size ≤ V.heap.size) (fun _ _ _ => False)
          (fun st V V' row hs hg hr => ⟨hs.1.far hg (fun k e => ⟨by have := (hr k e).1; omega, (hr k e).2⟩), hs.2.1.kept hg (fun k e => (hr k e).2), Nat.le_trans hs.2.2 hg.size⟩)
          (fun _ _ _ _ _ hs _ _ => hs) ⟨hIn6, hbox, Nat.le_refl _⟩ ?a1hi ?assignhi ?bodyhi ?donehi ?stophi
        case assignhi =>
          intro l0 x V K hK
          gi_wp2
          exact hK
        case bodyhi =>
          rintro l0 pre O x V ⟨hI, hbV, hsV⟩ hpl
          have hcb := hbV.cell 0
          have hzb := hbV.free 0
          simp only [List.getElem?_toArray, List.getElem?_cons_zero] at hcb
          have hRV : V.cell? ⟨w.heap.size, 0, none⟩ = some (.int .i64 raw) := (hI.below.cell (p := ⟨w.heap.size, 0, none⟩) hRB.lt).trans (hRB.cell 0)
          have hcs := came_snoc pre x raw
          have HB := Lib.hid hbV
          have fin : ∀ b, b = (cameI pre raw || ((x.val : Nat) : Int) == raw) → ∃ O', Owned W6.heap.size O O' V (V.setCell ⟨s0, 0, none⟩ (.bool b)) ∧ KpAll (X.with lo) (s0 + 1) V (V.setCell ⟨s0, 0, none⟩ (.bool b)) ∧ (ArIn wb.heap.size (X.with lo) s wb (V.setCell ⟨s0, 0, none⟩ (.bool b)) ∧ Blk (V.setCell ⟨s0, 0, none⟩ (.bool b)) s0 #[.bool (cameI (pre ++ [x]) raw)] 4 ∧ W6.heap.size ≤ (V.setCell ⟨s0, 0, none⟩ (.bool b)).heap.size) := fun b hb => by
            have hTs : Turn (fun k => k = s0) V (V.setCell ⟨s0, 0, none⟩ (.bool b)) := (Turn.refl _ V).set _ _ (.inr rfl)
            refine ⟨O, Owned.ofTurn hTs (fun k e => by omega), KpAll.ofTurn hTs (fun k hk => by have := hXlt k hk; omega) (by omega) (by omega) (by omega) (by omega), hI.turned hTs (fun k hk e => by have := hXlt k hk; omega) (fun k hk e => by omega), ?_, by simpa using hsV⟩
            refine (HB.out.setAt 0 _).is ?_
            rw [hb, ← hcs]; rfl
          have HF2 := Lib.hid fin
          clear fin hcs hbV
          cases hb1 : cameI pre raw with
          | true =>
            rw [hb1] at hcb
            have H1 := Lib.hid hb1
            clear hb1
            gi_wp2
            exact HF2.out true (by rw [H1.out]; rfl)
          | false =>
            rw [hb1] at hcb
            have H1 := Lib.hid hb1
            clear hb1
            gi_wp2
            exact HF2.out _ (by rw [H1.out, Bool.false_or])
        case donehi =>
          rintro D xs O V hD hxs ⟨hI, hbV, hsV⟩ hK
          rw [came_all hF.out hxs] at hbV
          have hcb := hbV.cell 0
          simp only [List.getElem?_toArray, List.getElem?_cons_zero] at hcb
          have hRV : V.cell? ⟨w.heap.size, 0, none⟩ = some (.int .i64 raw) := (hI.below.cell (p := ⟨w.heap.size, 0, none⟩) hRB.lt).trans (hRB.cell 0)
          have cH := hI.drew.has raw
          have hD6' : wb.heap.size ≤ D := by omega
          have hslt := hbV.lt
          obtain ⟨t, ht⟩ : ∃ t, inS s.S raw = t := ⟨_, rfl⟩
          rw [ht] at hcb cH
          have HT := Lib.hid ht
          clear ht hbV hxs
          gi_wp2_with fail
          refine wpIn_wide.2 ?_
          go_region_held3 (fun W' => W'.cell? ⟨w.heap.size, 0, none⟩ = some (.int .i64 raw) ∧ W'.cell? ⟨s0, 0, none⟩ = some (.bool t)) (first | exact hk4 | exact ⟨hRV, hcb⟩)
            (first
              | (go_at_call 23; refine cH.mono ?_; rintro e w4 ⟨rfl, hB4⟩; have hk4 : w4.cell? ⟨w.heap.size, 0, none⟩ = some (.int .i64 raw) ∧ w4.cell? ⟨s0, 0, none⟩ = some (.bool t) := ⟨(hB4.cell (p := ⟨w.heap.size, 0, none⟩) (World.block_lt_of_cell? V _ hRV)).trans hRV, (hB4.cell (p := ⟨s0, 0, none⟩) (World.block_lt_of_cell? V _ hcb)).trans hcb⟩))
          have hI4 := hI.drew.ask hB4
          have hK4 := ask_deferred hB4 hK
          obtain ⟨hk5, hk6⟩ := hk4
          clear cH hB4 hI hK hRV hcb
          cases t with
          | true =>
            exfalso
            have hr : 0 ≤ raw ∧ s.S raw.toNat = true := by have := HT.out; simpa [inS] using this
            obtain ⟨r, rfl⟩ : ∃ r : Nat, raw = r := ⟨raw.toNat, by omega⟩
            have h3 := hF.out.at_ r (by simpa using hr.2)
            have h4 := HSP.out
            omega
          | false =>
            have cW := word_any hI4.at_ hI4.tabAt raw 0
            rw [show wordI s raw 0 = 0 by unfold wordI; rw [if_neg (by rw [hasWd_no HT.out]; decide)]] at cW
            gi_wp2_with fail
            refine ⟨trivial, fun h => (by cases h), ?_⟩
            refine (callsIn_wide.2 cW).mono ?_
            rintro e w5 ⟨rfl, hB5⟩
            have hI5 := hI4.ask hB5
            have hK5 := ask_deferred hB5 hK4
            have hk7 : w5.cell? ⟨w.heap.size, 0, none⟩ = some (.int .i64 raw) := (hB5.cell (p := ⟨w.heap.size, 0, none⟩) (World.block_lt_of_cell? w4 _ hk5)).trans hk5
            have cS := set_any hI5.at_ hI5.tabAt raw 0 5
            rw [hasWd_no HT.out, show s.setW raw 0 5 = s by unfold ArS.setW; rw [if_neg (by rw [hasWd_no HT.out]; decide)]] at cS
            clear cW hB5 hk5 hk6 hI4 hK4
            gi_wp2_with fail
            refine ⟨trivial, fun h => (by cases h), ?_⟩
            refine (callsIn_wide.2 cS).mono ?_
            intro e w6 hP6
            obtain ⟨rfl, lo6, hI6, hS6⟩ := hI5.post hP6
            have hK6 := keep_deferred hI5.at_ hS6 hK5
            have hk8 : w6.cell? ⟨w.heap.size, 0, none⟩ = some (.int .i64 raw) := (hI6.below.cell (p := ⟨w.heap.size, 0, none⟩) hRB.lt).trans (hRB.cell 0)
            have cG := hI6.give raw
            rw [HT.out] at cG
            clear cS hP6 hk7 hI5 hK5 hS6
            gi_wp2_with fail
            refine ⟨trivial, fun h => (by cases h), ?_⟩
            refine (callsIn_wide.2 cG).mono ?_
            rintro e w7 ⟨rfl, lo7, hI7, hS7⟩
            have hK7 := keep_deferred hI6.at_ hS7 hK6
            clear cG hI6 hS7 hK6 hk8
            gi_wp2_with fail
            refine ⟨by simp, .inl ⟨D, _, rfl, run_takeDeferred hK7, ?_⟩⟩
            exact ⟨_, results_tmp rfl _ _ _, rfl, take_end hK7 (by omega) (hBb.trans (hI7.below.mono (by omega)))⟩
        case stophi =>
          intro D c pre O V hD _ h _
          exact h.elim
end Go.Proofs.YtedgladjkfebmaaDoor
