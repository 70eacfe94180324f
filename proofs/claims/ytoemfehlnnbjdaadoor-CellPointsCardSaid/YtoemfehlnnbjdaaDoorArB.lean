/- seek, at this seat's numbers. -/
import Derived.Test.YtoemfehlnnbjdaaDoorArA
import Derived.WalkMore
import Derived.Deep.LoopGhost
namespace Go.Proofs.YtoemfehlnnbjdaaDoor
open Go Go.RowKit Go.Shelf Go.MuLone Go.RwLone
set_option linter.unusedSimpArgs false
set_option linter.unusedVariables false

theorem TableAt.turn {M : Nat → Prop} {w w' : World} (hT : TableAt w) (ht : Turn M w w') (hn : ¬ M 0) : TableAt w' := by
  obtain ⟨T, fr, hT⟩ := hT
  exact ⟨T, fr, (ht.block _ (lt_of_block hT) hn).trans hT⟩
theorem TableAt.lt {w : World} (hT : TableAt w) : 0 < w.heap.size := by
  obtain ⟨T, fr, hT⟩ := hT; exact lt_of_block hT
/-- The table is none of an arena's blocks. -/
theorem TableAt.far {w : World} {X : ArB} {s : ArS} (hT : TableAt w) (h : ArAt w X s) : ¬ X.has 0 := by
  have t0 := hT.cell 0
  have t1 := hT.cell 1
  rintro (e | e | e | e | e)
  · have := h.head.cell 0
    rw [← e, t0] at this; cases this
  · have h1 := h.page.cell 1
    rw [← e, t1] at h1
    by_cases hp : 1 < s.P
    · rw [row_get _ hp] at h1
      have h2 : (4 : Int) = s.cls 1 := by simpa using h1
      rcases h.fits.cl 1 hp with x | x
      · omega
      · rw [← h2] at x; cases x
    · have h2 : (row s.P s.cls)[1]? = none := Array.getElem?_eq_none (by rw [row_size]; omega)
      rw [h2] at h1; cases h1
  · obtain ⟨T, fr, hT⟩ := hT
    have h1 := h.word
    unfold Blk at h1
    rw [← e, hT] at h1
    have h2 : wordsRow = row (32 * s.P + 1) s.ws := by simpa using congrArg (fun o => match o with | some (.cells cs _ _) => cs | _ => #[]) h1
    have h3 := congrArg Array.size h2
    rw [row_size] at h3
    have : wordsRow.size = 3 := rfl
    omega
  · obtain ⟨d, l, hB⟩ := h.set.2.2.blk
    have h1 := hB.cell 2
    rw [← e] at h1
    have t2 := hT.cell 2
    rw [t2] at h1; cases h1
  · obtain ⟨_, _, h3⟩ := h.set
    rw [e] at h3
    obtain ⟨_, _, ws, h6, h7⟩ := h3
    obtain ⟨x, hx, hw, _⟩ := h7.2 0 (by omega)
    have h1 := h6.cell 0
    rw [t0, hw] at h1; cases h1
theorem TableAt.below {w w' : World} (hT : TableAt w) (hB : Below w.heap.size w w') : TableAt w' := hT.turn (Turn.ofBelow hB) (fun e => by have := hT.lt; omega)
theorem TableAt.step {w w' : World} {X X' : ArB} {s : ArS} (hT : TableAt w) (h : ArAt w X s) (hs : ArStep X w X' w') : TableAt w' := hT.turn hs.turn (hT.far h)

theorem free_next {s : ArS} {c : Int} {p k W C : Nat} (hW : wN c = W) (hCW : C * W = 32) (hk : k < C) (hW1 : W = 2 ∨ W = 4 ∨ W = 8) (h : ∀ r, r ≤ 32 * p + k * W → free1 s c r = false) (hS : s.S (32 * p + k * W + 1) = true) :
    ∀ r, r ≤ 32 * p + (k + 1) * W → free1 s c r = false := fun r hr => by
  by_cases h1 : r ≤ 32 * p + k * W
  · exact h r h1
  · cases e : free1 s c r with
    | false => rfl
    | true =>
      obtain ⟨a1, a2, a3, a4, a5⟩ := free1_open e
      rw [hW] at a4
      have : r = 32 * p + k * W + 1 := by
        rcases hW1 with rfl | rfl | rfl <;> omega
      rw [this, hS] at a5; cases a5
theorem free_cell {s : ArS} {c : Int} {p k W C : Nat} (hW : wN c = W) (hCW : C * W = 32) (hk : k < C) (hW1 : W = 2 ∨ W = 4 ∨ W = 8) (hp : p < s.P) (hc : s.cls p = c) (h : ∀ r, r ≤ 32 * p + k * W → free1 s c r = false) (hS : s.S (32 * p + k * W + 1) = false) :
    free1 s c (32 * p + k * W + 1) = true ∧ ∀ r, r < 32 * p + k * W + 1 → free1 s c r = false := by
  refine ⟨free1_mk (by omega) ?_ ?_ ?_ hS, fun r hr => h r (by omega)⟩
  · rcases hW1 with rfl | rfl | rfl <;> omega
  · rw [show pg (32 * p + k * W + 1) = p by unfold pg; rcases hW1 with rfl | rfl | rfl <;> omega]; exact hc
  · rw [hW]; rcases hW1 with rfl | rfl | rfl <;> omega
theorem free_other {s : ArS} {c : Int} {p : Nat} (hc : s.cls p ≠ c) (h : ∀ r, r ≤ 32 * p → free1 s c r = false) : ∀ r, r ≤ 32 * (p + 1) → free1 s c r = false := fun r hr => by
  by_cases h1 : r ≤ 32 * p
  · exact h r h1
  · cases e : free1 s c r with
    | false => rfl
    | true =>
      obtain ⟨a1, a2, a3, a4, a5⟩ := free1_open e
      rw [show pg r = p by unfold pg; omega] at a3
      exact absurd a3 hc

/-- Between two rounds over the pages. -/
def SeekO (s : ArS) (w : World) (c : Int) (v6 v18 : Value) (wr : World) : Prop :=
  ∃ p : Nat, p ≤ s.P ∧ v18 = .int .i64 (p : Int) ∧ v6 = .int .i64 ((spare s p : Nat) : Int) ∧ Below w.heap.size w wr ∧ ∀ r, r ≤ 32 * p → free1 s c r = false
/-- Between two rounds over a page's cells. -/
def SeekI (s : ArS) (w : World) (c : Int) (p W C : Nat) (v6 v25 : Value) (wr : World) : Prop :=
  ∃ k : Nat, k ≤ C ∧ v25 = .int .i64 (k : Int) ∧ v6 = .int .i64 ((spare s p : Nat) : Int) ∧ Below w.heap.size w wr ∧ ∀ r, r ≤ 32 * p + k * W → free1 s c r = false

theorem cellsW (c : Int) (C : Nat) (w : World) (hT : TableAt w) (h : cellsOfC c = C) : Calls Tryd.prog 90 #[.int .i64 c] w fun e w' => e = .returned (.int .i64 (C : Int)) ∧ w = w' := by
  rw [← h]; exact cellsC_any c w hT
theorem offsetW (c : Int) (k : Nat) (W C : Nat) (w : World) (hT : TableAt w) (hW : wordsOf c = W) (hC : cellsOfC c = C) (hk : k < C) : Calls Tryd.prog 91 #[.int .i64 c, .int .i64 (k : Int)] w fun e w' => e = .returned (.tuple #[.int .i64 ((k * W : Nat) : Int), .bool true]) ∧ w = w' := by
  have h := offset_yes c k w hT (by omega) (by omega)
  rw [hW] at h
  rw [Int.natCast_mul]; exact h
theorem hasW {w : World} {X : ArB} {s : ArS} (h : ArMem w X s) (r : Nat) (x : Int) (b : Bool) (hx : x = r) (hb : s.S r = b) : Calls Tryd.prog 31 #[.pointer (some ⟨X.a, 0, none⟩), .int .i64 x] w fun e w' => e = .returned (.bool b) ∧ Below w.heap.size w w' := by
  subst hx hb
  have hh := has_any h r
  rw [inS_nat] at hh
  exact hh
theorem kW_le {k W C : Nat} (hCW : C * W = 32) (hW1 : W = 2 ∨ W = 4 ∨ W = 8) (hk : k < C) : k * W + W ≤ 32 := by
  rcases hW1 with rfl | rfl | rfl <;> omega
theorem SeekI.mk {s : ArS} {w w1 w2 : World} {c : Int} {p W C k : Nat} (x : Int) (hx : x = k) (hk : k ≤ C) (h1 : Below w.heap.size w w1) (h2 : Below w1.heap.size w1 w2) (hf : ∀ r, r ≤ 32 * p + k * W → free1 s c r = false) :
    SeekI s w c p W C (.int .i64 ((spare s p : Nat) : Int)) (.int .i64 x) w2 := ⟨k, hk, by rw [hx], rfl, below_step h1 h2, hf⟩
theorem SeekO.mk {s : ArS} {w w1 : World} {c : Int} {p : Nat} (x y : Int) (hx : x = p) (hy : y = (spare s p : Nat)) (hp : p ≤ s.P) (h1 : Below w.heap.size w w1) (hf : ∀ r, r ≤ 32 * p → free1 s c r = false) :
    SeekO s w c (.int .i64 y) (.int .i64 x) w1 := ⟨p, hp, by rw [hx], by rw [hy], h1, hf⟩
/-- What seek leaves: the Ref, and all that there was. -/
def SeekPost (s : ArS) (c : Int) (w : World) (e : Ending) (w' : World) : Prop :=
  e = .returned (.tuple #[.int .i64 ((seekF s c : Nat) : Int), .bool (((seekF s c : Nat) : Int) != 0)]) ∧ Below w.heap.size w w'
theorem seek_post {s : ArS} {c : Int} {w w1 : World} {r : Nat} {x : Int} {b : Bool} {e : Ending} (he : e = .returned (.tuple #[.int .i64 x, .bool b])) (hx : x = r) (hb : b = ((r : Int) != 0)) (h1 : Below w.heap.size w w1) (hr : seekF s c = r) :
    SeekPost s c w e w1 := by
  subst hx hb
  unfold SeekPost
  rw [hr]
  exact ⟨he, h1⟩
theorem spare_up {s : ArS} {p : Nat} (h : s.cls p ≠ -1 ∨ spare s p ≠ 0) : spare s (p + 1) = spare s p := by
  rw [spare_step, if_neg (by omega)]
theorem spare_at {s : ArS} {p : Nat} (h : s.cls p = -1) (h2 : spare s p = 0) : spare s (p + 1) = 32 * p + 1 := by
  rw [spare_step, if_pos ⟨h, h2⟩]
theorem not_eqb {a b : Int} (h : a ≠ b) : (a == b) = false := by simpa using h

set_option maxRecDepth 100000 in
set_option maxHeartbeats 4000000 in
theorem seek_yes {w : World} {X : ArB} {s : ArS} (h : ArAt w X s) (hT : TableAt w) (c : Int) (hc : okC c = true) (W C : Nat) (hW : wordsOf c = W) (hC : cellsOfC c = C) (hCW : C * W = 32) (hW1 : W = 2 ∨ W = 4 ∨ W = 8) (hC4 : 4 ≤ C) (hC16 : C ≤ 16) :
    Calls Tryd.prog 55 #[.pointer (some ⟨X.a, 0, none⟩), .int .i64 c] w (SeekPost s c w) := by
  have hT0 := hT
  have h0 := h.c0
  have hp64 := h.fits.p64
  have hW' : wN c = W := by unfold wN; omega
  have HC := Lib.hid hC
  have HW := Lib.hid hW
  have HW' := Lib.hid hW'
  have HCW := Lib.hid hCW
  clear hC hW hW' hCW
  have hc0 : ¬ (-1 : Int) = c := by rcases okC_cases hc with x | x | x <;> omega
  go_enter Tryd.func55, Tryd.ntmps55
  go_wp2_with fail
  go_step3
  go_wp2_with fail
  go_step3
  go_wp2_with fail
  clear h0
  go_loopw [6, 18] (fun v6 v18 wr => SeekO s w c v6 v18 wr) (fun _ v18 _ => s.P - (intOf v18).toNat)
  case atStart => exact ⟨0, Nat.zero_le _, rfl, rfl, Below.refl _ _, fun r hr => by simp [free1]; omega⟩
  case round =>
    obtain ⟨p, hp, rfl, rfl, hBr, hfree⟩ := hrel
    have hA := h.below hBr
    have hT := hT0.below hBr
    have HF := Lib.hid hfree
    clear hfree
    have hpos : (0 : Int) < C := by omega
    by_cases hlt : p < s.P
    · have h0 : wr.cell? ⟨X.c, p, none⟩ = some (.int .i64 (s.cls p)) := cell_row hA.page hlt
      by_cases hcl : s.cls p = c
      · rw [hcl] at h0
        have HCL := Lib.hid hcl
        clear hcl
        go_wp2_with fail
        refine (cellsW c C _ hT HC.out).mono ?_
        rintro e w' ⟨rfl, rfl⟩
        go_wp2_with fail
        clear h0
        go_loopw [6, 25] (fun v6 v25 wr => SeekI s w c p W C v6 v25 wr) (fun _ v25 _ => C - (intOf v25).toNat)
        case atStart => exact ⟨0, Nat.zero_le _, rfl, rfl, hBr, fun r hr => HF.out r (by omega)⟩
        case round =>
          clear hA hT HF hBr
          obtain ⟨k, hk, rfl, rfl, hBr, hfree⟩ := hrel
          have hA := h.below hBr
          have hT := hT0.below hBr
          have HF := Lib.hid hfree
          clear hfree
          by_cases hkC : k < C
          · have hkW := kW_le HCW.out hW1 hkC
            obtain ⟨o, ho⟩ : ∃ o, o = k * W := ⟨_, rfl⟩
            have cO := offsetW c k W C _ hT HW.out HC.out hkC
            rw [← ho] at cO hkW
            have HO := Lib.hid ho
            clear ho
            have hn1 : (c == -1) = false := not_eqb (fun e => hc0 e.symm)
            go_wp2_with fail
            refine cO.mono ?_
            rintro e w' ⟨rfl, rfl⟩
            go_wp2_with fail
            refine (ref_any _ _ (by omega) (by omega) (by omega) (by omega)).mono ?_
            rintro e w' ⟨rfl, rfl⟩
            go_wp2_with fail
            clear cO
            cases hS : s.S (32 * p + k * W + 1) with
            | true =>
              have HS := Lib.hid hS
              clear hS
              refine (hasW hA.toArMem (32 * p + k * W + 1) _ true (by rw [HO.out]; omega) HS.out).mono ?_
              rintro e w4 ⟨rfl, hB4⟩
              clear hn1
              go_wp2_with fail
              go_roundw
              case rel => exact SeekI.mk _ (k := k + 1) (by omega) (by omega) hBr hB4 (free_next HW'.out HCW.out hkC hW1 HF.out HS.out)
              case measure => simp [intOf]; omega
            | false =>
              have HS := Lib.hid hS
              clear hS
              refine (hasW hA.toArMem (32 * p + k * W + 1) _ false (by rw [HO.out]; omega) HS.out).mono ?_
              rintro e w4 ⟨rfl, hB4⟩
              obtain ⟨f1, f2⟩ := free_cell HW'.out HCW.out hkC hW1 hlt HCL.out HF.out HS.out
              have HR := Lib.hid (seekF_cell hc f1 f2)
              clear f1 f2 hn1
              go_wp2_with fail
              rw [Exit.noGoto_ret]
              go_ret2
              exact seek_post rfl (by rw [HO.out]; omega) (bne_iff_ne.2 (by omega)).symm (below_step hBr hB4) HR.out
          · obtain rfl : k = C := by omega
            have hpos' : ¬ ((k : Int) < k) := by omega
            go_wp2_with fail
            go_roundw
            case rel => exact SeekO.mk _ _ (p := p + 1) (by omega) (by rw [spare_up (.inl (by rw [HCL.out]; exact fun e => hc0 e.symm))]) hlt hBr (fun r hr => HF.out r (by rw [HCW.out]; omega))
            case measure => simp [intOf]; omega
      · have hclE : (s.cls p == c) = false := not_eqb hcl
        have hclN : (s.cls p != c) = true := bne_iff_ne.2 hcl
        have HN := Lib.hid (free_other hcl HF.out)
        clear HF
        have cO := fun (wx : World) (hTx : TableAt wx) => offsetW c 0 W C wx hTx HW.out HC.out (by omega)
        rw [Nat.zero_mul] at cO
        by_cases hm : s.cls p = -1
        · rw [hm] at h0 hclE hclN
          have HM := Lib.hid hm
          clear hm hcl
          by_cases hz : spare s p = 0
          · have HZ := Lib.hid hz
            rw [hz]
            clear hz
            go_wp2_with fail
            refine (cellsW c C _ hT HC.out).mono ?_
            rintro e w' ⟨rfl, rfl⟩
            go_wp2_with fail
            clear h0
            go_loopw [6, 25] (fun v6 v25 wx => v6 = .int .i64 0 ∧ v25 = .int .i64 0 ∧ wr = wx) (fun _ _ _ => 0)
            case atStart => exact ⟨rfl, rfl, rfl⟩
            case round =>
              obtain ⟨rfl, rfl, rfl⟩ := hrel
              go_wp2_with fail
              refine (cO _ hT).mono ?_
              rintro e w' ⟨rfl, rfl⟩
              go_wp2_with fail
              refine (ref_any _ _ (by omega) (by omega) (by omega) (by omega)).mono ?_
              rintro e w' ⟨rfl, rfl⟩
              go_wp2_with fail
              go_roundw
              case rel => exact SeekO.mk _ _ (p := p + 1) (by omega) (by rw [spare_at HM.out HZ.out]; omega) hlt hBr HN.out
              case measure => simp [intOf]; omega
          · have hzE : (((spare s p : Nat) : Int) == 0) = false := not_eqb (by omega)
            have HZ := Lib.hid hz
            clear hz
            go_wp2_with fail
            refine (cellsW c C _ hT HC.out).mono ?_
            rintro e w' ⟨rfl, rfl⟩
            go_wp2_with fail
            clear h0
            go_loopw [6, 25] (fun v6 v25 wx => v6 = .int .i64 ((spare s p : Nat) : Int) ∧ v25 = .int .i64 0 ∧ wr = wx) (fun _ _ _ => 0)
            case atStart => exact ⟨rfl, rfl, rfl⟩
            case round =>
              obtain ⟨rfl, rfl, rfl⟩ := hrel
              go_wp2_with fail
              refine (cO _ hT).mono ?_
              rintro e w' ⟨rfl, rfl⟩
              go_wp2_with fail
              refine (ref_any _ _ (by omega) (by omega) (by omega) (by omega)).mono ?_
              rintro e w' ⟨rfl, rfl⟩
              go_wp2_with fail
              go_roundw
              case rel => exact SeekO.mk _ _ (p := p + 1) (by omega) (by rw [spare_up (.inr HZ.out)]) hlt hBr HN.out
              case measure => simp [intOf]; omega
        · have hmE : (s.cls p == -1) = false := not_eqb hm
          have HM := Lib.hid hm
          clear hm hcl
          go_wp2_with fail
          refine (cellsW c C _ hT HC.out).mono ?_
          rintro e w' ⟨rfl, rfl⟩
          go_wp2_with fail
          clear h0
          go_loopw [6, 25] (fun v6 v25 wx => v6 = .int .i64 ((spare s p : Nat) : Int) ∧ v25 = .int .i64 0 ∧ wr = wx) (fun _ _ _ => 0)
          case atStart => exact ⟨rfl, rfl, rfl⟩
          case round =>
            obtain ⟨rfl, rfl, rfl⟩ := hrel
            go_wp2_with fail
            refine (cO _ hT).mono ?_
            rintro e w' ⟨rfl, rfl⟩
            go_wp2_with fail
            refine (ref_any _ _ (by omega) (by omega) (by omega) (by omega)).mono ?_
            rintro e w' ⟨rfl, rfl⟩
            go_wp2_with fail
            go_roundw
            case rel => exact SeekO.mk _ _ (p := p + 1) (by omega) (by rw [spare_up (.inl HM.out)]) hlt hBr HN.out
            case measure => simp [intOf]; omega
    · obtain rfl : p = s.P := by omega
      go_wp2_with fail
      rw [Exit.noGoto_ret]
      go_ret2
      exact seek_post rfl rfl rfl hBr (seekF_page hc HF.out)
end Go.Proofs.YtoemfehlnnbjdaaDoor
