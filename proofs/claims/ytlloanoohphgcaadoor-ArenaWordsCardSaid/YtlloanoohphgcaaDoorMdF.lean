/- take of the law's model, at this seat's numbers. -/
import Derived.Test.YtlloanoohphgcaaDoorMdE
namespace Go.Proofs.YtlloanoohphgcaaDoor
open Go Go.RowKit Go.Shelf Go.MuLone Go.RwLone Go.Maps
set_option linter.unusedSimpArgs false
set_option linter.unusedVariables false

theorem takeM_no {w : World} {Y : MdB} {s : ArS} (h : MdAt w Y s) (c : Int) (hc : okC c = false) :
    Calls Tryd.prog 21 #[.pointer (some ⟨Y.m, 0, none⟩), .int .i64 c] w (MdPost Y (.tuple #[.int .i64 ((seekF s c : Nat) : Int), .bool (decide (seekF s c ≠ 0))]) (s.take c) w) := by
  have h0 := seekF_bad (s := s) hc
  rw [take_none h0, h0, natne_false]
  have hcc : c < 0 ∨ 2 < c := by simp [okC] at hc; omega
  clear h0 hc
  rcases hcc with hcc | hcc
  · go_enter Tryd.func21, Tryd.ntmps21
    go_wp2_with fail
    go_ret2
    exact ⟨rfl, h, Turn.refl _ _⟩
  · have hnc : ¬ c < 0 := by omega
    go_enter Tryd.func21, Tryd.ntmps21
    go_wp2_with fail
    go_ret2
    exact ⟨rfl, h, Turn.refl _ _⟩

/-- Between two rounds over the pages. -/
def PagesRel (s : ArS) (w : World) (c : Int) (t : Nat) (v27 : Value) (wr : World) : Prop :=
  ∃ p : Nat, p ≤ s.P ∧ v27 = .int .i64 (p : Int) ∧ w = wr ∧ if t = 0 then ∀ r, r ≤ 32 * p → free1 s c r = false else (∀ r, free1 s c r = false) ∧ ∀ q, q < p → s.cls q ≠ -1

/-- Between the two turns. -/
def TurnRel (s : ArS) (w : World) (c : Int) (v19 : Value) (wr : World) : Prop :=
  w = wr ∧ (v19 = .int .i64 0 ∨ (v19 = .int .i64 1 ∧ ∀ r, free1 s c r = false) ∨ (v19 = .int .i64 2 ∧ (∀ r, free1 s c r = false) ∧ ∀ q, q < s.P → s.cls q ≠ -1))

theorem upd_same {f : Nat → Int} {p : Nat} {c : Int} (h : f p = c) : upd f p c = f := by
  funext q
  unfold upd
  by_cases e : q = p
  · rw [if_pos e, e, h]
  · rw [if_neg e]
theorem take_fin {w w2 : World} {Y : MdB} {s : ArS} {c x : Int} {p r g cap : Nat} {cur : Array Value} {D : DataW Unit} {e : Ending} (h : MdAt w Y s) (hr : seekF s c = r) (hr0 : 1 ≤ r) (hp : pg r = p) (hpP : p < s.P) (hD : MapD D s) (hM : IsMap D) (hT : Tidy D)
    (hv : Y.v = .slice (some ⟨g, 0, none⟩) s.P cap) (hb : Blk w g cur 3) (hsz : s.P ≤ cur.size) (hcs : ∀ k, k < s.P → cur[k]? = some (.int .i64 (s.cls k))) (hx : x = (r : Int))
    (ho : w2.ownsMap Tryd.prog 30 (plainElem Tryd.prog 3) Y.t (4096 + 1) (D.put (.int .i64 x) (.lit (.int .i64 c)))) (hg : (w.setCell ⟨g, p, none⟩ (.int .i64 c)).grownBy w2 (some Y.t))
    (he : e = .returned (.tuple #[.int .i64 x, .bool true])) : MdPost Y (.tuple #[.int .i64 ((seekF s c : Nat) : Int), .bool (decide (seekF s c ≠ 0))]) (s.take c) w e w2 := by
  subst hx
  have hr1 : seekF s c ≠ 0 := by omega
  have hD2 := hD.take h.fits hM hT hr1
  have hF := h.fits.take c
  have hgf := PagesIn.far h (k := g) (by rw [hv]; rfl)
  have hcl : (s.take c).cls = upd s.cls p c := by rw [take_some hr1, ← hp, hr]
  have hPP := take_P s c
  have hT1 : Turn (fun k => k = g) w (w.setCell ⟨g, p, none⟩ (.int .i64 c)) := (Turn.refl _ w).set _ _ (.inr rfl)
  have hT2 : Turn (fun k => k = Y.t) (w.setCell ⟨g, p, none⟩ (.int .i64 c)) w2 := ⟨hg.os, hg.tape, hg.output, hg.size, fun k hk hn => hg.block k hk (fun e => hn (Option.some.inj e))⟩
  rw [hr] at hD2 ⊢
  rw [decide_eq_true (show r ≠ 0 by omega)]
  refine ⟨he, ⟨(h.head.turn hT1 (fun e => hgf.2 e.symm)).turn hT2 h.mt, ?_, ⟨_, own_tight ho (by rw [hD2.size_]; have := elems_length (s.take c).S 2049; omega), hD2⟩, hF⟩, (hT1.mono fun k _ hk => .inr (.inr (by rw [hv]; have e : k = g := hk; rw [e]; rfl))).trans hT2 fun k _ hk => .inr (.inl hk)⟩
  have hP := PagesIn.put (s := s) (s' := s.take c) (cap := cap) hb hsz hcs hpP hPP hcl
  rw [hv]
  exact hP.turn hT2 (fun k hk e => hgf.1 (by
    have e2 : g = k := by simpa [Value.ownBlock] using hk
    rw [e2]; exact e))
theorem beyond {s : ArS} {c : Int} (h : ∀ r, r ≤ 32 * s.P → free1 s c r = false) : ∀ r, free1 s c r = false := fun r => by
  by_cases e : r ≤ 32 * s.P
  · exact h r e
  · simp [free1, e]
theorem inS_at {S : Nat → Bool} {x : Int} {r : Nat} {b : Bool} (hx : x = r) (h : S r = b) : inS S x = b := by rw [hx, inS_nat]; exact h

/-- Between two rounds over a page's cells. -/
def CellsRel (s : ArS) (w : World) (c : Int) (p W C : Nat) (v49 : Value) (wr : World) : Prop :=
  ∃ k : Nat, k ≤ C ∧ v49 = .int .i64 (k : Int) ∧ w = wr ∧ ∀ r, r ≤ 32 * p + k * W → free1 s c r = false

set_option maxRecDepth 100000 in
set_option maxHeartbeats 8000000 in
theorem takeM_yes {w : World} {Y : MdB} {s : ArS} (h : MdAt w Y s) (c : Int) (hc : okC c = true) (W C : Nat) (hW : wordsOf c = W) (hCW : C * W = 32) (hW1 : W = 2 ∨ W = 4 ∨ W = 8) (hC4 : 4 ≤ C) (hC16 : C ≤ 16) (hshr : (16 : Int) / 2 ^ c.toNat = (C : Int)) (hshl : (2 : Int) * 2 ^ c.toNat = (W : Int)) :
    Calls Tryd.prog 21 #[.pointer (some ⟨Y.m, 0, none⟩), .int .i64 c] w (MdPost Y (.tuple #[.int .i64 ((seekF s c : Nat) : Int), .bool (decide (seekF s c ≠ 0))]) (s.take c) w) := by
  have h0 := h.c0
  have h1 := h.c1
  have hmap := h.map
  obtain ⟨D, hown, hD⟩ := h.map
  have hTi : Tidy D := hown.tidy keyRef
  have hIM : IsMap D := hown.isMap
  have hp64 := h.fits.p64
  have hc0 : ¬ c < 0 := by rcases okC_cases hc with x | x | x <;> omega
  have hc2 : ¬ 2 < c := by rcases okC_cases hc with x | x | x <;> omega
  have hcw : (Lit.int .i64 c).wf = true := wf_of (by omega) (by omega)
  have hcm : ¬ (-1 : Int) = c := by omega
  have hW' : wN c = W := by unfold wN; omega
  have hlr := h.pages.lenRun 3
  have hH := Lib.hid h
  have hpg := h.pages
  have hfar := Lib.hid (fun k hk => PagesIn.far h (k := k) hk)
  have HCW := Lib.hid hCW
  have HW' := Lib.hid hW'
  have HD := Lib.hid hD
  have hW8 : (W : Int) ≤ 8 := by omega
  have hC0 : (0 : Int) < (C : Int) := by omega
  clear hCW hW' hW hD h
  obtain ⟨bq, hbq⟩ : ∃ b, decide (seekF s c ≠ 0) = b := ⟨_, rfl⟩
  rw [hbq]
  have HBQ := Lib.hid hbq
  clear hbq
  generalize hv : Y.v = v at *
  go_enter Tryd.func21, Tryd.ntmps21
  go_wp2_with fail
  go_loopw [19] (fun v19 wr => TurnRel s w c v19 wr) (fun v19 _ => 2 - (intOf v19).toNat)
  case atStart => exact ⟨rfl, .inl rfl⟩
  case round =>
    obtain ⟨rfl, rfl | ⟨rfl, hf1⟩ | ⟨rfl, hf1, hf2⟩⟩ := hrel
    · go_wp2_with fail
      go_loopw [27] (fun v27 wx => PagesRel s w c 0 v27 wx) (fun v27 _ => s.P - (intOf v27).toNat)
      case atStart => exact ⟨0, Nat.zero_le _, rfl, rfl, by rw [if_pos rfl]; intro r hr; simp [free1]; omega⟩
      case round =>
        obtain ⟨p, hp, rfl, rfl, hfree⟩ := hrel
        rw [if_pos rfl] at hfree
        have HF := Lib.hid hfree
        clear hfree
        by_cases hlt : p < s.P
        · rcases hpg with ⟨_, e⟩ | ⟨g, cp, cur, rfl, hbk, hsz, hcs⟩
          · omega
          have hcell := page_cell hbk hcs hlt
          have hfz := hbk.free p
          by_cases hcl : s.cls p = c
          · rw [hcl] at hcell
            have HCL := Lib.hid hcl
            clear hcl
            have hcE : (c == c) = true := by simp
            have hcN : (c != c) = false := by simp
            go_wp2_with fail
            go_loopw [49] (fun v49 wx => CellsRel s w c p W C v49 wx) (fun v49 _ => C - (intOf v49).toNat)
            case atStart => exact ⟨0, Nat.zero_le _, rfl, rfl, fun r hr => HF.out r (by omega)⟩
            case round =>
              clear HF
              obtain ⟨k, hk, rfl, rfl, hfree⟩ := hrel
              have HF := Lib.hid hfree
              clear hfree
              by_cases hkC : k < C
              · have hkW := kW_le HCW.out hW1 hkC
                obtain ⟨o, ho⟩ : ∃ o, o = k * W := ⟨_, rfl⟩
                have hoI : (k : Int) * (W : Int) = (o : Int) := by rw [ho]; exact (Int.natCast_mul k W).symm
                rw [← ho] at hkW
                have HO := Lib.hid ho
                clear ho
                have hwf : (Lit.int .i64 (32 * (p : Int) + (o : Int) + 1)).wf = true := wf_of (by omega) (by omega)
                cases hS : s.S (32 * p + k * W + 1) with
                | true =>
                  have hin : inS s.S (32 * (p : Int) + (o : Int) + 1) = true := inS_at (r := 32 * p + k * W + 1) (by rw [← HO.out]; omega) hS
                  have HS := Lib.hid hS
                  have HIN := Lib.hid hin
                  clear hS hin
                  go_wp2_with (at_lookup; refine wpList_lookM rfl _ _ rfl hmap _ hwf true HIN.out rfl rfl ?_; intro c')
                  go_roundw
                  case rel => exact ⟨k + 1, by omega, by go_num, rfl, free_next HW'.out HCW.out hkC hW1 HF.out HS.out⟩
                  case measure => simp [intOf]; omega
                | false =>
                  have hin : inS s.S (32 * (p : Int) + (o : Int) + 1) = false := inS_at (r := 32 * p + k * W + 1) (by rw [← HO.out]; omega) hS
                  obtain ⟨f1, f2⟩ := free_cell HW'.out HCW.out hkC hW1 hlt HCL.out HF.out hS
                  have HR := Lib.hid (seekF_cell hc f1 f2)
                  have HIN := Lib.hid hin
                  have hown2 := hown.setCell (a := ⟨g, p, none⟩) (fun e => (hfar.out g rfl).1 e.symm) (.int .i64 c)
                  have h1s : (w.setCell ⟨g, p, none⟩ (.int .i64 c)).cell? ⟨Y.m, 1, none⟩ = some (.map (some Y.t)) := (hH.out.head.setOther ⟨g, p, none⟩ (.int .i64 c) (fun e => (hfar.out g rfl).2 e.symm)).cell 1
                  have hkey := keyOf_int_mk Tryd.underlying30 hwf
                  clear hS hin f1 f2
                  go_wp2_with (first
                    | (at_lookup; refine wpList_lookM rfl _ _ rfl hmap _ hwf false HIN.out rfl rfl ?_; intro c')
                    | (at_mapUpdate; refine wpList_mapUpdate_own _ rfl _ _ _ 42 rfl 30 3 keyRef Tryd.underlying42 _ Y.t 4096 D rfl hown2 (by unfold maxLen; omega) _ _ _ rfl rfl hkey _ _ (plainElem_int Tryd.underlying3 hcw) ?_; intro w2 hown3 hg3))
                  go_ret2
                  rw [← HBQ.out]
                  exact take_fin (r := 32 * p + k * W + 1) hH.out HR.out (by omega) (by unfold pg; have := HO.out; omega) hlt HD.out hIM hTi hv hbk hsz hcs (by rw [← HO.out]; omega) hown3 hg3 rfl
              · obtain rfl : k = C := by omega
                have hpos' : ¬ ((k : Int) < k) := by omega
                go_wp2_with fail
                go_roundw
                case rel => exact ⟨p + 1, by omega, by go_num, rfl, by rw [if_pos rfl]; intro r hr; exact HF.out r (by rw [HCW.out]; omega)⟩
                case measure => simp [intOf]; omega
          · have hclE : (s.cls p == c) = false := not_eqb hcl
            have hclN : (s.cls p != c) = true := bne_iff_ne.2 hcl
            have HN := Lib.hid (free_other hcl HF.out)
            clear HF hcl
            go_wp2_with fail
            go_roundw
            case rel => exact ⟨p + 1, by omega, by go_num, rfl, by rw [if_pos rfl]; exact HN.out⟩
            case measure => simp [intOf]; omega
        · obtain rfl : p = s.P := by omega
          go_wp2_with fail
          go_roundw
          case rel => exact ⟨rfl, .inr (.inl ⟨rfl, beyond HF.out⟩)⟩
          case measure => simp [intOf]
    · have HF1 := Lib.hid hf1
      clear hf1
      go_wp2_with fail
      go_loopw [27] (fun v27 wx => PagesRel s w c 1 v27 wx) (fun v27 _ => s.P - (intOf v27).toNat)
      case atStart => exact ⟨0, Nat.zero_le _, rfl, rfl, by rw [if_neg (by decide)]; exact ⟨HF1.out, fun q hq => absurd hq (by omega)⟩⟩
      case round =>
        obtain ⟨p, hp, rfl, rfl, hfree⟩ := hrel
        rw [if_neg (by decide)] at hfree
        have HF := Lib.hid hfree.2
        clear hfree
        by_cases hlt : p < s.P
        · rcases hpg with ⟨_, e⟩ | ⟨g, cp, cur, rfl, hbk, hsz, hcs⟩
          · omega
          have hcell := page_cell hbk hcs hlt
          have hfz := hbk.free p
          by_cases hcl : s.cls p = -1
          · rw [hcl] at hcell
            have hS : s.S (32 * p + 1) = false := by
              cases e : s.S (32 * p + 1) with
              | false => rfl
              | true =>
                have := (hH.out.fits.at_ _ e).2.2.1
                rw [show pg (32 * p + 1) = p by unfold pg; omega, hcl] at this
                cases this
            have HR := Lib.hid ((seekF_page hc fun r _ => HF1.out r).trans (spare_first hlt hcl HF.out))
            have hown2 := hown.setCell (a := ⟨g, p, none⟩) (fun e => (hfar.out g rfl).1 e.symm) (.int .i64 c)
            have h1s : (w.setCell ⟨g, p, none⟩ (.int .i64 c)).cell? ⟨Y.m, 1, none⟩ = some (.map (some Y.t)) := (hH.out.head.setOther ⟨g, p, none⟩ (.int .i64 c) (fun e => (hfar.out g rfl).2 e.symm)).cell 1
            have hcE : ((-1 : Int) == c) = false := not_eqb hcm
            have HS := Lib.hid hS
            clear hcl hS
            go_wp2_with fail
            go_loopw [49] (fun v49 wx => ∃ k : Nat, k = 0 ∧ v49 = .int .i64 (k : Int) ∧ w = wx) (fun _ _ => 0)
            case atStart => exact ⟨0, rfl, rfl, rfl⟩
            case round =>
              obtain ⟨k, hk0, rfl, rfl⟩ := hrel
              have hkC : k < C := by omega
              obtain ⟨o, ho⟩ : ∃ o, o = k * W := ⟨_, rfl⟩
              have hoI : (k : Int) * (W : Int) = (o : Int) := by rw [ho]; exact (Int.natCast_mul k W).symm
              have ho0 : o = 0 := by rw [ho, hk0, Nat.zero_mul]
              have HO := Lib.hid ho0
              have hkW : o ≤ 0 := by omega
              have HK := Lib.hid hk0
              have hin : inS s.S (32 * (p : Int) + (o : Int) + 1) = false := inS_at (r := 32 * p + 1) (by omega) HS.out
              have HIN := Lib.hid hin
              have hwf : (Lit.int .i64 (32 * (p : Int) + (o : Int) + 1)).wf = true := wf_of (by omega) (by omega)
              have hkey := keyOf_int_mk Tryd.underlying30 hwf
              clear ho ho0 hk0 hin
              go_wp2_with (first
                | (at_lookup; refine wpList_lookM rfl _ _ rfl hmap _ hwf false HIN.out rfl rfl ?_; intro c')
                | (at_mapUpdate; refine wpList_mapUpdate_own _ rfl _ _ _ 42 rfl 30 3 keyRef Tryd.underlying42 _ Y.t 4096 D rfl hown2 (by unfold maxLen; omega) _ _ _ rfl rfl hkey _ _ (plainElem_int Tryd.underlying3 hcw) ?_; intro w2 hown3 hg3))
              go_ret2
              rw [← HBQ.out]
              exact take_fin (r := 32 * p + 1) hH.out HR.out (by omega) (by unfold pg; omega) hlt HD.out hIM hTi hv hbk hsz hcs (by omega) hown3 hg3 rfl
          · have hclE : (s.cls p == -1) = false := not_eqb hcl
            have hclN : (s.cls p != -1) = true := bne_iff_ne.2 hcl
            have HN := Lib.hid hcl
            clear hcl
            go_wp2_with fail
            go_roundw
            case rel => exact ⟨p + 1, by omega, by go_num, rfl, by
              rw [if_neg (by decide)]
              exact ⟨HF1.out, fun q hq => by
                by_cases e : q = p
                · rw [e]; exact HN.out
                · exact HF.out q (by omega)⟩⟩
            case measure => simp [intOf]; omega
        · obtain rfl : p = s.P := by omega
          go_wp2_with fail
          go_roundw
          case rel => exact ⟨rfl, .inr (.inr ⟨rfl, HF1.out, HF.out⟩)⟩
          case measure => simp [intOf]
    · have hz : seekF s c = 0 := (seekF_page hc fun r _ => hf1 r).trans (spare_none hf2)
      have HZ := Lib.hid hz
      clear hf1 hf2 hz
      go_wp2_with fail
      go_ret2
      rw [← HBQ.out, HZ.out, natne_false, take_none HZ.out]
      exact ⟨rfl, hH.out, Turn.refl _ _⟩

theorem takeM_any {w : World} {Y : MdB} {s : ArS} (h : MdAt w Y s) (c : Int) :
    Calls Tryd.prog 21 #[.pointer (some ⟨Y.m, 0, none⟩), .int .i64 c] w (MdPost Y (.tuple #[.int .i64 ((seekF s c : Nat) : Int), .bool (decide (seekF s c ≠ 0))]) (s.take c) w) := by
  cases hc : okC c with
  | false => exact takeM_no h c hc
  | true =>
    rcases okC_cases hc with rfl | rfl | rfl
    · exact takeM_yes h 0 hc 2 16 rfl rfl (by omega) (by omega) (by omega) (by decide) (by decide)
    · exact takeM_yes h 1 hc 4 8 rfl rfl (by omega) (by omega) (by omega) (by decide) (by decide)
    · exact takeM_yes h 2 hc 8 4 rfl rfl (by omega) (by omega) (by omega) (by decide) (by decide)
theorem giveM_any {w : World} {Y : MdB} {s : ArS} (h : MdAt w Y s) (r : Int) (hwf : (Lit.int .i64 r).wf = true) :
    Calls Tryd.prog 18 #[.pointer (some ⟨Y.m, 0, none⟩), .int .i64 r] w (MdPost Y (.bool (inS s.S r)) (s.giveI r) w) := by
  cases hr : inS s.S r with
  | false =>
    have e : s.giveI r = s := by
      unfold ArS.giveI
      split
      · unfold ArS.give
        have : ¬ s.S r.toNat = true := fun x => by
          rename_i h0
          rw [hr] at h0; cases h0
        rw [if_neg this]
      · rfl
    rw [e]
    exact giveM_no h r hwf hr
  | true =>
    have h2 : 0 ≤ r ∧ s.S r.toNat = true := by simpa [inS] using hr
    obtain ⟨n, rfl⟩ : ∃ n : Nat, r = n := ⟨r.toNat, by omega⟩
    exact giveM_yes h n (by simpa using h2.2)
end Go.Proofs.YtlloanoohphgcaaDoor
