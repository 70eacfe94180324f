/- give of the law's model, at this seat's numbers. -/
import Derived.Test.YtlloanoohphgcaaDoorMdC
namespace Go.Proofs.YtlloanoohphgcaaDoor
open Go Go.RowKit Go.Shelf Go.MuLone Go.RwLone Go.Maps
set_option linter.unusedSimpArgs false
set_option linter.unusedVariables false

/-- What a call on a model leaves: v, and the model s'. -/
def MdPost (Y : MdB) (v : Value) (s' : ArS) (w : World) (e : Ending) (w' : World) : Prop := e = .returned v ∧ MdAt w' Y s' ∧ Turn Y.has w w'

theorem PagesIn.far {w : World} {Y : MdB} {s : ArS} (h : MdAt w Y s) {k : Nat} (hk : Y.v.ownBlock = some k) : k ≠ Y.t ∧ k ≠ Y.m := by
  obtain ⟨cur, hb⟩ := h.pages.own hk
  refine ⟨fun e => ?_, fun e => ?_⟩
  · obtain ⟨o, ho, hc⟩ := h.map.block
    unfold Blk at hb
    rw [← e, hb] at ho
    cases ho; cases hc
  · rw [e] at hb
    exact blk_types hb h.head (by decide)
theorem MdAt.mapTurn {w w' : World} {Y : MdB} {s s' : ArS} (h : MdAt w Y s) (hT : Turn (fun k => k = Y.t) w w') (hM : MapM w' Y.t s') (hF : Fits s') (hP : s'.P = s.P) (hc : ∀ p, p < s.P → s'.cls p = s.cls p) : MdAt w' Y s' := by
  refine ⟨h.head.turn hT h.mt, ?_, hM, hF⟩
  rcases h.pages with ⟨e1, e2⟩ | ⟨g, cap, cur, e1, e2, e3, e4⟩
  · exact .inl ⟨e1, by rw [hP]; exact e2⟩
  · refine .inr ⟨g, cap, cur, by rw [hP]; exact e1, e2.turn hT ?_, by rw [hP]; exact e3, fun k hk => ?_⟩
    · exact (PagesIn.far h (k := g) (by rw [e1]; rfl)).1
    · rw [hP] at hk; rw [e4 k hk, hc k hk]
/-- A page's class is written. -/
theorem PagesIn.put {w : World} {g cap : Nat} {s s' : ArS} {p : Nat} {c : Int} {cur : Array Value} (hb : Blk w g cur 3) (hsz : s.P ≤ cur.size) (hcs : ∀ k, k < s.P → cur[k]? = some (.int .i64 (s.cls k))) (hp : p < s.P) (hP : s'.P = s.P) (hc : s'.cls = upd s.cls p c) :
    PagesIn (w.setCell ⟨g, p, none⟩ (.int .i64 c)) (.slice (some ⟨g, 0, none⟩) s.P cap) s' := by
  refine .inr ⟨g, cap, cur.setIfInBounds p (.int .i64 c), by rw [hP], hb.setAt p _, by rw [hP]; simpa using hsz, fun k hk => ?_⟩
  rw [hP] at hk
  rw [hc]
  unfold upd
  by_cases e : p = k
  · subst e
    rw [Array.getElem?_setIfInBounds_self, if_pos (by omega), if_pos rfl]
  · rw [Array.getElem?_setIfInBounds_ne e, if_neg (fun x => e x.symm), hcs k hk]

theorem pg_div {r : Nat} (h : 1 ≤ r) : ((r : Int) - 1).tdiv 32 = ((pg r : Nat) : Int) := by
  rw [Int.tdiv_eq_ediv_of_nonneg (by omega)]
  unfold pg
  omega
theorem pg_div2 {r : Nat} (h : 1 ≤ r) : ((r : Int) - 1) / 32 = ((pg r : Nat) : Int) := by
  unfold pg
  omega

/-- Between two rounds of give's range. -/
def GiveLoop (s : ArS) (r : Nat) (Y : MdB) (D : DataW Unit) (w1 : World) (wr : World) : Prop :=
  ∃ left cnt, wr.ranges Tryd.prog 30 (plainElem Tryd.prog 3) Y.t w1.heap.size 4096 D left cnt ∧ (∀ j : Nat, dropN s.S r j = true → pg j = pg r → left (.int .i64 (j : Int)) = true) ∧ Turn (fun k => k = Y.t) w1 wr

theorem turn_map {w w' : World} {b : Nat} (h : w.mapTurned w' b) : Turn (fun k => k = b) w w' :=
  ⟨h.grown.os, h.grown.tape, h.grown.output, h.grown.size, fun k hk hn => h.grown.block k hk (fun e => hn (Option.some.inj e))⟩
theorem give_first {s : ArS} {r : Nat} {Y : MdB} {D : DataW Unit} {w1 w0 : World} (hD : MapD D (s.giveI (r : Int))) (hS : s.S r = true) (hF : Fits s) (h : w0.ranges Tryd.prog 30 (plainElem Tryd.prog 3) Y.t w1.heap.size 4096 D (Maps.has D) (Maps.size D)) (hg : w1.grownBy w0 none) : GiveLoop s r Y D w1 w0 := by
  refine ⟨_, _, h, fun j hj _ => ?_, ⟨hg.os, hg.tape, hg.output, hg.size, fun k hk _ => hg.block k hk (by simp)⟩⟩
  have hj2 : s.S j = true := by have : s.S j = true ∧ ¬ j = r := by simpa [dropN] using hj
                                exact this.1
  obtain ⟨b1, b2, _, _⟩ := hF.at_ j hj2
  have hp := hF.p64
  rw [hD.has_ _ (wf_of (by omega) (by omega)), inS_nat, giveI_nat hS]
  exact hj
theorem give_key {s : ArS} {r : Nat} {D : DataW Unit} (hD : MapD D (s.giveI (r : Int))) (hS : s.S r = true) (hF : Fits s) {x c : Int} (hx : (Lit.int .i64 x).wf = true) (hat : ∀ z, D.atKey (.int .i64 x) z = .lit (.int .i64 c)) :
    ∃ j : Nat, x = j ∧ 1 ≤ j ∧ pg j ≤ 64 ∧ j ≤ 2048 ∧ dropN s.S r j = true := by
  have h := Maps.has_true_of_atKey hat
  rw [hD.has_ x hx, giveI_nat hS] at h
  have h2 : 0 ≤ x ∧ dropN s.S r x.toNat = true := by simpa [inS] using h
  have h3 : s.S x.toNat = true ∧ ¬ x.toNat = r := by simpa [dropN] using h2.2
  obtain ⟨b1, b2, _, _⟩ := hF.at_ _ h3.1
  have hp := hF.p64
  exact ⟨x.toNat, by omega, b1, by unfold pg; omega, by omega, h2.2⟩
theorem give_next {s : ArS} {r j : Nat} {Y : MdB} {D : DataW Unit} {w1 wr w2 : World} {left : Lit → Bool} {cnt : Nat} (hne : pg j ≠ pg r) (hl : ∀ j : Nat, dropN s.S r j = true → pg j = pg r → left (.int .i64 (j : Int)) = true)
    (h : w2.ranges Tryd.prog 30 (plainElem Tryd.prog 3) Y.t w1.heap.size 4096 D (fun z => left z && !z.sameKey (.int .i64 (j : Int))) cnt) (hg : wr.grownBy w2 (some w1.heap.size)) (hT : Turn (fun k => k = Y.t) w1 wr) : GiveLoop s r Y D w1 w2 := by
  refine ⟨_, _, h, fun j' hj' hp => ?_, hT.trans (M' := fun k => k = w1.heap.size) ⟨hg.os, hg.tape, hg.output, hg.size, fun k hk hn => hg.block k hk (fun e => hn (Option.some.inj e))⟩ (fun i hi e => absurd e (by omega))⟩
  have : ¬ ((j' : Nat) : Int) = j := fun e => hne (by rw [← hp]; congr 1; omega)
  simp [hl j' hj' hp, Lit.sameKey, this]
theorem give_end {w w1 w2 : World} {Y : MdB} {s : ArS} {r : Nat} {D : DataW Unit} (h : MdAt w Y s) (hS : s.S r = true) (hD : MapD D (s.giveI (r : Int))) (hT1 : w.mapTurned w1 Y.t) (hT2 : Turn (fun k => k = Y.t) w1 w2) (ho : w2.ownsMap Tryd.prog 30 (plainElem Tryd.prog 3) Y.t 4096 D) :
    Turn (fun k => k = Y.t) w w2 ∧ MapM w2 Y.t (s.giveI (r : Int)) := ⟨(turn_map hT1).trans hT2 (fun _ _ h => h), D, ho, hD⟩
theorem give_stay {w w2 : World} {Y : MdB} {s : ArS} {r j : Nat} {e : Ending} (h : MdAt w Y s) (hS : s.S r = true) (hT : Turn (fun k => k = Y.t) w w2) (hM : MapM w2 Y.t (s.giveI (r : Int))) (hj : dropN s.S r j = true) (hj1 : 1 ≤ j) (hp : pg j = pg r) (he : e = .returned (.bool true)) :
    MdPost Y (.bool true) (s.giveI (r : Int)) w e w2 := by
  have hu : usedIn (dropN s.S r) (pg r) = true := hp ▸ usedIn_pg hj1 hj
  have hF : Fits (s.giveI (r : Int)) := by unfold ArS.giveI; split; exact h.fits.give _; exact h.fits
  refine ⟨he, h.mapTurn hT hM hF (by rw [giveI_P]) (fun p _ => ?_), hT.mono fun k _ hk => .inr (.inl hk)⟩
  rw [giveI_nat hS]
  show giveCls s r p = _
  unfold giveCls
  rw [if_pos hu]
theorem give_free {w w2 : World} {Y : MdB} {s : ArS} {r g cap : Nat} {cur : Array Value} {e : Ending} (h : MdAt w Y s) (hS : s.S r = true) (hT : Turn (fun k => k = Y.t) w w2) (hM : MapM w2 Y.t (s.giveI (r : Int))) (hn : ∀ j, dropN s.S r j = true → pg j ≠ pg r) (he : e = .returned (.bool true))
    (hv : Y.v = .slice (some ⟨g, 0, none⟩) s.P cap) (hb : Blk w2 g cur 3) (hsz : s.P ≤ cur.size) (hcs : ∀ k, k < s.P → cur[k]? = some (.int .i64 (s.cls k))) {w3 : World} (hw : w3 = w2.setCell ⟨g, pg r, none⟩ (.int .i64 (-1))) :
    MdPost Y (.bool true) (s.giveI (r : Int)) w e w3 := by
  subst hw
  obtain ⟨a1, a2, a3, a4⟩ := h.fits.at_ r hS
  have hu : ¬ usedIn (dropN s.S r) (pg r) = true := fun hu => by
    obtain ⟨k, hk, hx⟩ := usedIn_yes.1 hu
    exact hn _ hx (by unfold pg; unfold pg at *; omega)
  have hF : Fits (s.giveI (r : Int)) := by unfold ArS.giveI; split; exact h.fits.give _; exact h.fits
  have hg := PagesIn.far h (k := g) (by rw [hv]; rfl)
  have hT2 : Turn Y.has w2 (w2.setCell ⟨g, pg r, none⟩ (.int .i64 (-1))) := (Turn.refl _ w2).set _ _ (.inr (.inr (.inr (by rw [hv]; rfl))))
  have hT3 : Turn (fun k => k = g) w2 (w2.setCell ⟨g, pg r, none⟩ (.int .i64 (-1))) := (Turn.refl _ w2).set _ _ (.inr rfl)
  refine ⟨he, ⟨(h.head.turn hT h.mt).turn hT3 (fun e => hg.2 e.symm), ?_, hM.turn hT3 (fun e => hg.1 e.symm), hF⟩, (hT.mono fun k _ hk => .inr (.inl hk)).trans hT2 fun _ _ h => h⟩
  rw [hv]
  refine PagesIn.put (s := s) hb hsz hcs (by unfold pg; omega) (by rw [giveI_P]) ?_
  rw [giveI_nat hS]
  show giveCls s r = _
  unfold giveCls
  rw [if_neg hu]

theorem giveM_no {w : World} {Y : MdB} {s : ArS} (h : MdAt w Y s) (r : Int) (hwf : (Lit.int .i64 r).wf = true) (hr : inS s.S r = false) :
    Calls Tryd.prog 18 #[.pointer (some ⟨Y.m, 0, none⟩), .int .i64 r] w (MdPost Y (.bool false) s w) := by
  have h1 := h.c1
  have hmap := h.map
  go_enter Tryd.func18, Tryd.ntmps18
  go_wp2_with (at_lookup; refine wpList_lookM rfl _ _ rfl hmap _ hwf false hr rfl rfl ?_; intro c)
  go_ret
  exact ⟨rfl, h, Turn.refl _ _⟩

set_option maxRecDepth 100000 in
set_option maxHeartbeats 2000000 in
theorem giveM_yes {w : World} {Y : MdB} {s : ArS} (h : MdAt w Y s) (r : Nat) (hS : s.S r = true) :
    Calls Tryd.prog 18 #[.pointer (some ⟨Y.m, 0, none⟩), .int .i64 (r : Int)] w (MdPost Y (.bool true) (s.giveI (r : Int)) w) := by
  have h1 := h.c1
  obtain ⟨a1, a2, a3, a4⟩ := h.fits.at_ r hS
  have hp64 := h.fits.p64
  have hwf : (Lit.int .i64 (r : Int)).wf = true := wf_of (by omega) (by omega)
  have hr : inS s.S (r : Int) = true := by rw [inS_nat]; exact hS
  have hmap := h.map
  obtain ⟨D, hown, hD⟩ := h.map
  have hTi : Tidy D := hown.tidy keyRef
  have hD2 := hD.give h.fits hTi hS
  have hkey := keyOf_int_mk Tryd.underlying30 hwf
  have hpd := pg_div a1
  have hpg0 : (0 : Int) ≤ ((pg r : Nat) : Int) := by omega
  have hpg1 : ((pg r : Nat) : Int) ≤ 64 := by unfold pg; omega
  have HS := Lib.hid hS
  have HA := Lib.hid a3
  have hH := Lib.hid h
  have hmb := h.head.lt
  have hmt := h.mt
  clear hS hD a3 a4
  go_enter Tryd.func18, Tryd.ntmps18
  go_wp2_with (first
    | (at_lookup; refine wpList_lookM rfl _ _ rfl hmap _ hwf true hr rfl rfl ?_; intro c)
    | (at_delete; refine wpList_delete_own _ rfl _ _ 42 30 rfl 3 keyRef Tryd.underlying42 _ Y.t 4096 D rfl hown _ _ rfl hkey ?_; intro w1 hown1 hturn1; have h1w := ((turn_map hturn1).cell (a := ⟨Y.m, 1, none⟩) hmb hmt).trans h1; clear h1)
    | (at_range; refine wpList_range_own _ rfl _ 42 rfl 30 3 keyRef Tryd.underlying42 _ Y.t 4096 _ rfl hown1 ?_; intro w0 hrg0 hg0 hs0))
  go_frame
  go_loopw [8] (fun _ wr => GiveLoop s r Y (D.del (.int .i64 (r : Int))) w1 wr) (fun _ wr => wr.rangeLeft Y.t w1.heap.size)
  case atStart => exact give_first hD2 HS.out hH.out.fits hrg0 hg0
  case round =>
    clear hrg0 hg0 hs0
    obtain ⟨left, cnt, hrg, hleft, hT⟩ := hrel
    obtain ⟨e1, e2⟩ := give_end hH.out HS.out hD2 hturn1 hT hrg.owns
    go_wp2_with (at_next; refine wpList_next_ranges_ii wr rfl _ rfl 30 3 .i64 .i64 keyRef Tryd.underlying30 Tryd.underlying3 Y.t w1.heap.size 4096 (D.del (.int .i64 (r : Int))) left cnt rfl hrg ?_ ?_)
    · intro hc0 hl0
      have hn : ∀ j, dropN s.S r j = true → pg j ≠ pg r := fun j hj hp => by
        have := hleft j hj hp
        rw [hl0] at this; cases this
      have hz := h.pages
      rcases h.pages with ⟨_, e0⟩ | ⟨g, cp, cur, hv, hbk, hsz, hcs⟩
      · omega
      have hgf := PagesIn.far h (k := g) (by rw [hv]; rfl)
      have hbk2 := hbk.turn e1 hgf.1
      have h0 := (h.head.turn e1 hmt).cell 0
      simp only [List.getElem?_toArray, List.getElem?_cons_zero] at h0
      rw [hv] at h0
      have hpl : pg r < s.P := by unfold pg; omega
      have hc2 := page_cell hbk2 hcs hpl
      have hz2 := hbk2.free (pg r)
      have hplI : ((pg r : Nat) : Int) < (s.P : Int) := by omega
      clear hz hleft hrg
      go_wp2_with fail
      go_ret
      exact give_free hH.out HS.out e1 e2 hn rfl hv hbk2 hsz hcs rfl
    · intro x c w2 cnt1 hwx hwc hlx hat hrg1 hlt hg1 hs1 hen
      obtain ⟨j, rfl, hj1, hj2, hj3, hj⟩ := give_key hD2 HS.out hH.out.fits hwx hat
      have hpd2 := pg_div hj1
      have hj0 : (0 : Int) ≤ ((pg j : Nat) : Int) := by omega
      have hj4 : ((pg j : Nat) : Int) ≤ 64 := by omega
      by_cases hp : pg j = pg r
      · have hT2 : Turn (fun k => k = Y.t) w w2 := e1.trans (M' := fun k => k = w1.heap.size) ⟨hg1.os, hg1.tape, hg1.output, hg1.size, fun k hk hn => hg1.block k hk (fun e => hn (Option.some.inj e))⟩ (fun i hi e => absurd e (by have := (turn_map hturn1).size; omega))
        have hM2 : MapM w2 Y.t (s.giveI (r : Int)) := ⟨_, hrg1.owns, hD2⟩
        have HP := Lib.hid hp
        rw [hp] at hpd2 hj0 hj4
        clear hp
        go_wp2_with fail
        go_ret
        exact give_stay hH.out HS.out hT2 hM2 hj hj1 HP.out rfl
      · have hpE : (((pg j : Nat) : Int) == ((pg r : Nat) : Int)) = false := not_eqb (by omega)
        have HP := Lib.hid hp
        clear hp
        go_wp2_with fail
        go_roundw
        case rel => exact give_next HP.out hleft hrg1 hg1 hT
        case measure => rw [hrg1.left_eq, hrg.left_eq]; omega
end Go.Proofs.YtlloanoohphgcaaDoor
