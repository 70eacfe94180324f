/- same: are a table's roots those of a row, but for noughts?; at this seat's numbers. -/
import Derived.Test.YtoemfehlnnbjdaaRtG
namespace Go.Proofs.Ytoemfehlnnbjdaa
open Go Go.RowKit Go.Shelf
set_option linter.unusedSimpArgs false
set_option linter.unusedVariables false
attribute [local go_sem] Oper.semAt_some

/-- A number in a box. -/
def boxN (kb : Nat) (w : World) : Nat := match w.cell? ⟨kb, 0, none⟩ with
  | some (.int _ n) => n.toNat
  | _ => 0
theorem BoxI.num {kb : Nat} {n : Nat} {T : TypeId} {V7 V : World} (h : BoxI kb (.int .i64 (n : Int)) T V7 V) : boxN kb V = n := by
  unfold boxN
  rw [h.box.cell 0]
  rfl
theorem nz_skip {l : List Int} {k : Nat} {pre : List Int} (h : nz (l.take k) = pre) (hk : l[k]? = some 0) : nz (l.take (k + 1)) = pre := by
  rw [nz_next hk, if_pos rfl, List.append_nil, h]
theorem nz_hit {l : List Int} {k : Nat} {pre : List Int} {r : Int} (h : nz (l.take k) = pre) (hk : l[k]? = some r) (h0 : r ≠ 0) : nz (l.take (k + 1)) = pre ++ [r] := by
  rw [nz_next hk, if_neg h0, h]
theorem nz_pre (l : List Int) (k : Nat) : nz (l.take k) <+: nz l := by
  have e : nz l = nz (l.take k) ++ nz (l.drop k) := by unfold nz; rw [← List.filter_append, List.take_append_drop]
  rw [e]; exact List.prefix_append _ _
/-- What was told doesn't stand there. -/
theorem nz_miss {l : List Int} {k : Nat} {pre : List Int} {r x : Int} (h : nz (l.take k) = pre) (hk : l[k]? = some r) (h0 : r ≠ 0) (hx : r ≠ x) : ¬ (pre ++ [x] <+: nz l) := fun hp => by
  have h1 := nz_pre l (k + 1)
  rw [nz_hit h hk h0] at h1
  have h2 := List.prefix_of_prefix_length_le h1 hp (by simp)
  have h3 := h2.eq_of_length (by simp)
  have h4 := (List.append_inj' h3 rfl).2
  exact hx (by simpa using h4)
theorem nz_over {l : List Int} {k : Nat} {pre : List Int} {x : Int} (h : nz (l.take k) = pre) (hk : l.length ≤ k) : ¬ (pre ++ [x] <+: nz l) := fun hp => by
  rw [List.take_of_length_le hk] at h
  have := hp.length_le
  rw [h, List.length_append, List.length_singleton] at this
  omega
/-- In the middle of a row: a number in a box, beside which nothing turns. -/
structure SamI (kb : Nat) (l pre : List Int) (V7 V0 : World) (V : World) : Prop where
  ex : ∃ k : Nat, k ≤ l.length ∧ nz (l.take k) = pre ∧ BoxI kb (.int .i64 (k : Int)) 3 V7 V
  turn : Turn (fun k => k = kb) V0 V

set_option maxRecDepth 100000 in
set_option maxHeartbeats 8000000 in
theorem same_true {B t N : Nat} {F : Nat → Prop} {regs stk : Int} {gl : List Int} {th : Nat → Option TM} {wb w : World} (h : RtIn B F t N regs stk gl th wb w) (vw : Value) (l : List Int) (hv : RefRow w vw l) (hl : l.length ≤ 1000) (he : nz l = allR gl regs.toNat th) :
    Calls Try.prog 19 #[.pointer (some ⟨t, 0, none⟩), vw] w fun e w' => e = .returned (.bool true) ∧ Below w.heap.size w w' := by
  obtain ⟨R, rfl, hA, _⟩ := h.ex
  clear h
  obtain ⟨M, hM⟩ : ∃ M : Nat, 14 ≤ M := ⟨14, Nat.le_refl _⟩
  have HE := Lib.hid he
  clear he
  have hAlt := hA.lt
  obtain ⟨v0, c0, rfl, hcell⟩ : ∃ v c, vw = .slice v l.length c ∧ ∀ k, k < l.length → ∃ g, v = some ⟨g, 0, none⟩ ∧ g < w.heap.size ∧ w.cell? ⟨g, k, none⟩ = some (.int .i64 (l.getD k 0)) := by
    rcases hv.is with ⟨rfl, e⟩ | ⟨g, cap, cur, rfl, hg, _, _, _, hc⟩
    · exact ⟨none, 0, by rw [e]; rfl, fun k hk => by rw [e] at hk; exact absurd hk (Nat.not_lt_zero _)⟩
    · refine ⟨_, cap, rfl, fun k hk => ⟨g, rfl, hg.lt, ?_⟩⟩
      rw [hc k hk]
      simp [List.getD, hk]
  clear hv
  have HC := Lib.hid hcell
  clear hcell
  refine calls_of_wp_marks Try.func19 rfl M ?_
  simp only [Try.ntmps19, List.size_toArray, List.length_cons, List.length_nil, Nat.reduceAdd, Nat.reduceSub, Array.replicate_succ, Array.replicate_zero, List.push_toArray, List.append_toArray, List.nil_append, List.cons_append]
  gi_wp2_with fail
  refine ⟨trivial, fun h => (by cases h), ?_⟩
  refine (callsIn_wide.2 (rootallfn_any R.t _)).mono ?_
  rintro e w' ⟨rfl, rfl⟩
  have hb1 := (((Blk.new w #[.slice v0 l.length c0] 30).alloc (.cells #[.bool false] 4)).alloc (.cells #[.int .i64 0] 3)).alloc (.cells #[.pointer (some ⟨R.t, 0, none⟩)] 27)
  have hb2 := ((Blk.new (w.alloc (.cells #[.slice v0 l.length c0] 30)) #[.bool false] 4).alloc (.cells #[.int .i64 0] 3)).alloc (.cells #[.pointer (some ⟨R.t, 0, none⟩)] 27)
  have hb3 := (Blk.new ((w.alloc (.cells #[.slice v0 l.length c0] 30)).alloc (.cells #[.bool false] 4)) #[.int .i64 0] 3).alloc (.cells #[.pointer (some ⟨R.t, 0, none⟩)] 27)
  have hb4 := Blk.new (((w.alloc (.cells #[.slice v0 l.length c0] 30)).alloc (.cells #[.bool false] 4)).alloc (.cells #[.int .i64 0] 3)) #[.pointer (some ⟨R.t, 0, none⟩)] 27
  have hB7 := ((((Below.refl w.heap.size w).alloc (Nat.le_refl _) (.cells #[.slice v0 l.length c0] 30)).alloc (by simp) (.cells #[.bool false] 4)).alloc (by simp; omega) (.cells #[.int .i64 0] 3)).alloc (by simp; omega) (.cells #[.pointer (some ⟨R.t, 0, none⟩)] 27)
  have hs7 : ((((w.alloc (.cells #[.slice v0 l.length c0] 30)).alloc (.cells #[.bool false] 4)).alloc (.cells #[.int .i64 0] 3)).alloc (.cells #[.pointer (some ⟨R.t, 0, none⟩)] 27)).heap.size = w.heap.size + 4 := by simp
  simp only [World.size_alloc] at hb2 hb3 hb4
  have H := Lib.hid (And.intro hb1 (And.intro hb2 (And.intro hb3 (And.intro hb4 hs7))))
  clear hb1 hb2 hb3 hb4 hs7
  have hA7 := hA.below hB7
  gi_wp2_with fail
  obtain ⟨hb1, hb2, hb3, hb4, hs7e⟩ := H.out
  have hs7 := Nat.le_of_eq hs7e.symm
  clear H hs7e
  generalize (((w.alloc (.cells #[.slice v0 l.length c0] 30)).alloc (.cells #[.bool false] 4)).alloc (.cells #[.int .i64 0] 3)).alloc (.cells #[.pointer (some ⟨R.t, 0, none⟩)] 27) = V7 at *
  have hlt7 := hA7.lt
  have hrow : ∀ (wr : World) (k : Nat), BoxI (w.heap.size + 1 + 1) (.int .i64 (k : Int)) 3 V7 wr → k < l.length → ∃ g, v0 = some ⟨g, 0, none⟩ ∧ wr.cell? ⟨g, k, none⟩ = some (.int .i64 (l.getD k 0)) := fun wr k hI hk => by
    obtain ⟨g, e, hg, hc⟩ := HC.out k hk
    exact ⟨g, e, (hI.turn.cell (a := ⟨g, k, none⟩) (by have := hB7.size; show g < V7.heap.size; omega) (fun e2 => by have e3 : g = w.heap.size + 1 + 1 := e2; omega)).trans ((hB7.cell (p := ⟨g, k, none⟩) hg).trans hc)⟩
  have hwc : ∀ (wr : World) (v : Value), BoxI (w.heap.size + 1 + 1) v 3 V7 wr → wr.cell? ⟨w.heap.size, 0, none⟩ = some (.slice v0 l.length c0) := fun wr v hI =>
    (hI.turn.cell (a := ⟨w.heap.size, 0, none⟩) (by show w.heap.size < V7.heap.size; omega) (fun e2 => by have e3 : w.heap.size = w.heap.size + 1 + 1 := e2; omega)).trans (hb1.cell 0)
  have hrb : ∀ (wr : World) (v : Value), BoxI (w.heap.size + 1 + 1) v 3 V7 wr → Blk wr (w.heap.size + 1) #[.bool false] 4 := fun wr v hI =>
    hb2.turn hI.turn (fun e2 => by have e3 : w.heap.size + 1 = w.heap.size + 1 + 1 := e2; omega)
  have HROW := Lib.hid hrow
  have HWC := Lib.hid hwc
  have HRB := Lib.hid hrb
  clear hrow hwc hrb
  refine wpIn_rangeT rfl (by omega) (gf := 35) (lb := #[.pointer (some ⟨w.heap.size + 1 + 1 + 1, 0, none⟩)]) rfl trivial (enters_of Try.func35 (by kernel_rfl) rfl)
    (all_seqR (M - 1) (by omega) (w.heap.size + 1 + 1 + 1) V7 hA7 (hb4.cell 0)) KpRt.trans (fun W l o o' hl ho hc => KpRt.putObj hlt7 (by omega) W l o o' hl ho hc) (Below.refl _ _) (fun _ => rfl)
    (fun st V => ∃ k : Nat, k ≤ l.length ∧ nz (l.take k) = st.1 ∧ BoxI (w.heap.size + 1 + 1) (.int .i64 (k : Int)) 3 V7 V)
    (fun c st V => ¬ (st.1 <+: nz l))
    (fun st A C row ⟨k, h1, h2, h3⟩ hg hr => ⟨k, h1, h2, h3.grown (Nat.le_refl _) hg hr⟩) (fun c st A C row hs hg hr => hs)
    ⟨0, Nat.zero_le _, rfl, hb3, Turn.refl _ _⟩ ?a1 ?assign ?body ?done ?stop
  case assign =>
    intro l0 x W K hK
    gi_wp2
    exact hK
  case stop =>
    rintro D c pre O V hD ⟨_, hpre⟩ hno hK
    rw [← HE.out] at hpre
    exact absurd hpre hno
  case body =>
    rintro l0 pre O x V hl0 _ hO ⟨k0, hk0, hn0, hI0⟩ hlen
    have hV7 := hI0.turn.size
    gi_wp2_with fail
    gi_loopw [10] (fun v10 wr => SamI (w.heap.size + 1 + 1) l pre V7 V wr) (fun v10 wr => l.length - boxN (w.heap.size + 1 + 1) wr)
    case atStart => exact ⟨⟨k0, hk0, hn0, hI0⟩, Turn.refl _ V⟩
    case round =>
      obtain ⟨⟨k, hk, hn, hI⟩, hT⟩ := hrel
      have ck := hI.box.cell 0
      have zk := hI.box.free 0
      simp only [List.getElem?_toArray, List.getElem?_cons_zero] at ck
      have cw := HWC.out _ _ hI
      have hbr := HRB.out _ _ hI
      have cr := hbr.cell 0
      have zr := hbr.free 0
      simp only [List.getElem?_toArray, List.getElem?_cons_zero] at cr
      have hm := hI.num
      have hk0I : (0 : Int) ≤ (k : Int) := by omega
      have hlI : (k : Int) ≤ (l.length : Int) := by omega
      by_cases hlt : k < l.length
      · have hkI : (k : Int) < (l.length : Int) := by omega
        have hkI2 : ¬ (l.length : Int) ≤ (k : Int) := by omega
        obtain ⟨g, rfl, d⟩ := HROW.out _ k hI hlt
        obtain ⟨r, hr⟩ : ∃ r, l[k]? = some r := ⟨_, List.getElem?_eq_getElem hlt⟩
        have hrg : l.getD k 0 = r := by simp [List.getD, hr]
        rw [hrg] at d
        by_cases hr0 : r = 0
        · subst hr0
          have hI2 := hI.put (.int .i64 ((k + 1 : Nat) : Int))
          have H2 := Lib.hid (And.intro (nz_skip hn hr) (And.intro hI2 (And.intro (hT.set ⟨w.heap.size + 1 + 1, 0, none⟩ (.int .i64 ((k + 1 : Nat) : Int)) (.inr rfl)) (And.intro hm hI2.num))))
          rw [show (((k + 1 : Nat)) : Int) = (k : Int) + 1 by omega] at H2
          clear hn hI hT hm hI2 hr hrg hbr
          gi_wp2_with fail
          go_roundw
          case rel =>
            obtain ⟨a1, a2, a3, _⟩ := H2.out
            exact ⟨⟨k + 1, hlt, a1, by rw [show (((k + 1 : Nat)) : Int) = (k : Int) + 1 by omega]; exact a2⟩, a3⟩
          case measure =>
            obtain ⟨_, _, _, a4, a5⟩ := H2.out
            rw [a4, a5]
            omega
        · have hb1 : (r == 0) = false := by simpa using hr0
          by_cases hx : r = x
          · subst hx
            have hI2 := hI.put (.int .i64 ((k + 1 : Nat) : Int))
            have hT2 := hT.set ⟨w.heap.size + 1 + 1, 0, none⟩ (.int .i64 ((k + 1 : Nat) : Int)) (.inr rfl)
            have hkp : KpRt R th (w.heap.size + 1 + 1 + 1) V7.heap.size V (wr.setCell ⟨w.heap.size + 1 + 1, 0, none⟩ (.int .i64 ((k + 1 : Nat) : Int))) := KpRt.ofTurn (fun j hj => by have := hlt7 j hj; omega) (by omega) hT2 (fun j hj e => by have := hAlt j hj; have e2 : j = w.heap.size + 1 + 1 := e; omega) (fun e => by have e2 : w.heap.size + 1 + 1 + 1 = w.heap.size + 1 + 1 := e; omega) (fun j hj e => by have e2 : j = w.heap.size + 1 + 1 := e; omega)
            have H2 := Lib.hid (And.intro (nz_hit hn hr hr0) (And.intro hI2 (And.intro (OwnedT.ofTurn (B := V7.heap.size) (O := O) hT2 (fun j e => by have e2 : j = w.heap.size + 1 + 1 := e; omega)) hkp)))
            rw [show (((k + 1 : Nat)) : Int) = (k : Int) + 1 by omega] at H2
            clear hn hI hT hm hI2 hr hrg hbr hT2 hkp
            gi_wp2_with fail
            obtain ⟨a1, a2, a3, a4⟩ := H2.out
            exact ⟨O, a3, a4, k + 1, hlt, a1, by rw [show (((k + 1 : Nat)) : Int) = (k : Int) + 1 by omega]; exact a2⟩
          · have hb2 : (r != x) = true := by simpa using hx
            have hT2 := (hT.mono (M' := fun j => j = w.heap.size + 1 + 1 ∨ j = w.heap.size + 1) (fun j _ e => .inl e)).set ⟨w.heap.size + 1, 0, none⟩ (.bool false) (.inr (.inr rfl))
            have H2 := Lib.hid (And.intro (nz_miss hn hr hr0 hx) (OwnedT.ofTurn (B := V7.heap.size) (O := O) hT2 (fun j e => by rcases e with e | e <;> omega)))
            clear hn hI hT hm hr hrg hbr hT2
            gi_wp2_with fail
            exact ⟨O, H2.out.2, H2.out.1⟩
      · have hkI : ¬ (k : Int) < (l.length : Int) := by omega
        have hkI2 : (l.length : Int) ≤ (k : Int) := by omega
        have hT2 := (hT.mono (M' := fun j => j = w.heap.size + 1 + 1 ∨ j = w.heap.size + 1) (fun j _ e => .inl e)).set ⟨w.heap.size + 1, 0, none⟩ (.bool false) (.inr (.inr rfl))
        have H2 := Lib.hid (And.intro (nz_over (x := x) hn (by omega)) (OwnedT.ofTurn (B := V7.heap.size) (O := O) hT2 (fun j e => by rcases e with e | e <;> omega)))
        clear hn hI hT hm hbr hT2 hlt hk
        gi_wp2_with fail
        exact ⟨O, H2.out.2, H2.out.1⟩
  case done =>
    rintro D xs O V hD hO hxs ⟨k0, hk0, hn0, hI0⟩ hK
    replace hxs : xs = allR gl regs.toNat th := hxs
    rw [hxs, ← HE.out] at hn0
    have hV7 := hI0.turn.size
    clear hxs
    gi_wp2_with fail
    gi_loopw [37] (fun v37 wr => SamI (w.heap.size + 1 + 1) l (nz l) V7 V wr) (fun v37 wr => l.length - boxN (w.heap.size + 1 + 1) wr)
    case atStart => exact ⟨⟨k0, hk0, hn0, hI0⟩, Turn.refl _ V⟩
    case round =>
      obtain ⟨⟨k, hk, hn, hI⟩, hT⟩ := hrel
      have ck := hI.box.cell 0
      have zk := hI.box.free 0
      simp only [List.getElem?_toArray, List.getElem?_cons_zero] at ck
      have cw := HWC.out _ _ hI
      have hbr := HRB.out _ _ hI
      have cr := hbr.cell 0
      have zr := hbr.free 0
      simp only [List.getElem?_toArray, List.getElem?_cons_zero] at cr
      have hm := hI.num
      have hk0I : (0 : Int) ≤ (k : Int) := by omega
      by_cases hlt : k < l.length
      · have hkI : (k : Int) < (l.length : Int) := by omega
        obtain ⟨g, rfl, d⟩ := HROW.out _ k hI hlt
        obtain ⟨r, hr⟩ : ∃ r, l[k]? = some r := ⟨_, List.getElem?_eq_getElem hlt⟩
        have hrg : l.getD k 0 = r := by simp [List.getD, hr]
        rw [hrg] at d
        have hr0 : r = 0 := by
          refine Classical.byContradiction fun h0 => ?_
          have h1 := nz_pre l (k + 1)
          rw [nz_hit hn hr h0] at h1
          have h2 := h1.length_le
          rw [List.length_append, List.length_singleton] at h2
          omega
        subst hr0
        have hI2 := hI.put (.int .i64 ((k + 1 : Nat) : Int))
        have H2 := Lib.hid (And.intro (nz_skip hn hr) (And.intro hI2 (And.intro (hT.set ⟨w.heap.size + 1 + 1, 0, none⟩ (.int .i64 ((k + 1 : Nat) : Int)) (.inr rfl)) (And.intro hm hI2.num))))
        rw [show (((k + 1 : Nat)) : Int) = (k : Int) + 1 by omega] at H2
        clear hn hI hT hm hI2 hr hrg hbr
        gi_wp2_with fail
        go_roundw
        case rel =>
          obtain ⟨a1, a2, a3, _⟩ := H2.out
          exact ⟨⟨k + 1, hlt, a1, by rw [show (((k + 1 : Nat)) : Int) = (k : Int) + 1 by omega]; exact a2⟩, a3⟩
        case measure =>
          obtain ⟨_, _, _, a4, a5⟩ := H2.out
          rw [a4, a5]
          omega
      · obtain rfl : k = l.length := by omega
        have hkI : ¬ (l.length : Int) < (l.length : Int) := by omega
        have hDl : D < V.heap.size := (Array.getElem?_eq_some_iff.mp hK).1
        have hTs := hT.size
        have hK2 : wr.heap[D]? = some (.deferred (some [])) := (hT.block D hDl (fun e => by have e2 : D = w.heap.size + 1 + 1 := e; omega)).trans hK
        have hM2 : Marks w.heap.size (D + 1) [{ target := .collected D, args := #[] }] (wr.setCell ⟨w.heap.size + 1, 0, none⟩ (.bool true)) := ⟨D, rfl, by omega, by omega, (Below.heap_setCell _ _ _ _ (by show D ≠ w.heap.size + 1; omega)).trans hK2, trivial⟩
        have hB9 : Below w.heap.size w (wr.setCell ⟨w.heap.size + 1, 0, none⟩ (.bool true)) := (hB7.trans (hI.turn.below w.heap.size (by omega) (fun j hj e => by have e2 : j = w.heap.size + 1 + 1 := e; omega))).setCell (p := ⟨w.heap.size + 1, 0, none⟩) (by show w.heap.size ≤ w.heap.size + 1; omega) (.bool true)
        have hR9 : (wr.setCell ⟨w.heap.size + 1, 0, none⟩ (.bool true)).cell? ⟨w.heap.size + 1, 0, none⟩ = some (.bool true) := World.cell?_setCell_same _ _ _ cr
        have hs9 : D + 1 ≤ (wr.setCell ⟨w.heap.size + 1, 0, none⟩ (.bool true)).heap.size := by simp; omega
        have hRl : w.heap.size + 1 < (wr.setCell ⟨w.heap.size + 1, 0, none⟩ (.bool true)).heap.size := by simp; omega
        clear hn hI hT hm hbr hlt hk
        gi_wp2_with fail
        generalize wr.setCell ⟨w.heap.size + 1, 0, none⟩ (.bool true) = V8 at *
        refine leavesP_marks hM2 hs9 fun w' hb _ hcs => ?_
        have hRF := hcs ⟨w.heap.size + 1, 0, none⟩ _ hRl hR9
        refine ⟨.bool true, ?_, rfl, hB9.trans hb⟩
        simp [results, Try.f19, go_sem, hRF]
end Go.Proofs.Ytoemfehlnnbjdaa
