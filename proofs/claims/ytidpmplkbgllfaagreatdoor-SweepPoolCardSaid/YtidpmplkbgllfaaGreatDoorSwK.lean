/- SweepPool, walked; at this seat's numbers. -/
import Derived.Test.YtidpmplkbgllfaaGreatDoorSwM
import Derived.Maps.OwnIn
namespace Go.Proofs.YtidpmplkbgllfaaGreatDoor
open Go Go.RowKit Go.Shelf Go.MuLone Go.RwLone
set_option linter.unusedSimpArgs false
set_option linter.unusedVariables false
attribute [local go_sem] Oper.semAt_some

theorem u8_and_maskS (x : Int) (m : Nat) (hm : m < 256) : ∃ r : Nat, r ≤ m ∧ bits .and .u8 x (m : Int) = (r : Int) := by
  refine ⟨(BitVec.ofInt 8 x).toNat &&& m, Nat.and_le_right, ?_⟩
  have h2 : (BitVec.ofInt 8 (m : Int)).toNat = m := by
    rw [BitVec.ofInt_natCast, BitVec.toNat_ofNat]; exact Nat.mod_eq_of_lt (by omega)
  show IntKind.u8.wrap ((BitVec.ofInt 8 x &&& BitVec.ofInt 8 (m : Int)).toNat : Int) = _
  rw [BitVec.toNat_and, h2]
  have h3 : (BitVec.ofInt 8 x).toNat &&& m ≤ m := Nat.and_le_right
  generalize (BitVec.ofInt 8 x).toNat &&& m = r at *
  simp [IntKind.wrap, IntKind.bits, IntKind.signed]
  omega
/-- Between two objects that are, or aren't, marked. -/
structure PkR (B xa tm mbk : Nat) (X : ArB) (s : ArS) (vl : Value) (L : List Int) (i : Nat) (c : Col) (T : MkB) (wb wr : World) : Prop where
  ma : MaIn B (fun k => vl.ownBlock = some k ∨ k = mbk) X s T c wb wr
  te : T.m = tm
  row : RefRow wr vl L
  map : ∃ nn, nn ≤ i ∧ MapPg wr mbk nn (kpF s.S c) (kpK s.S c) (nk s.S c)
  sub : ∀ x, c.ma x = true → x ∈ L.take i
/-- Between two pages. -/
structure PoR (B xa sw mbk : Nat) (s : ArS) (c : Col) (nx hi : Nat) (ds : List Deferred) (wb W : World) : Prop where
  ex : ∃ X' s' T' c', X'.a = xa ∧ SwIn B (fun k => k = mbk ∨ DsHas ds k) X' s' T' c' sw (decide (nx < 64)) nx wb W ∧ s'.P = 64 ∧ (∀ r, s'.S r = (s.S r && (c.ma (r : Int) || decide (nx ≤ pg r)))) ∧ ∀ x, c'.ma x = (c.ma x && decide (nx ≤ pg x.toNat))
  map : ∃ nn, MapPg W mbk nn (kpF s.S c) (kpK s.S c) (nk s.S c)
  marks : Marks B hi ds W
  top : hi ≤ W.heap.size
section
variable {B xa tm mbk i : Nat} {X : ArB} {s : ArS} {vl : Value} {L : List Int} {c : Col} {T : MkB} {wb wr w' : World}
theorem PkR.skip (h : PkR B xa tm mbk X s vl L i c T wb wr) : PkR B xa tm mbk X s vl L (i + 1) c T wb wr := by
  obtain ⟨nn, hn, hM⟩ := h.map
  exact ⟨h.ma, h.te, h.row, ⟨nn, by omega, hM⟩, fun x hx => List.mem_of_mem_take (i := i) (by
    have h1 := h.sub x hx
    rw [List.take_take]
    rwa [show min i (i + 1) = i by omega])⟩
end
set_option maxRecDepth 100000 in
set_option maxHeartbeats 16000000 in
theorem swpool_true (a0 : Option Addr) (zs : List Int) (cf : Nat) (e0 : Option Addr) (ne ce : Nat) (Q : Nat → Nat → Int) (a1 : Option Addr) (us : List Int) (cu : Nat) (w : World) (hul : us.length ≤ 9223372036854775807) (hF : BytesW w a0 zs) (hE : EdgesW w e0 ne Q) (hU : BytesW w a1 us) (hT : TableAt w) :
    Calls Tryz.prog 4 #[.agg #[.slice a0 zs.length cf, .slice e0 ne ce], .slice a1 us.length cu] w fun e w' => e = .returned (.bool true) ∧ Below w.heap.size w w' := by
  have HA := Lib.hid (And.intro hF (And.intro hE hU))
  obtain ⟨M, hM⟩ : ∃ M : Nat, 10 ≤ M := ⟨10, Nat.le_refl _⟩
  have hG := Blk.new w #[.slice a0 zs.length cf, .slice e0 ne ce] 25
  have hB0 := (Below.refl w.heap.size w).alloc (Nat.le_refl _) (.cells #[.slice a0 zs.length cf, .slice e0 ne ce] 25)
  have hT0 := hT.below hB0
  have HG := Lib.hid (And.intro hG (And.intro hB0 hT0))
  clear hF hE hU hG hB0 hT0 hT
  refine calls_of_wp_marks Tryz.func4 rfl M ?_
  simp only [Tryz.ntmps4, List.size_toArray, List.length_cons, List.length_nil, Nat.reduceAdd, Nat.reduceSub, Array.replicate_succ, Array.replicate_zero, List.push_toArray, List.append_toArray, List.nil_append, List.cons_append]
  gi_wp2_with fail
  refine ⟨trivial, fun h => (by cases h), ?_⟩
  obtain ⟨hG, hB0, hT0⟩ := HG.out
  clear HG
  generalize w.alloc (.cells #[.slice a0 zs.length cf, .slice e0 ne ce] 25) = W0 at *
  refine (callsIn_wide.2 (swfit_true W0 hT0)).mono ?_
  rintro e w1 ⟨rfl, hB1⟩
  have hG1 := hG.turn (Turn.ofBelow hB1) (fun e => Nat.lt_irrefl _ (Nat.lt_of_lt_of_le hG.lt e))
  have hB01 := hB0.trans (hB1.mono hB0.size)
  have g0 := hG1.cell 0
  have g1 := hG1.cell 1
  simp only [List.getElem?_toArray, List.getElem?_cons_zero, List.getElem?_cons_succ] at g0 g1
  obtain ⟨q, hq⟩ : ∃ q, (decide (zs.length ≤ 40) && decide (ne ≤ 120)) = q := ⟨_, rfl⟩
  have cS := swSmall a0 zs.length cf e0 ne ce w1 q hq
  have HW1 := Lib.hid (And.intro hG1 (And.intro hB01 (hT0.below hB1)))
  clear hB0 hB1 hG hT0 hG1 hB01
  gi_wp2_with fail
  refine ⟨trivial, fun h => (by cases h), ?_⟩
  refine (callsIn_wide.2 cS).mono ?_
  rintro e w2 ⟨rfl, hB2⟩
  have hB02 := HW1.out.2.1.trans (hB2.mono HW1.out.2.1.size)
  clear cS g0 g1
  by_cases hsm : zs.length ≤ 40 ∧ ne ≤ 120
  case neg =>
    have hqf : q = false := by
      rw [← hq]
      by_cases h1 : zs.length ≤ 40
      · have h2 : ¬ ne ≤ 120 := fun h3 => hsm ⟨h1, h3⟩
        rw [decide_eq_false h2, Bool.and_false]
      · rw [decide_eq_false h1]; rfl
    subst hqf
    clear hsm hq
    gi_wp2_with fail
    exact ⟨_, results_tmp rfl _ _ _, rfl, hB02⟩
  case pos =>
  obtain ⟨h40, h120⟩ := hsm
  have hqt : q = true := by rw [← hq, decide_eq_true h40, decide_eq_true h120]; rfl
  subst hqt
  have hG2 := HW1.out.1.turn (Turn.ofBelow hB2) (fun e => Nat.lt_irrefl _ (Nat.lt_of_lt_of_le HW1.out.1.lt e))
  have hT2 := HW1.out.2.2.below hB2
  have cM := made_any a0 zs cf e0 ne ce Q w2 h40 h120 (HA.out.1.underS hB02 (Nat.le_refl _)) (HA.out.2.1.underS hB02 (Nat.le_refl _)) hT2
  have g0 := hG2.cell 0
  have g1 := hG2.cell 1
  simp only [List.getElem?_toArray, List.getElem?_cons_zero, List.getElem?_cons_succ] at g0 g1
  have HW2 := Lib.hid hB02
  have H40 := Lib.hid h40
  clear hG2 hT2 hB02 hB2 HW1 hq h40 h120
  gi_wp2_with fail
  refine ⟨trivial, fun h => (by cases h), ?_⟩
  refine (callsIn_wide.2 cM).mono ?_
  rintro e w3 hMP
  obtain ⟨X, s, obs, vl, mb, rfl, hMO⟩ := hMP.light
  have hlen := hMO.row.lenRun 3
  rw [refsI_length, hMO.len] at hlen
  have cN := ma_new (E := fun k => vl.ownBlock = some k) hMO.ar 64 (by omega) hMO.own
  have HO := Lib.hid hMO
  obtain ⟨n, hn⟩ : ∃ n, zs.length = n := ⟨_, rfl⟩
  rw [hn] at hlen
  have hn40 : (n : Int) ≤ 40 := by have := H40.out; omega
  have HN := Lib.hid hn
  clear hMO hMP cM g0 g1 hn
  gi_wp2_with fail
  refine ⟨trivial, fun h => (by cases h), ?_⟩
  refine (callsIn_wide.2 cN).mono ?_
  rintro e w4 ⟨T, rfl, hM4, hB4⟩
  have hr4 := HO.out.row.askSw hB4
  have hmm := @run_makeMap Tryz.prog
  have hB5 := (Below.refl _ w4).alloc (Nat.le_refl _) (.map #[] 0)
  have h5 : PkR w2.heap.size X.a T.m w4.heap.size X s vl (refsI obs) 0 Col.white T w2 (w4.alloc (.map #[] 0)) := by
    refine ⟨hM4.watch hB5 (fun k e => ?_), rfl, hr4.askSw hB5, ⟨0, Nat.le_refl _, ?_⟩, fun x e => by cases e⟩
    · rcases e with e | e
      · exact .inl e
      · right; subst e; simp
    · have h6 := MapPg.made w4
      rw [nk_white]
      have e1 : kpF s.S Col.white = fun _ => 0 := by funext x; unfold kpF; rw [kp_white]; simp
      have e2 : kpK s.S Col.white = fun _ => false := by funext x; unfold kpK; rw [kp_white]; simp
      rw [e1, e2]; exact h6
  have H5 := Lib.hid h5
  clear cN hM4 hB4 hr4 hB5 h5
  gi_wp2_with fail
  clear hmm
  generalize w4.alloc (.map #[] 0) = w5 at *
  generalize w4.heap.size = mbk at *
  obtain ⟨tm, htm⟩ : ∃ tm, T.m = tm := ⟨_, rfl⟩
  have H5' := H5.out
  rw [htm] at H5' ⊢
  have H5 := Lib.hid H5'
  clear H5' htm
  gi_loopw [33] (fun v33 wr => ∃ (i : Nat) (c : Col) (T : MkB), i ≤ n ∧ v33 = .int .i64 (i : Int) ∧ PkR w2.heap.size X.a tm mbk X s vl (refsI obs) i c T w2 wr) (fun v33 _ => n - (intOf v33).toNat)
  case atStart => exact ⟨0, _, _, Nat.zero_le _, rfl, H5.out⟩
  case round =>
  clear H5
  obtain ⟨i, c, T1, hi, rfl, h1⟩ := hrel
  have hi0 : (0 : Int) ≤ (i : Int) := by omega
  by_cases hlt : i < n
  · have hi1 : (i : Int) < (n : Int) := by omega
    obtain ⟨x, hx⟩ : ∃ x, (refsI obs)[i]? = some x := ⟨_, List.getElem?_eq_getElem (by rw [refsI_length, HO.out.len, HN.out]; exact hlt)⟩
    rcases h1.row.is with ⟨_, e⟩ | ⟨g, cap, cur, hv, _⟩
    · have e2 := congrArg List.length e
      rw [refsI_length, HO.out.len, HN.out] at e2
      simp at e2; omega
    rw [refsI_length, HO.out.len, HN.out] at hv
    subst hv
    have hca := row_cellSw h1.row hx
    have H1 := Lib.hid (And.intro h1 hx)
    clear h1 hx
    by_cases hul2 : i < us.length
    case neg =>
      have huI : ¬ (i : Int) < (us.length : Int) := by omega
      clear hul2
      gi_wp2_with fail
      go_roundw
      case rel => exact ⟨i + 1, c, T1, hlt, by go_num, H1.out.1.skip⟩
      case measure => simp [intOf]; omega
    case pos =>
    have huI : (i : Int) < (us.length : Int) := by omega
    obtain ⟨bk, off, rfl, hbk, hq0, hwf⟩ := HA.out.2.2 i hul2
    have hB09 := HW2.out.trans (H1.out.1.ma.ar.below.mono HW2.out.size)
    have hd0 := (hB09.cell (p := ⟨bk, off + i, none⟩) hbk).trans hq0
    obtain ⟨z, hz, hz256⟩ := u8_natW hwf
    rw [hz] at hd0
    obtain ⟨r3, hr3, hbit⟩ := u8_and_maskS (z : Int) 3 (by decide)
    have hbit : bits .and .u8 (z : Int) 3 = (r3 : Int) := hbit
    clear hbk hq0 hwf hB09 hz hul2
    by_cases hr33 : r3 = 3
    case neg =>
      have hb3 : ((r3 : Int) == 3) = false := by simp; omega
      gi_wp2_with fail
      go_roundw
      case rel => exact ⟨i + 1, c, T1, hlt, by go_num, H1.out.1.skip⟩
      case measure => simp [intOf]; omega
    case pos =>
    subst hr33
    have hxm : x ∈ refsI obs := List.mem_of_getElem? H1.out.2
    have hxS := HO.out.in_ hxm
    obtain ⟨r, rfl⟩ : ∃ r : Nat, x = (r : Int) := by
      unfold inS at hxS
      rw [Bool.and_eq_true] at hxS
      exact ⟨x.toNat, by have : 0 ≤ x := of_decide_eq_true hxS.1; omega⟩
    have hS : s.S r = true := by rw [inS_nat] at hxS; exact hxS
    obtain ⟨r1, r2, r4⟩ := fits_lt HO.out.ar.at_.fits HO.out.P hS
    have hcm : c.ma (r : Int) = false := by
      cases h9 : c.ma (r : Int) with
      | false => rfl
      | true =>
        have h10 := H1.out.1.sub _ h9
        have h11 : (refsI obs).take (i + 1) = (refsI obs).take i ++ [(r : Int)] := by rw [List.take_add_one, H1.out.2]; rfl
        have h12 : ((refsI obs).take i ++ [(r : Int)]).Nodup := by rw [← h11]; exact HO.out.nodup.sublist (List.take_sublist _ _)
        exact absurd rfl ((List.nodup_append.1 h12).2.2 _ h10 _ (List.mem_singleton.2 rfl))
    have cBl := H1.out.1.ma.blacken (r : Int) hxS
    rw [H1.out.1.te] at cBl
    have HRr := Lib.hid (And.intro hS (And.intro r1 (And.intro r4 (And.intro hcm (And.intro hxm r2)))))
    clear hxm hxS hS r1 r2 r4 hcm hr3
    gi_wp2_with fail
    refine ⟨trivial, fun h => (by cases h), ?_⟩
    refine (callsIn_wide.2 cBl).mono ?_
    rintro e w6 ⟨rfl, T6, hm6, g6, hk6, _⟩
    obtain ⟨nn, hnn, hM1⟩ := H1.out.1.map
    have hM6 := hM1.keep (w' := w6) (hk6 _ (.inr rfl))
    have hr6 := H1.out.1.row.keepSw (w' := w6) (fun k e => hk6 k (.inl e))
    have cP := page_yes g6.ar.at_.toArMem r HRr.out.2.1 (by rw [HO.out.P]; have := HRr.out.2.2.2.2.2; omega)
    have hpw : (Lit.int .i64 ((pg r : Nat) : Int)).wf = true := by
      have := HRr.out.2.2.1
      simp [Lit.wf, IntKind.min, IntKind.max, IntKind.signed, IntKind.bits]; omega
    have hlk := hM6.look ((pg r : Nat) : Int) hpw
    rw [kpF_at] at hlk
    have hkq := kp_le s.S c (pg r)
    have hvw : (Lit.int .i64 ((kp s.S c (pg r) : Int) + 1)).wf = true := by
      simp [Lit.wf, IntKind.min, IntKind.max, IntKind.signed, IntKind.bits]; omega
    obtain ⟨w7, hrun, hM7, hT7⟩ := hM6.store (by omega) ((pg r : Nat) : Int) hpw ((kp s.S c (pg r) : Int) + 1) hvw
    rw [kpF_black HRr.out.2.1 HRr.out.1 HRr.out.2.2.2.1, kpK_black HRr.out.2.1 HRr.out.1 HRr.out.2.2.2.1, kpK_pg] at hM7
    have hnk := nk_black HRr.out.2.1 HRr.out.2.2.1 HRr.out.1 HRr.out.2.2.2.1
    have h7 : PkR w2.heap.size X.a tm mbk X s (.slice (some ⟨g, 0, none⟩) n cap) (refsI obs) (i + 1) (c.black (r : Int)) T6 w2 w7 := by
      refine ⟨g6.turnE hT7 (fun k e => .inr e), hm6, hr6.turn hT7 (fun k e e2 => ?_), ⟨nn + 1, by omega, ?_⟩, fun y hy => ?_⟩
      · obtain ⟨cs, hcs⟩ := hr6.own e
        exact hM6.farBlk hcs e2
      · rw [hnk]
        by_cases e9 : 0 < kp s.S c (pg r)
        · rw [if_pos e9]; rw [if_pos (decide_eq_true e9)] at hM7; exact hM7
        · rw [if_neg e9]; rw [if_neg (by simp; omega)] at hM7; exact hM7
      · have hy2 : updI c.ma (r : Int) true y = true := hy
        by_cases e9 : y = (r : Int)
        · rw [e9, List.take_add_one, H1.out.2]; simp
        · rw [updI_ne e9] at hy2
          exact H1.out.1.skip.sub y hy2
    have H7 := Lib.hid h7
    have hkqI : (kp s.S c (pg r) : Int) ≤ 32 := by omega
    generalize kp s.S c (pg r) = kq at *
    clear cBl hca hm6 g6 hk6 hM1 hM6 hr6 hpw hvw hM7 hT7 hnk h7 hkq hd0 hbit
    gi_wp2_with fail
    refine ⟨trivial, fun h => (by cases h), ?_⟩
    refine (callsIn_wide.2 cP).mono ?_
    rintro e w' ⟨rfl, rfl⟩
    clear cP
    gi_wp2_with (gi_at_mapUpdate; refine wpListIn_mapUpdate_runS rfl _ _ _ _ rfl _ _ _ rfl rfl rfl hrun ?_)
    go_roundw
    case rel => exact ⟨i + 1, _, T6, hlt, by go_num, H7.out⟩
    case measure => simp [intOf]; omega
  obtain rfl : i = n := by omega
  have hi1 : ¬ (i : Int) < (i : Int) := by omega
  have cNw := sw_new h1.ma
  rw [h1.te] at cNw
  have H1 := Lib.hid h1
  clear h1 hlt hi
  gi_wp2_with fail
  refine ⟨trivial, fun h => (by cases h), ?_⟩
  refine (callsIn_wide.2 cNw).mono ?_
  rintro e w6 ⟨sw, rfl, h6, hB6⟩
  have cB := h6.begin
  obtain ⟨nn, hnn, hM1⟩ := H1.out.map
  have hM6 := hM1.ask hB6
  have H6 := Lib.hid (And.intro h6 hM6)
  clear cNw h6 hB6 hM1 hM6 hnn
  gi_wp2_with fail
  refine ⟨trivial, fun h => (by cases h), ?_⟩
  refine (callsIn_wide.2 cB).mono ?_
  rintro e w7 ⟨rfl, h7, hk7, _⟩
  have h8 : PoR w2.heap.size X.a sw mbk s c 0 w7.heap.size [] w2 w7 := by
    refine ⟨⟨X, s, T1, c, rfl, ⟨h7.ma.less (fun k e => ?_), h7.blk, fun e => ?_⟩, HO.out.P, fun r => ?_, fun x => ?_⟩, ⟨nn, H6.out.2.keep (hk7 _ (.inr rfl))⟩, trivial, Nat.le_refl _⟩
    · rcases e with (e | e) | e
      · exact .inl (.inr e)
      · exact e.elim
      · exact .inr e
    · rcases e with e | e
      · exact h7.far (.inr e)
      · exact e.elim
    · simp
    · simp
  have hlow := h7.size
  have H8 := Lib.hid h8
  clear cB h7 hk7 h8 H6
  gi_wp2_with fail
  refine wpIn_loop_grow (fun T u => spl (spl T u 13 4) u 64 30) (fun u ds W => ∃ (nx hi : Nat), nx ≤ 64 ∧ u 13 = .int .i64 (nx : Int) ∧ PoR w2.heap.size X.a sw mbk s c nx hi ds w2 W) (fun u => 64 - (intOf (u 13)).toNat) rfl ⟨0, w7.heap.size, Nat.zero_le _, rfl, H8.out⟩ ?_
  clear H8 hlow
  rintro u ds W ⟨nx, hi, hnx, hu, h1⟩
  simp only [spl, List.take_succ_cons, List.take_zero, List.drop_succ_cons, List.drop_zero, List.cons_append, List.nil_append, List.range'_succ, List.range'_zero, List.map_cons, List.map_nil, Nat.reduceAdd, hu]
  have hx0 : (0 : Int) ≤ (nx : Int) := by omega
  obtain ⟨X2, s2, T2, c2, hXa, hs2, hP2, hS2, hc2⟩ := h1.ex
  obtain ⟨nn2, hM2⟩ := h1.map
  have cO := hs2.on_
  by_cases hlt : nx < 64
  case neg =>
    obtain rfl : nx = 64 := by omega
    rw [show decide (64 < 64) = false from rfl] at cO
    have cF := hs2.ma.ar.free
    have cPg := pages_any hs2.ma.ar.at_.toArMem
    rw [hXa] at cF cPg
    have hfe := free_end (s := s) (c := c) hs2.fits hP2 (fun r => by
      rw [hS2]
      cases hr : s.S r with
      | false => rfl
      | true =>
        have := (fits_lt HO.out.ar.at_.fits HO.out.P hr).2.2
        rw [decide_eq_false (by omega)]; simp)
    rw [hP2] at cPg
    obtain ⟨fr, hfr⟩ : ∃ fr, freeTo s2 s2.P = fr := ⟨_, rfl⟩
    rw [hfr] at cF hfe
    have hln := hM2.len 3
    obtain ⟨nq, hnq⟩ : ∃ nq, nk s.S c = nq := ⟨_, rfl⟩
    rw [hnq] at hln hfe
    have hsub : IntKind.i64.wrap (64 - (nq : Int)) = (fr : Int) := by
      rw [show (64 : Int) - (nq : Int) = (fr : Int) by omega]
      simp [IntKind.wrap, IntKind.bits, IntKind.signed]; omega
    have hsub2 : (64 : Int) - (nq : Int) = (fr : Int) := by omega
    have HF := Lib.hid (And.intro h1.marks (And.intro h1.top (And.intro hs2.ma.ar.below hs2.size)))
    have hcast : ((64 : Nat) : Int) = 64 := rfl
    rw [hcast] at cPg
    clear h1 hs2 hS2 hc2 hM2 hfe hfr hnq hsub
    gi_wp2_with fail
    refine ⟨trivial, fun h => (by cases h), ?_⟩
    refine (callsIn_wide.2 cO).mono ?_
    rintro e w' ⟨rfl, rfl⟩
    clear cO
    gi_wp2_with fail
    refine ⟨trivial, fun h => (by cases h), ?_⟩
    refine (callsIn_wide.2 cF).mono ?_
    rintro e w' ⟨rfl, rfl⟩
    clear cF
    gi_wp2_with fail
    refine ⟨trivial, fun h => (by cases h), ?_⟩
    refine (callsIn_wide.2 cPg).mono ?_
    rintro e w' ⟨rfl, rfl⟩
    clear cPg
    gi_wp2_with fail
    refine leavesP_marks HF.out.1 HF.out.2.1 fun w' hb' _ _ => ?_
    refine ⟨.bool true, ?_, rfl, (HW2.out.trans (HF.out.2.2.1.mono HW2.out.size)).trans (hb'.mono HW2.out.size)⟩
    simp [results, Tryz.f4, go_sem, hsub2]
  case pos =>
  rw [decide_eq_true hlt] at cO hs2
  have hx1 : (nx : Int) < 64 := by omega
  have cC := class_any hs2.ma.ar.at_.toArMem (nx : Int)
  rw [hXa] at cC
  have ecl : clsI s2 (nx : Int) = s2.cls nx := by
    unfold clsI
    rw [if_pos ⟨by omega, by rw [hP2]; omega⟩]; simp
  rw [ecl] at cC
  obtain ⟨cl, hcl⟩ : ∃ cl, s2.cls nx = cl := ⟨_, rfl⟩
  rw [hcl] at cC
  have cG := hs2.page (by rw [hP2]; omega)
  have hF2 := hs2.fits
  have hkl := kept_page (s := s) (c := c) (p := nx) hF2 (c' := c2) (fun r hr => by
    rw [hS2, hr, decide_eq_true (Nat.le_refl _)]; simp) (fun r hr => by
    rw [hc2, Int.toNat_natCast, hr, decide_eq_true (Nat.le_refl _)]; simp)
  have hkc := kept_class (c' := c2) (p := nx) hF2 (by rw [hP2]; omega)
  rw [hkl, hcl] at hkc
  have H1 := Lib.hid (And.intro h1 (And.intro hs2 (And.intro hP2 (And.intro hS2 (And.intro hc2 (And.intro hM2 (And.intro hkl (And.intro hkc (And.intro hXa hF2)))))))))
  clear h1 hs2 hP2 hS2 hc2 hM2 hkl hkc hcl ecl hXa hF2
  gi_wp2_with fail
  refine ⟨trivial, fun h => (by cases h), ?_⟩
  refine (callsIn_wide.2 cO).mono ?_
  rintro e w' ⟨rfl, rfl⟩
  clear cO
  gi_wp2_with fail
  refine ⟨trivial, fun h => (by cases h), ?_⟩
  refine (callsIn_wide.2 cC).mono ?_
  rintro e w' ⟨rfl, rfl⟩
  clear cC
  gi_wp2_with fail
  refine ⟨trivial, fun h => (by cases h), ?_⟩
  refine (callsIn_wide.2 cG).mono ?_
  rintro e W3 ⟨v3, X3, T3, rfl, _, hXa3, hTm3, h3, hk3, hsz3⟩
  obtain ⟨h1, hs2, hP2, hS2, hc2, hM2, hkl, hkc, hXa, hF2⟩ := H1.out
  have hM3 := hM2.keep (w' := W3) (hk3 _ (.inl rfl))
  have hmk3 := h1.marks.keepE (w' := W3) (fun k e => hk3 k (.inr e))
  have hnw : (Lit.int .i64 (nx : Int)).wf = true := by simp [Lit.wf, IntKind.min, IntKind.max, IntKind.signed, IntKind.bits]; omega
  have hlk := hM3.look (nx : Int) hnw
  rw [kpF_at] at hlk
  have cC3 := class_any h3.ma.ar.at_.toArMem (nx : Int)
  rw [hXa3, hXa] at cC3
  have hP3 : (swS s2 c2 nx).P = 64 := (swS_P _ _ _).trans hP2
  have ecl3 : clsI (swS s2 c2 nx) (nx : Int) = (swS s2 c2 nx).cls nx := by
    unfold clsI
    rw [if_pos ⟨by omega, by rw [hP3]; omega⟩]; simp
  rw [ecl3, hkc] at cC3
  rw [hP2] at h3
  have hS3 : ∀ r, (swS s2 c2 nx).S r = (s.S r && (c.ma (r : Int) || decide (nx + 1 ≤ pg r))) := fun r => by
    rw [swS_S hF2, hS2, hc2, Int.toNat_natCast]
    cases s.S r <;> cases c.ma (r : Int) <;> by_cases e1 : nx ≤ pg r <;> by_cases e2 : pg r = nx <;> simp [e1, e2] <;> omega
  have hc3 : ∀ x, (swC s2 c2 nx).ma x = (c.ma x && decide (nx + 1 ≤ pg x.toNat)) := fun x => by
    rw [swC_ma hF2 c2 hs2.ma.inn, hc2]
    cases c.ma x <;> by_cases e1 : nx ≤ pg x.toNat <;> by_cases e2 : pg x.toNat = nx <;> simp [e1, e2] <;> omega
  have htop3 : hi ≤ W3.heap.size := Nat.le_trans h1.top hsz3
  have hXa9 : X3.a = X.a := hXa3.trans hXa
  have hB3 := hM3.lt
  generalize swS s2 c2 nx = s3 at *
  generalize swC s2 c2 nx = c3 at *
  obtain ⟨kq, hkq⟩ : ∃ kq, kp s.S c nx = kq := ⟨_, rfl⟩
  rw [hkq] at hlk hkl cC3
  have hkq32 : kq ≤ 32 := by rw [← hkq]; exact kp_le _ _ _
  have H3 := Lib.hid (And.intro h3 (And.intro hM3 (And.intro hmk3 (And.intro htop3 (And.intro hS3 (And.intro hc3 (And.intro hP3 (And.intro hXa9 (And.intro hkl (And.intro hkq hnw))))))))))
  clear cG H1 h1 hs2 hP2 hS2 hc2 hM2 hkl hkc hXa hF2 h3 hM3 hmk3 htop3 hS3 hc3 hP3 hXa9 hkq ecl3 hXa3 hTm3 hk3 hsz3 hB3
  by_cases hk0 : kq = 0
  case pos =>
    have hk0b : ((kq : Int) == 0) = true := by simp; omega
    rw [if_pos hk0] at cC3
    gi_wp2_with fail
    refine ⟨trivial, fun h => (by cases h), ?_⟩
    refine (callsIn_wide.2 cC3).mono ?_
    rintro e w' ⟨rfl, rfl⟩
    clear cC3 hlk
    obtain ⟨h3, hM3, hmk3, htop3, hS3, hc3, hP3, hXa9, hkl, hkq, hnw⟩ := H3.out
    have hB1 := (Below.refl _ W3).alloc (Nat.le_refl _) (.cells #[.int .i64 0] 3)
    have hB2 := hB1.alloc (by simp) (.cells #[.pointer (some ⟨X.a, 0, none⟩)] 27)
    have hB3 := hB2.alloc (by simp; omega) (.cells #[.int .i64 (nx : Int)] 3)
    have hbox := ((Blk.new W3 #[.int .i64 0] 3).alloc (.cells #[.pointer (some ⟨X.a, 0, none⟩)] 27)).alloc (.cells #[.int .i64 (nx : Int)] 3)
    have k0 := (Blk.new (W3.alloc (.cells #[.int .i64 0] 3)) #[.pointer (some ⟨X.a, 0, none⟩)] 27).alloc (.cells #[.int .i64 (nx : Int)] 3)
    have k1 := Blk.new ((W3.alloc (.cells #[.int .i64 0] 3)).alloc (.cells #[.pointer (some ⟨X.a, 0, none⟩)] 27)) #[.int .i64 (nx : Int)] 3
    rw [World.size_alloc] at k0 k1
    rw [World.size_alloc] at k1
    have hs6 : (((W3.alloc (.cells #[.int .i64 0] 3)).alloc (.cells #[.pointer (some ⟨X.a, 0, none⟩)] 27)).alloc (.cells #[.int .i64 (nx : Int)] 3)).heap.size = W3.heap.size + 3 := by simp
    have cCf := cellsfn_any X.a (nx : Int) (W3.alloc (.cells #[.int .i64 0] 3))
    have HK := Lib.hid (And.intro hB3 (And.intro hbox (And.intro k0 (And.intro k1 hs6))))
    clear h3 hM3 hmk3 htop3 hS3 hc3 hP3 hXa9 hkl hkq hB1 hB2 hB3 hbox k0 k1 hs6
    gi_wp2_with fail
    refine ⟨trivial, fun h => (by cases h), ?_⟩
    refine (callsIn_wide.2 cCf).mono ?_
    rintro e w' ⟨rfl, rfl⟩
    clear cCf
    gi_wp2_with fail
    obtain ⟨hB3, hbox, k0, k1, hs6⟩ := HK.out
    clear HK
    generalize (((W3.alloc (.cells #[.int .i64 0] 3)).alloc (.cells #[.pointer (some ⟨X.a, 0, none⟩)] 27)).alloc (.cells #[.int .i64 (nx : Int)] 3)) = W6 at *
    obtain ⟨h3, hM3, hmk3, htop3, hS3, hc3, hP3, hXa9, hkl, hkq, hnw⟩ := H3.out
    have hXlt := h3.ma.ar.at_.lt
    have hA6 := (h3.ask hB3).ma.ar.at_.toArMem
    have b0 : W6.cell? ⟨W3.heap.size + 1, 0, none⟩ = some (.pointer (some ⟨X3.a, 0, none⟩)) := by rw [hXa9]; exact k0.cell 0
    have b1 : W6.cell? ⟨W3.heap.size + 1 + 1, 0, none⟩ = some (.int .i64 (nx : Int)) := k1.cell 0
    refine wpIn_rangeO rfl (by omega) (gf := 44) (lb := #[.pointer (some ⟨W3.heap.size + 1, 0, none⟩), .pointer (some ⟨W3.heap.size + 1 + 1, 0, none⟩)]) rfl trivial (enters_of Tryz.func44 (by kernel_rfl) rfl)
      (SeqO.ofK (pg_stops (X := X3) (s := s3) (M - 1) (W3.heap.size + 1) nx (by rw [hP3]; omega) W6 hA6 b0 b1)) KpAr.trans
      (fun V l o hl => KpAr.putObj (n0 := W6.heap.size) (fun k hk => by have := hXlt k hk; omega) (by omega) V l o hl) (Below.refl _ _) (fun _ => rfl)
      (fun st V => Blk V W3.heap.size #[.int .i64 (st.1.length : Int)] 3 ∧ Below W3.heap.size W3 V ∧ W6.heap.size ≤ V.heap.size)
      (fun c st V => False)
      (fun s V V' row hs hg hr => ⟨hs.1.kept hg (fun r e => (hr r e).2), (ownFrom_below (β := Unit) (Nat.le_refl _) (by omega)) () V V' row hs.2.1 hg hr, Nat.le_trans hs.2.2 hg.size⟩)
      (fun c s V V' row hs hg hr => hs)
      ⟨hbox, hB3, Nat.le_refl _⟩ ?ap1 ?assignp ?bodyp ?donep ?stopp
    case assignp =>
      intro l0 x V K hK
      unfold pgArgs
      gi_wp2
      exact hK
    case bodyp =>
      rintro l0 pre O x V ⟨hk, hbl, hVs⟩ hpl
      have ck := hk.cell 0
      have zk := hk.free 0
      simp only [List.getElem?_toArray, List.getElem?_cons_zero] at ck
      have hTn : Turn (fun k => k = W3.heap.size) V (V.setCell ⟨W3.heap.size, 0, none⟩ (.int .i64 ((pre.length : Int) + 1))) := (Turn.refl _ V).set _ _ (.inr rfl)
      have hkp : KpAr X3 (W3.heap.size + 1) V (V.setCell ⟨W3.heap.size, 0, none⟩ (.int .i64 ((pre.length : Int) + 1))) :=
        ⟨fun k hk => hTn.block k (by have := hXlt k hk; omega) (fun e => by have := hXlt k hk; have e2 : k = W3.heap.size := e; omega), hTn.block _ (by omega) (fun e => by have e2 : W3.heap.size + 1 = W3.heap.size := e; omega), hTn.block _ (by omega) (fun e => by have e2 : W3.heap.size + 1 + 1 = W3.heap.size := e; omega)⟩
      have hbl2 := hbl.setCell (p := ⟨W3.heap.size, 0, none⟩) (Nat.le_refl _) (.int .i64 ((pre.length : Int) + 1))
      have hk2 : Blk (V.setCell ⟨W3.heap.size, 0, none⟩ (.int .i64 ((pre.length : Int) + 1))) W3.heap.size #[.int .i64 ((pre ++ [x]).length : Int)] 3 := by
        refine (hk.setAt 0 _).is ?_
        have e : (((pre ++ [x]).length : Nat) : Int) = (pre.length : Int) + 1 := by simp
        rw [e]; simp
      have hO : Owned W6.heap.size O O V (V.setCell ⟨W3.heap.size, 0, none⟩ (.int .i64 ((pre.length : Int) + 1))) := Owned.ofTurn hTn (fun k e => by have e2 : k = W3.heap.size := e; omega)
      have HG := Lib.hid (And.intro hk2 (And.intro hbl2 (show W6.heap.size ≤ (V.setCell ⟨W3.heap.size, 0, none⟩ (.int .i64 ((pre.length : Int) + 1))).heap.size by simpa using hVs)))
      have HKP := Lib.hid (And.intro hkp hO)
      have hpl2 : (pre.length : Int) ≤ 4096 := by omega
      clear hTn hkp hbl2 hk2 hk hO h3 hM3 hmk3 hS3 hc3 hA6 b0 b1 hbox k0 k1
      gi_wp2_with fail
      exact ⟨O, HKP.out.2, HKP.out.1, HG.out⟩
    case donep =>
      rintro D xs O V hD hxs ⟨hk, hbl, hVs⟩ hK
      have ck := hk.cell 0
      simp only [List.getElem?_toArray, List.getElem?_cons_zero] at ck
      have hlen9 : xs.length = kq := by
        have h9 := congrArg List.length (show pgVals xs = elems (inPage s3.S nx) 32 from hxs)
        unfold pgVals at h9
        rw [List.length_map] at h9
        rw [h9, ← hkl]
        unfold pgL
        rw [List.length_map]
      rw [hlen9] at ck
      have hDl : D < V.heap.size := (Array.getElem?_eq_some_iff.mp hK).1
      have hM9 := hM3.ask hbl
      have hlk9 := hM9.look (nx : Int) hnw
      rw [kpF_at, hkq] at hlk9
      have h9 := h3.watch (E' := fun k => k = mbk ∨ DsHas ({ target := .collected D, args := #[] } :: ds) k) hbl (fun k e => by
        rcases e with e | e | e
        · exact .inl (.inl e)
        · right
          have e2 : k = D := by injection e with e3; exact e3.symm
          subst e2
          exact ⟨by omega, hDl⟩
        · exact .inl (.inr e))
      have hmk9 : Marks w2.heap.size (D + 1) ({ target := .collected D, args := #[] } :: ds) V :=
        ((hmk3.keepE (fun k e => hbl.block k (by have := hmk3.inside k e; omega))).mono (show hi ≤ D by omega)).push (by have := h3.size; omega) (by omega) hK
      have h10 : PoR w2.heap.size X.a sw mbk s c (nx + 1) (D + 1) ({ target := .collected D, args := #[] } :: ds) w2 V :=
        ⟨⟨X3, s3, T3, c3, hXa9, h9, hP3, hS3, hc3⟩, ⟨nn2, hM9⟩, hmk9, by omega⟩
      have H10 := Lib.hid h10
      have hkne : ((kq : Int) != (kq : Int)) = false := by simp
      clear hk hbl hVs hxs hlen9 hM9 h9 hmk9 h10 h3 hM3 hmk3 hS3 hc3 hA6 b0 b1 hbox k0 k1 hkl hkq H3
      gi_wp2_with fail
      refine ⟨_, rfl, rfl, ⟨nx + 1, D + 1, by omega, ?_, H10.out⟩, ?_⟩
      · show Value.int .i64 ((nx : Int) + 1) = _
        congr 1
      · show 64 - (intOf (Value.int .i64 ((nx : Int) + 1))).toNat < 64 - (intOf (Value.int .i64 (nx : Int))).toNat
        simp [intOf]; omega
    case stopp =>
      rintro D c' pre O V hD _ h
      exact h.elim
  case neg =>
    have hk0b : ((kq : Int) == 0) = false := by simp; omega
    have hcc : ((cl : Int) != (cl : Int)) = false := by simp
    rw [if_neg hk0] at cC3
    gi_wp2_with fail
    refine ⟨trivial, fun h => (by cases h), ?_⟩
    refine (callsIn_wide.2 cC3).mono ?_
    rintro e w' ⟨rfl, rfl⟩
    clear cC3 hlk
    obtain ⟨h3, hM3, hmk3, htop3, hS3, hc3, hP3, hXa9, hkl, hkq, hnw⟩ := H3.out
    have hB1 := (Below.refl _ W3).alloc (Nat.le_refl _) (.cells #[.int .i64 0] 3)
    have hB2 := hB1.alloc (by simp) (.cells #[.pointer (some ⟨X.a, 0, none⟩)] 27)
    have hB3 := hB2.alloc (by simp; omega) (.cells #[.int .i64 (nx : Int)] 3)
    have hbox := ((Blk.new W3 #[.int .i64 0] 3).alloc (.cells #[.pointer (some ⟨X.a, 0, none⟩)] 27)).alloc (.cells #[.int .i64 (nx : Int)] 3)
    have k0 := (Blk.new (W3.alloc (.cells #[.int .i64 0] 3)) #[.pointer (some ⟨X.a, 0, none⟩)] 27).alloc (.cells #[.int .i64 (nx : Int)] 3)
    have k1 := Blk.new ((W3.alloc (.cells #[.int .i64 0] 3)).alloc (.cells #[.pointer (some ⟨X.a, 0, none⟩)] 27)) #[.int .i64 (nx : Int)] 3
    rw [World.size_alloc] at k0 k1
    rw [World.size_alloc] at k1
    have hs6 : (((W3.alloc (.cells #[.int .i64 0] 3)).alloc (.cells #[.pointer (some ⟨X.a, 0, none⟩)] 27)).alloc (.cells #[.int .i64 (nx : Int)] 3)).heap.size = W3.heap.size + 3 := by simp
    have cCf := cellsfn_any X.a (nx : Int) (W3.alloc (.cells #[.int .i64 0] 3))
    have HK := Lib.hid (And.intro hB3 (And.intro hbox (And.intro k0 (And.intro k1 hs6))))
    clear h3 hM3 hmk3 htop3 hS3 hc3 hP3 hXa9 hkl hkq hB1 hB2 hB3 hbox k0 k1 hs6
    gi_wp2_with fail
    refine ⟨trivial, fun h => (by cases h), ?_⟩
    refine (callsIn_wide.2 cCf).mono ?_
    rintro e w' ⟨rfl, rfl⟩
    clear cCf
    gi_wp2_with fail
    obtain ⟨hB3, hbox, k0, k1, hs6⟩ := HK.out
    clear HK
    generalize (((W3.alloc (.cells #[.int .i64 0] 3)).alloc (.cells #[.pointer (some ⟨X.a, 0, none⟩)] 27)).alloc (.cells #[.int .i64 (nx : Int)] 3)) = W6 at *
    obtain ⟨h3, hM3, hmk3, htop3, hS3, hc3, hP3, hXa9, hkl, hkq, hnw⟩ := H3.out
    have hXlt := h3.ma.ar.at_.lt
    have hA6 := (h3.ask hB3).ma.ar.at_.toArMem
    have b0 : W6.cell? ⟨W3.heap.size + 1, 0, none⟩ = some (.pointer (some ⟨X3.a, 0, none⟩)) := by rw [hXa9]; exact k0.cell 0
    have b1 : W6.cell? ⟨W3.heap.size + 1 + 1, 0, none⟩ = some (.int .i64 (nx : Int)) := k1.cell 0
    refine wpIn_rangeO rfl (by omega) (gf := 44) (lb := #[.pointer (some ⟨W3.heap.size + 1, 0, none⟩), .pointer (some ⟨W3.heap.size + 1 + 1, 0, none⟩)]) rfl trivial (enters_of Tryz.func44 (by kernel_rfl) rfl)
      (SeqO.ofK (pg_stops (X := X3) (s := s3) (M - 1) (W3.heap.size + 1) nx (by rw [hP3]; omega) W6 hA6 b0 b1)) KpAr.trans
      (fun V l o hl => KpAr.putObj (n0 := W6.heap.size) (fun k hk => by have := hXlt k hk; omega) (by omega) V l o hl) (Below.refl _ _) (fun _ => rfl)
      (fun st V => Blk V W3.heap.size #[.int .i64 (st.1.length : Int)] 3 ∧ Below W3.heap.size W3 V ∧ W6.heap.size ≤ V.heap.size)
      (fun c st V => False)
      (fun s V V' row hs hg hr => ⟨hs.1.kept hg (fun r e => (hr r e).2), (ownFrom_below (β := Unit) (Nat.le_refl _) (by omega)) () V V' row hs.2.1 hg hr, Nat.le_trans hs.2.2 hg.size⟩)
      (fun c s V V' row hs hg hr => hs)
      ⟨hbox, hB3, Nat.le_refl _⟩ ?an1 ?assignn ?bodyn ?donen ?stopn
    case assignn =>
      intro l0 x V K hK
      unfold pgArgs
      gi_wp2
      exact hK
    case bodyn =>
      rintro l0 pre O x V ⟨hk, hbl, hVs⟩ hpl
      have ck := hk.cell 0
      have zk := hk.free 0
      simp only [List.getElem?_toArray, List.getElem?_cons_zero] at ck
      have hTn : Turn (fun k => k = W3.heap.size) V (V.setCell ⟨W3.heap.size, 0, none⟩ (.int .i64 ((pre.length : Int) + 1))) := (Turn.refl _ V).set _ _ (.inr rfl)
      have hkp : KpAr X3 (W3.heap.size + 1) V (V.setCell ⟨W3.heap.size, 0, none⟩ (.int .i64 ((pre.length : Int) + 1))) :=
        ⟨fun k hk => hTn.block k (by have := hXlt k hk; omega) (fun e => by have := hXlt k hk; have e2 : k = W3.heap.size := e; omega), hTn.block _ (by omega) (fun e => by have e2 : W3.heap.size + 1 = W3.heap.size := e; omega), hTn.block _ (by omega) (fun e => by have e2 : W3.heap.size + 1 + 1 = W3.heap.size := e; omega)⟩
      have hbl2 := hbl.setCell (p := ⟨W3.heap.size, 0, none⟩) (Nat.le_refl _) (.int .i64 ((pre.length : Int) + 1))
      have hk2 : Blk (V.setCell ⟨W3.heap.size, 0, none⟩ (.int .i64 ((pre.length : Int) + 1))) W3.heap.size #[.int .i64 ((pre ++ [x]).length : Int)] 3 := by
        refine (hk.setAt 0 _).is ?_
        have e : (((pre ++ [x]).length : Nat) : Int) = (pre.length : Int) + 1 := by simp
        rw [e]; simp
      have hO : Owned W6.heap.size O O V (V.setCell ⟨W3.heap.size, 0, none⟩ (.int .i64 ((pre.length : Int) + 1))) := Owned.ofTurn hTn (fun k e => by have e2 : k = W3.heap.size := e; omega)
      have HG := Lib.hid (And.intro hk2 (And.intro hbl2 (show W6.heap.size ≤ (V.setCell ⟨W3.heap.size, 0, none⟩ (.int .i64 ((pre.length : Int) + 1))).heap.size by simpa using hVs)))
      have HKP := Lib.hid (And.intro hkp hO)
      have hpl2 : (pre.length : Int) ≤ 4096 := by omega
      clear hTn hkp hbl2 hk2 hk hO h3 hM3 hmk3 hS3 hc3 hA6 b0 b1 hbox k0 k1
      gi_wp2_with fail
      exact ⟨O, HKP.out.2, HKP.out.1, HG.out⟩
    case donen =>
      rintro D xs O V hD hxs ⟨hk, hbl, hVs⟩ hK
      have ck := hk.cell 0
      simp only [List.getElem?_toArray, List.getElem?_cons_zero] at ck
      have hlen9 : xs.length = kq := by
        have h9 := congrArg List.length (show pgVals xs = elems (inPage s3.S nx) 32 from hxs)
        unfold pgVals at h9
        rw [List.length_map] at h9
        rw [h9, ← hkl]
        unfold pgL
        rw [List.length_map]
      rw [hlen9] at ck
      have hDl : D < V.heap.size := (Array.getElem?_eq_some_iff.mp hK).1
      have hM9 := hM3.ask hbl
      have hlk9 := hM9.look (nx : Int) hnw
      rw [kpF_at, hkq] at hlk9
      have h9 := h3.watch (E' := fun k => k = mbk ∨ DsHas ({ target := .collected D, args := #[] } :: ds) k) hbl (fun k e => by
        rcases e with e | e | e
        · exact .inl (.inl e)
        · right
          have e2 : k = D := by injection e with e3; exact e3.symm
          subst e2
          exact ⟨by omega, hDl⟩
        · exact .inl (.inr e))
      have hmk9 : Marks w2.heap.size (D + 1) ({ target := .collected D, args := #[] } :: ds) V :=
        ((hmk3.keepE (fun k e => hbl.block k (by have := hmk3.inside k e; omega))).mono (show hi ≤ D by omega)).push (by have := h3.size; omega) (by omega) hK
      have h10 : PoR w2.heap.size X.a sw mbk s c (nx + 1) (D + 1) ({ target := .collected D, args := #[] } :: ds) w2 V :=
        ⟨⟨X3, s3, T3, c3, hXa9, h9, hP3, hS3, hc3⟩, ⟨nn2, hM9⟩, hmk9, by omega⟩
      have H10 := Lib.hid h10
      have hkne : ((kq : Int) != (kq : Int)) = false := by simp
      clear hk hbl hVs hxs hlen9 hM9 h9 hmk9 h10 h3 hM3 hmk3 hS3 hc3 hA6 b0 b1 hbox k0 k1 hkl hkq H3
      gi_wp2_with fail
      refine ⟨_, rfl, rfl, ⟨nx + 1, D + 1, by omega, ?_, H10.out⟩, ?_⟩
      · show Value.int .i64 ((nx : Int) + 1) = _
        congr 1
      · show 64 - (intOf (Value.int .i64 ((nx : Int) + 1))).toNat < 64 - (intOf (Value.int .i64 (nx : Int))).toNat
        simp [intOf]; omega
    case stopn =>
      rintro D c' pre O V hD _ h
      exact h.elim
theorem swpool_frame (a0 : Option Addr) (zs : List Int) (cf : Nat) (e0 : Option Addr) (ne ce : Nat) (Q : Nat → Nat → Int) (a1 : Option Addr) (us : List Int) (cu : Nat) (w : World) (hul : us.length ≤ 9223372036854775807)
    (hF : BytesW w a0 zs) (hE : EdgesW w e0 ne Q) (hU : BytesW w a1 us) (hT : TableAt w) :
    Calls Tryz.prog 4 #[.agg #[.slice a0 zs.length cf, .slice e0 ne ce], .slice a1 us.length cu] w fun e w' => e = .returned (.bool true) ∧ Below w.heap.size w w' :=
  swpool_true a0 zs cf e0 ne ce Q a1 us cu w hul hF hE hU hT
end Go.Proofs.YtidpmplkbgllfaaGreatDoor
