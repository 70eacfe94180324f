/- CellApart, walked, at this seat's numbers. -/
import Derived.Test.YtlloanoohphgcaaDoorObM
import Derived.Test.YtlloanoohphgcaaDoorArPa
import Derived.Test.YtlloanoohphgcaaDoorArgsJ
import Derived.Test.YtlloanoohphgcaaDoorGrow
import Derived.RangeFuncBox
import Derived.WalkMore
namespace Go.Proofs.YtlloanoohphgcaaDoor
open Go Go.RowKit Go.Shelf Go.MuLone Go.RwLone
set_option linter.unusedSimpArgs false
set_option linter.unusedVariables false
attribute [local go_sem] Oper.semAt_some

theorem ListIn.stp {B : Nat} {X : ArB} {s s' : ArS} {v : Value} {l : List Nat} {wb wr w' : World} (h : ListIn B X s v l wb wr) (h2 : Step1 B X s' wb wr w') : ∃ lo', ListIn B (X.with lo') s' v l wb w' ∧ ArStep X wr (X.with lo') w' := by
  obtain ⟨lo', h3, h4⟩ := h2
  exact ⟨lo', ⟨h3, h.refs.step h.ar.at_ h4⟩, h4⟩
theorem ListIn.al {B : Nat} {X : ArB} {s : ArS} {v : Value} {l : List Nat} {wb wr : World} (h : ListIn B X s v l wb wr) (o : Obj) : ListIn B X s v l wb (wr.alloc o) := ⟨h.ar.alloc o, h.refs.alloc o⟩
theorem ListIn.as {B : Nat} {X : ArB} {s : ArS} {v : Value} {l : List Nat} {wb wr w' : World} (h : ListIn B X s v l wb wr) (hB : Below wr.heap.size wr w') : ListIn B X s v l wb w' := ⟨h.ar.ask hB, h.refs.below hB⟩
theorem ListIn.fr {B : Nat} {X : ArB} {s : ArS} {v : Value} {l : List Nat} {wb wr w' : World} {row : Option Nat} (h : ListIn B X s v l wb wr) (hg : wr.grownBy w' row) (hr : ∀ r, row = some r → B ≤ r ∧ ∃ o : Obj, wr.heap[r]? = some o ∧ o.isCells = false) : ListIn B X s v l wb w' := by
  refine ⟨h.ar.far hg hr, h.refs.turn (M := fun k => row = some k) ⟨hg.os, hg.tape, hg.output, hg.size, fun k hk hn => hg.block k hk (fun e => hn e.symm)⟩ (fun g cur hgb e => ?_)⟩
  obtain ⟨_, o, ho, hc⟩ := hr g e
  unfold Blk at hgb
  rw [hgb] at ho; cases ho; cases hc

def ApFirst (ys : List Int) (l : List Ob) : Prop := ∀ (j : Nat) (x : Ob), l[j]? = some x → (x.k : Int) = (ys.getD j 0).tmod 7 ∧ x.v = j ∧ x.F = fun _ => 0
/-- Between two births. -/
def ApRel (B : Nat) (X : ArB) (wb : World) (ys : List Int) (v8 v33 : Value) (wr : World) : Prop :=
  ∃ (i : Nat) (lo : Option Nat) (s : ArS) (l : List Ob), i ≤ ys.length ∧ v33 = .int .i64 (i : Int) ∧ l.length = i ∧ ListIn B (X.with lo) s v8 (obRefs l) wb wr ∧ Objs s l ∧ 64 ≤ freeTo s s.P + i ∧ ApFirst ys l
theorem ap_next {ys : List Int} {l : List Ob} {s : ArS} {i r k : Nat} (hll : l.length = i) (hO : Objs s (l ++ [⟨r, k, 0, fun _ => 0⟩])) (hF : Fits s) (hl : ApFirst ys l) (hk : (k : Int) = (ys.getD i 0).tmod 7) :
    Objs (s.setW (r : Int) 1 (i : Int)) (l ++ [⟨r, k, (i : Int), fun _ => 0⟩]) ∧ ApFirst ys (l ++ [⟨r, k, (i : Int), fun _ => 0⟩]) := by
  subst hll
  refine ⟨?_, fun j y hy => ?_⟩
  · have h := hO.setSc hF (i := l.length) (x := ⟨r, k, 0, fun _ => 0⟩) (by simp) (l.length : Int)
    have e : (l ++ [(⟨r, k, 0, fun _ => 0⟩ : Ob)]).set l.length ⟨r, k, (l.length : Int), fun _ => 0⟩ = l ++ [⟨r, k, (l.length : Int), fun _ => 0⟩] := by
      rw [List.set_append_right _ _ (Nat.le_refl _)]
      simp
    rw [e] at h
    exact h
  · by_cases hj : j < l.length
    · rw [List.getElem?_append_left hj] at hy; exact hl j y hy
    · rw [List.getElem?_append_right (by omega)] at hy
      by_cases e : j = l.length
      · subst e
        simp at hy
        subst hy
        exact ⟨hk, rfl, rfl⟩
      · rw [List.getElem?_eq_none (by simp; omega)] at hy; cases hy
/-- What the objects are like, when the first n fields of the kth point to itself. -/
def ApLike (ys : List Int) (k n : Nat) (x : Int) (l : List Ob) : Prop :=
  ∀ (j : Nat) (y : Ob), l[j]? = some y → (y.k : Int) = (ys.getD j 0).tmod 7 ∧ (j ≠ k → y.v = j ∧ ∀ i, y.F i = 0) ∧ (j = k → y.v = x ∧ ∀ i, i < n → y.F i = (y.r : Int))
/-- Between two fields. -/
def ApRel2 (B : Nat) (X : ArB) (wb : World) (ys : List Int) (v : Value) (rs : List Nat) (k K b13 : Nat) (x : Int) (v75 : Value) (wr : World) : Prop :=
  ∃ (n : Nat) (lo : Option Nat) (s : ArS) (l : List Ob), n ≤ K ∧ v75 = .int .i64 (n : Int) ∧ obRefs l = rs ∧ ListIn B (X.with lo) s v rs wb wr ∧ Objs s l ∧ ApLike ys k n x l ∧ Blk wr b13 #[.int .i64 (k : Int)] 3 ∧ ¬ (X.with lo).has b13 ∧ v.ownBlock ≠ some b13

theorem ap_first {ys : List Int} {l : List Ob} {k : Nat} {y : Ob} {x : Int} (h : ApFirst ys l) (hy : l[k]? = some y) : ApLike ys k 0 x (l.set k { y with v := x }) := fun j z hz => by
  by_cases e : k = j
  · subst e
    rw [set_same hy] at hz
    cases hz
    exact ⟨(h k y hy).1, fun e => absurd rfl e, fun _ => ⟨rfl, fun i hi => absurd hi (Nat.not_lt_zero _)⟩⟩
  · rw [set_other e] at hz
    obtain ⟨h1, h2, h3⟩ := h j z hz
    exact ⟨h1, fun _ => ⟨h2, fun i => by rw [h3]⟩, fun e2 => absurd e2.symm e⟩
theorem ap_step {ys : List Int} {l : List Ob} {k n : Nat} {y : Ob} {x : Int} (h : ApLike ys k n x l) (hy : l[k]? = some y) : ApLike ys k (n + 1) x (l.set k { y with F := upd y.F n (y.r : Int) }) := fun j z hz => by
  by_cases e : k = j
  · subst e
    rw [set_same hy] at hz
    cases hz
    obtain ⟨h1, _, h3⟩ := h k y hy
    refine ⟨h1, fun e => absurd rfl e, fun _ => ⟨(h3 rfl).1, fun i hi => ?_⟩⟩
    show upd y.F n (y.r : Int) i = (y.r : Int)
    unfold upd
    by_cases e : i = n
    · rw [if_pos e]
    · rw [if_neg e]; exact (h3 rfl).2 i (by omega)
  · rw [set_other e] at hz
    obtain ⟨h1, h2, h3⟩ := h j z hz
    exact ⟨h1, h2, fun e2 => absurd e2.symm e⟩
theorem refs_at {l : List Ob} {rs : List Nat} (h : obRefs l = rs) {k : Nat} {y : Ob} (hy : l[k]? = some y) (hk : k < rs.length) : rs[k] = y.r := by
  subst h
  have := obRefs_at hy
  rw [List.getElem?_eq_getElem hk] at this
  exact Option.some.inj this

set_option maxRecDepth 100000 in
set_option maxHeartbeats 8000000 in
theorem apart_true (a0 : Option Addr) (ys : List Int) (cap : Nat) (at_ x : Int) (w : World) (_ : ys.length ≤ 9223372036854775807) (hZ : U8sAt w a0 ys) (hT : TableAt w) :
    Calls Tryd.prog 9 #[.slice a0 ys.length cap, .int .i64 at_, .int .i64 x] w fun e w' => e = .returned (.bool true) ∧ Below w.heap.size w w' := by
  have hg := hT.lt
  have HZ := Lib.hid hZ
  clear hZ
  obtain ⟨M, hM6⟩ : ∃ M : Nat, 8 ≤ M := ⟨8, Nat.le_refl _⟩
  refine calls_of_wp_marks Tryd.func9 rfl M ?_
  simp only [Tryd.ntmps9, List.size_toArray, List.length_cons, List.length_nil, Nat.reduceAdd, Nat.reduceSub, Array.replicate_succ, Array.replicate_zero, List.push_toArray, List.append_toArray, List.nil_append, List.cons_append]
  gi_wp2_with fail
  refine ⟨trivial, fun h => (by cases h), ?_⟩
  have hR := Blk.new w #[.bool false] 4
  have hBb := (Below.refl w.heap.size w).alloc (Nat.le_refl _) (.cells #[.bool false] 4)
  have hTb : TableAt (w.alloc (.cells #[.bool false] 4)) := hT.below ((Below.refl w.heap.size w).alloc (Nat.le_refl _) _)
  have hsb : (w.alloc (.cells #[.bool false] 4)).heap.size = w.heap.size + 1 := by simp
  generalize w.alloc (.cells #[.bool false] 4) = wb at *
  refine (callsIn_wide.2 (cefit_true wb hTb)).mono ?_
  rintro e w1 ⟨rfl, hB⟩
  have hR1 : w1.cell? ⟨w.heap.size, 0, none⟩ = some (.bool false) := (hB.cell (p := ⟨w.heap.size, 0, none⟩) hR.lt).trans (hR.cell 0)
  have hZ1 : w1.frozen? ⟨w.heap.size, 0, none⟩ = false := (hB.frozen (p := ⟨w.heap.size, 0, none⟩) hR.lt).trans (hR.free 0)
  by_cases hbig : 30 < (ys.length : Int)
  · gi_wp2_with fail
    refine ⟨.bool true, ?_, rfl, (hBb.trans (hB.mono (by omega))).setCell (p := ⟨w.heap.size, 0, none⟩) (Nat.le_refl _) (.bool true)⟩
    have hc := World.cell?_setCell_same w1 ⟨w.heap.size, 0, none⟩ (.bool true) hR1
    simp [results, Tryd.f9, go_sem, hc]
  by_cases hnil : (ys.length : Int) = 0
  · have hnb : ((ys.length : Int) == 0) = true := by rw [hnil]; rfl
    have HN := Lib.hid hnil
    clear hnil
    gi_wp2_with fail
    refine ⟨.bool true, ?_, rfl, (hBb.trans (hB.mono (by omega))).setCell (p := ⟨w.heap.size, 0, none⟩) (Nat.le_refl _) (.bool true)⟩
    have hc := World.cell?_setCell_same w1 ⟨w.heap.size, 0, none⟩ (.bool true) hR1
    simp [results, Tryd.f9, go_sem, hc]
  have hnb : ((ys.length : Int) == 0) = false := not_eqb hnil
  have hlen30 : ys.length ≤ 30 := by omega
  have hlen1 : 0 < ys.length := by omega
  clear hR1 hZ1
  gi_wp2_with fail
  refine ⟨trivial, fun h => (by cases h), ?_⟩
  refine (callsIn_wide.2 (new_in 64 64 (by decide) wb.heap.size wb _ hB (Nat.le_refl _) hTb (by omega))).mono ?_
  rintro e w2 ⟨X, rfl, h2, _, _⟩
  clear hB
  gi_wp2_with fail
  gi_loopw [8, 33] (fun v8 v33 wr => ApRel wb.heap.size X wb ys v8 v33 wr) (fun _ v33 _ => ys.length - (intOf v33).toNat)
  case atStart => exact ⟨0, X.lo, .new 64, [], Nat.zero_le _, rfl, rfl, ⟨h2, RefsIn.nil _ _⟩, Objs.nil _, by rw [show freeTo (.new 64) (ArS.new 64).P = 64 from freeTo_new 64]; omega, fun j x h => by simp at h⟩
  case round =>
    clear h2
    obtain ⟨i, lo, s, l, hi, rfl, hll, hL, hO, hfr, hlk⟩ := hrel
    have HLL := Lib.hid hll
    have HLK := Lib.hid hlk
    have HO := Lib.hid hO
    clear hll hlk hO
    have hi0 : (0 : Int) ≤ (i : Int) := by omega
    by_cases hlt : i < ys.length
    · have hi1 : (i : Int) < (ys.length : Int) := by omega
      obtain ⟨bk, off, rfl, hbk, hc0, hwy⟩ := HZ.out i hlt
      replace hc0 := ((hBb.trans (hL.ar.below.mono (by omega))).cell (p := ⟨bk, off + i, none⟩) hbk).trans hc0
      obtain ⟨n, hn, hn256⟩ := u8_natO hwy
      have HY := Lib.hid hn
      rw [hn] at hc0
      obtain ⟨k, hk⟩ : ∃ k, k = n % 7 := ⟨_, rfl⟩
      have hk6 : k ≤ 6 := by omega
      have hkt : (n : Int).tmod 7 = (k : Int) := by rw [Int.tmod_eq_emod_of_nonneg (by omega)]; omega
      have HKT := Lib.hid hkt
      clear hk hwy hn
      have k0 : (0 : Int) ≤ (k : Int) := by omega
      have he : newE s (k : Int) = 0 := new_room k0 (by omega) (by omega)
      have cN := ceNewOk hL.ar (k : Int) (newR s (k : Int)) rfl he
      have HO2 := Lib.hid (HO.out.new hL.ar.at_.fits he)
      have HFR := Lib.hid (free_new (s := s) (k : Int))
      have HF2 := Lib.hid (hL.ar.at_.fits.newS (k : Int))
      have o2 := new_obj hL.ar.at_.fits he
      clear he
      generalize newR s (k : Int) = r at *
      generalize s.newS (k : Int) = s2 at *
      gi_wp2_with fail
      refine ⟨trivial, fun h => (by cases h), ?_⟩
      refine (callsIn_wide.2 cN).mono ?_
      rintro e w5 ⟨rfl, hS5⟩
      obtain ⟨lo5, hL5, _⟩ := hL.stp hS5
      clear cN hL hS5 hc0 hkt
      gi_wp2_with fail
      refine ⟨trivial, fun h => (by cases h), ?_⟩
      refine (callsIn_wide.2 (ceSetScalarOk hL5.ar o2 (i : Int))).mono ?_
      rintro e w6 ⟨rfl, hS6⟩
      obtain ⟨lo6, hL6, _⟩ := hL5.stp hS6
      clear hL5 hS6 o2
      have hL7 := hL6.al (.cells #[.int .i64 (r : Int)] 30)
      have hrc : (w6.alloc (.cells #[.int .i64 (r : Int)] 30)).cell? ⟨w6.heap.size, 0, none⟩ = some (.int .i64 (r : Int)) := (Blk.new w6 _ _).cell 0
      have HRC := Lib.hid hrc
      have hlen : (obRefs l).length ≤ 100000 := by rw [obRefs_length, HLL.out]; omega
      clear hrc hL6
      gi_wp2_with (gi_at_builtin; refine wpListIn_push rfl _ _ rfl hL7 hlen w6.heap.size 1 r (by exact HRC.out) (by rfl) (by rfl) ?_; intro v' w8 hL8 ht8)
      go_roundw
      case rel =>
        have hn2 := ap_next HLL.out HO2.out HF2.out HLK.out (by rw [HY.out]; exact HKT.out.symm)
        exact ⟨i + 1, lo6, _, _, by omega, by go_num, by rw [List.length_append, HLL.out]; rfl, by rw [obRefs_push]; exact hL8, hn2.1, by rw [setW_P, freeTo_setW]; have := HFR.out; omega, hn2.2⟩
      case measure => simp [intOf]; omega
    · obtain rfl : i = ys.length := by omega
      obtain ⟨rs, hrs⟩ : ∃ rs, obRefs l = rs := ⟨_, rfl⟩
      have hrl : rs.length = ys.length := by rw [← hrs, obRefs_length, HLL.out]
      rw [hrs] at hL
      have HRS := Lib.hid hrs
      have HRL := Lib.hid hrl
      have hlr := hL.refs.lenRun 3
      obtain ⟨t, ht, hte⟩ := i64_and_mask at_ 65535 (by decide)
      replace hte : bits .and .i64 at_ 65535 = (t : Int) := hte
      obtain ⟨k, hk⟩ : ∃ k, k = t % rs.length := ⟨_, rfl⟩
      have hkl : k < rs.length := by rw [hk]; exact Nat.mod_lt _ (by omega)
      have hktl : (t : Int).tmod (rs.length : Int) = (k : Int) := by rw [Int.tmod_eq_emod_of_nonneg (by omega), hk]; exact (Int.natCast_emod _ _).symm
      have hk0 : (0 : Int) ≤ (k : Int) := by omega
      have hkI : (k : Int) < (rs.length : Int) := by omega
      have hl0 : ¬ (rs.length : Int) = 0 := by omega
      have hl1 : (rs.length : Int) ≤ 30 := by omega
      obtain ⟨y, hy⟩ : ∃ y, l[k]? = some y := ⟨_, List.getElem?_eq_getElem (by rw [HLL.out, ← hrl]; exact hkl)⟩
      have hyr := refs_at hrs hy hkl
      have oy := HO.out.at_ k y hy
      have hO2 := HO.out.setSc hL.ar.at_.fits hy x
      have hlk2 := ap_first (x := x) HLK.out hy
      have hrs2 : obRefs (l.set k { y with v := x }) = rs := (obRefs_set (x := { y with v := x }) hy rfl).trans hrs
      have HO2 := Lib.hid hO2
      have HL2 := Lib.hid hlk2
      have HRS2 := Lib.hid hrs2
      obtain ⟨bk, off, rfl, hbk, hc0, hwy⟩ := HZ.out k (by omega)
      obtain ⟨n, hn, hn256⟩ := u8_natO hwy
      rw [hn] at hc0
      have HCW := Lib.hid hc0
      have hkY : (k : Int) < (ys.length : Int) := by omega
      clear hc0
      obtain ⟨K, hK⟩ : ∃ K, K = n % 7 := ⟨_, rfl⟩
      have hK6 : K ≤ 6 := by omega
      have hkt : (n : Int).tmod 7 = (K : Int) := by rw [Int.tmod_eq_emod_of_nonneg (by omega)]; omega
      have HYK : Hid ((ys.getD k 0).tmod 7 = (K : Int)) := Lib.hid (by rw [hn]; exact hkt)
      have hK0 : (0 : Int) ≤ (K : Int) := by omega
      rcases hL.refs.is with ⟨_, e0⟩ | ⟨g, cp, cur, rfl, hgB, hgb, hcp, hat⟩
      · rw [e0] at hkl; exact absurd hkl (by simp)
      have hcr := hat k hkl
      rw [hyr] at hcr
      have hglt := hgb.lt
      have hXlt := hL.ar.at_.lt
      have hgX : ¬ (X.with lo).has g := fun hk => hL.ar.at_.far hgb (by decide) (by decide) (by decide) (by decide) hk
      have HAT := Lib.hid hat
      have hgs : g ≠ wr.heap.size := by omega
      clear hk ht hrl hrs hO2 hlk2 hrs2 hwy hn hK hat hyr hy hgb hcp
      have hL3 := hL.al (.cells #[.int .i64 (k : Int)] 3)
      have hb3 := Blk.new wr #[.int .i64 (k : Int)] 3
      have hx3 : ¬ (X.with lo).has wr.heap.size := fun h => by have := hXlt _ h; omega
      clear hL hXlt
      gi_wp2_with fail
      refine ⟨trivial, fun h => (by cases h), ?_⟩
      refine (callsIn_wide.2 (ceSetScalarOk hL3.ar oy x)).mono ?_
      rintro e w5 ⟨rfl, hS5⟩
      obtain ⟨lo5, hL5, k5⟩ := hL3.stp hS5
      obtain ⟨e5, hx5⟩ := k5.keep hb3.lt hx3
      have hb5 : Blk w5 wr.heap.size #[.int .i64 (k : Int)] 3 := e5.trans hb3
      have hc5 := hb5.cell 0
      simp only [List.getElem?_toArray, List.getElem?_cons_zero] at hc5
      have hc0 := ((hBb.trans (hL5.ar.below.mono (by omega))).cell (p := ⟨bk, off + k, none⟩) hbk).trans HCW.out
      clear hL3 hS5 k5 e5 hb3 hx3 hcr oy
      gi_wp2_with fail
      generalize wr.heap.size = b13 at *
      clear hc0 hc5
      have hk6 : (K : Int) ≤ 6 := by omega
      gi_loopw [75] (fun v75 wr => ApRel2 wb.heap.size X wb ys (.slice (some ⟨g, 0, none⟩) rs.length cp) rs k K b13 x v75 wr) (fun v75 _ => K - (intOf v75).toNat)
      case atStart => exact ⟨0, lo5, _, _, Nat.zero_le _, rfl, HRS2.out, hL5, HO2.out, HL2.out, hb5, hx5, fun e => hgs (by simpa [Value.ownBlock] using e)⟩
      case round =>
        clear hL5 hx5 hb5
        obtain ⟨m, lo, s, l, hm, rfl, hrs, hL, hO, hlk, hb, hx, hgne⟩ := hrel
        have HRS := Lib.hid hrs
        have HO := Lib.hid hO
        have HLK := Lib.hid hlk
        obtain ⟨y, hy⟩ : ∃ y, l[k]? = some y := ⟨_, List.getElem?_eq_getElem (by rw [← obRefs_length, hrs]; exact hkl)⟩
        have hyr := refs_at hrs hy hkl
        have hyK : y.k = K := by have := (hlk k y hy).1; have := HYK.out; omega
        have HYR := Lib.hid hyr
        have HYY := Lib.hid hy
        clear hrs hO hlk hyr
        have hm0 : (0 : Int) ≤ (m : Int) := by omega
        rcases hL.refs.is with ⟨e0, _⟩ | ⟨g', cp', cur', e0, _, hgb, hcp', hat⟩
        · cases e0
        obtain ⟨rfl, rfl⟩ : g = g' ∧ cp = cp' := by injection e0 with e1 _ e3; injection e1 with e1; injection e1 with e1; exact ⟨e1, e3⟩
        by_cases hmK : m < K
        · have hmI : (m : Int) < (K : Int) := by omega
          have hcr := hat k hkl
          rw [HYR.out] at hcr
          have hcb := hb.cell 0
          simp only [List.getElem?_toArray, List.getElem?_cons_zero] at hcb
          have HB := Lib.hid hb
          have HGB := Lib.hid hgb
          have hO2 := HO.out.setF hL.ar.at_.fits hy (j := m) (by omega) (y.r : Int)
          have hrs2 : obRefs (l.set k { y with F := upd y.F m (y.r : Int) }) = rs := (obRefs_set (x := { y with F := upd y.F m (y.r : Int) }) hy rfl).trans HRS.out
          have HO2 := Lib.hid hO2
          have HL2 := Lib.hid (ap_step HLK.out hy)
          have HRS2 := Lib.hid hrs2
          have hLd := hL.as (Below.refl _ wr).drew
          have hgX : ¬ (X.with lo).has g := fun hk => hL.ar.at_.far hgb (by decide) (by decide) (by decide) (by decide) hk
          have cS := ceSetFieldOk hLd.ar (HO.out.at_ k y hy) m (by omega) (y.r : Int)
          clear hat e0 hy hyK hb hO2 hrs2 hgb hcp'
          gi_wp2_with fail
          refine wpIn_wide.2 ?_
          go_region_held3 (fun W' => W'.cell? ⟨b13, 0, none⟩ = some (.int .i64 (k : Int)) ∧ W'.cell? ⟨g, k, none⟩ = some (.int .i64 (y.r : Int))) (first | exact hk6 | exact ⟨hcb, hcr⟩)
            (first
              | (go_at_call 42; refine cS.mono ?_; rintro e w6 ⟨rfl, hS6⟩; obtain ⟨lo6, hL6, k6⟩ := hLd.stp hS6; have hk6 : w6.cell? ⟨b13, 0, none⟩ = some (.int .i64 (k : Int)) ∧ w6.cell? ⟨g, k, none⟩ = some (.int .i64 (y.r : Int)) := ⟨(World.cell?_of_block (w := wr) (a := ⟨b13, 0, none⟩) (k6.keep HB.out.lt hx).1).trans hcb, (World.cell?_of_block (w := wr) (a := ⟨g, k, none⟩) (k6.keep HGB.out.lt hgX).1).trans hcr⟩))
          obtain ⟨e6, hx6⟩ := k6.keep HB.out.lt hx
          have hb6 : Blk w6 b13 #[.int .i64 (k : Int)] 3 := e6.trans HB.out
          clear cS hcb hcr hL hLd hS6 k6 hk6 e6 hx hgX
          gi_wp2_with fail
          go_roundw
          case rel => exact ⟨m + 1, lo6, _, _, by omega, by go_num, HRS2.out, hL6, HO2.out, HL2.out, hb6, hx6, hgne⟩
          case measure => simp [intOf]; omega
        · obtain rfl : m = K := by omega
          have hsB := hL.ar.size
          have HGB := Lib.hid hgb
          clear hat e0 hgb hcp' hy hyK HYR HYY
          gi_wp2_with fail
          refine wpIn_loop_grow (fun T u => spl (spl T u 15 5) u 92 58) (fun u ds W => ∃ i hi : Nat, i ≤ rs.length ∧ u 92 = .int .i64 (i : Int) ∧ ListIn wb.heap.size (X.with lo) s (.slice (some ⟨g, 0, none⟩) rs.length cp) rs wb W ∧ Blk W b13 #[.int .i64 (k : Int)] 3 ∧ hi ≤ W.heap.size ∧ Marks wb.heap.size hi ds W) (fun u => rs.length - (intOf (u 92)).toNat) rfl ⟨0, 0, by omega, rfl, hL, hb, by omega, trivial⟩ ?_
          clear hL hb
          rintro u ds W ⟨i, hi, hil, hu, hL, hb, hhi, hM⟩
          simp only [spl, List.take_succ_cons, List.take_zero, List.drop_succ_cons, List.drop_zero, List.cons_append, List.nil_append, List.range'_succ, List.range'_zero, List.map_cons, List.map_nil, Nat.reduceAdd, hu]
          have hi0 : (0 : Int) ≤ (i : Int) := by omega
          by_cases hilt : i < rs.length
          · have hi1 : (i : Int) < (rs.length : Int) := by omega
            have hiY : (i : Int) < (ys.length : Int) := by have := HRL.out; omega
            have hi30 : (i : Int) ≤ 30 := by omega
            obtain ⟨y, hy⟩ : ∃ y, l[i]? = some y := ⟨_, List.getElem?_eq_getElem (by rw [← obRefs_length, HRS.out]; exact hilt)⟩
            have hyr := refs_at HRS.out hy hilt
            have o := HO.out.at_ i y hy
            obtain ⟨l1, l2, l3⟩ := HLK.out i y hy
            rcases hL.refs.is with ⟨e0, _⟩ | ⟨g', cp', cur', e0, _, hgb, hcp', hat⟩
            · cases e0
            obtain ⟨rfl, rfl⟩ : g = g' ∧ cp = cp' := by injection e0 with e1 _ e3; injection e1 with e1; injection e1 with e1; exact ⟨e1, e3⟩
            have hci := hat i hilt
            rw [hyr] at hci
            obtain ⟨bk', off', ea, _, hn0, hwy⟩ := HZ.out i (by omega)
            obtain ⟨rfl, rfl⟩ : bk = bk' ∧ off = off' := by injection ea with e1; injection e1 with e1 e2; exact ⟨e1, e2⟩
            obtain ⟨n', hn', hn256'⟩ := u8_natO hwy
            rw [hn'] at hn0 l1
            have hkt' : (n' : Int).tmod 7 = (y.k : Int) := l1.symm
            have hky6 : (y.k : Int) ≤ 6 := by have := o.k6 hL.ar.at_.fits; omega
            have hky0 : (0 : Int) ≤ (y.k : Int) := by omega
            have hcy := ((hBb.trans (hL.ar.below.mono (by omega))).cell (p := ⟨bk, off + i, none⟩) hbk).trans hn0
            obtain ⟨be, hbe⟩ : ∃ be, decide (i = k) = be := ⟨_, rfl⟩
            obtain ⟨vv, hvv⟩ : ∃ vv, y.v = vv := ⟨_, rfl⟩
            obtain ⟨fv, hfv, o'⟩ : ∃ fv : Int, ((be = true → fv = (y.r : Int) ∧ vv = x) ∧ (be = false → fv = 0 ∧ vv = (i : Int))) ∧ ObjAt s y.r y.k y.v (fun _ => fv) := by
              by_cases e : i = k
              · rw [decide_eq_true e] at hbe
                subst hbe
                exact ⟨(y.r : Int), ⟨fun _ => ⟨rfl, by rw [← hvv]; exact (l3 e).1⟩, fun h => (by cases h)⟩, o.congr fun j hj => (l3 e).2 j (by
                  have h1 := HYK.out
                  subst e
                  rw [hn'] at h1
                  omega)⟩
              · rw [decide_eq_false e] at hbe
                subst hbe
                exact ⟨0, ⟨fun h => (by cases h), fun _ => ⟨rfl, by rw [← hvv]; exact (l2 e).1⟩⟩, o.congr fun j _ => (l2 e).2 j⟩
            rw [hvv] at o'
            clear hat e0 hgb hcp' hyr hy l1 l2 l3 hn' hwy ea hn0 o hvv
            have hcb := hb.cell 0
            simp only [List.getElem?_toArray, List.getElem?_cons_zero] at hcb
            have hL2 := (hL.al (.cells #[.int .i64 (i : Int)] 3)).al (.cells #[.int .i64 (y.r : Int)] 30)
            have b0 : Blk ((W.alloc (.cells #[.int .i64 (i : Int)] 3)).alloc (.cells #[.int .i64 (y.r : Int)] 30)) W.heap.size #[.int .i64 (i : Int)] 3 := (Blk.new W _ _).alloc _
            have b1 : Blk ((W.alloc (.cells #[.int .i64 (i : Int)] 3)).alloc (.cells #[.int .i64 (y.r : Int)] 30)) (W.heap.size + 1) #[.int .i64 (y.r : Int)] 30 := by
              have := Blk.new (W.alloc (.cells #[.int .i64 (i : Int)] 3)) #[.int .i64 (y.r : Int)] 30
              simp only [World.size_alloc] at this
              exact this
            have hb2 := (hb.alloc (.cells #[.int .i64 (i : Int)] 3)).alloc (.cells #[.int .i64 (y.r : Int)] 30)
            have hs2 : ((W.alloc (.cells #[.int .i64 (i : Int)] 3)).alloc (.cells #[.int .i64 (y.r : Int)] 30)).heap.size = W.heap.size + 2 := by simp
            have hM2 : Marks wb.heap.size hi ds ((W.alloc (.cells #[.int .i64 (i : Int)] 3)).alloc (.cells #[.int .i64 (y.r : Int)] 30)) := hM.keep fun k _ h1 h2 => ((Below.heap_alloc _ _ _ (by simp; omega)).trans (Below.heap_alloc _ _ _ (by omega))).trans h2
            have HBY := Lib.hid hbe
            have hcy2 : ((W.alloc (.cells #[.int .i64 (i : Int)] 3)).alloc (.cells #[.int .i64 (y.r : Int)] 30)).cell? ⟨bk, off + i, none⟩ = some (.int .u8 (n' : Int)) := cell_allocKeep (cell_allocKeep hcy _) _
            have hsB := hL.ar.size
            clear hL hb hM hbe hcy
            gi_wp2_with fail
            refine ⟨trivial, fun h => (by cases h), ?_⟩
            refine (callsIn_wide.2 (ceScalarOk hL2.ar o')).mono ?_
            rintro e w5 ⟨rfl, hB5⟩
            clear hcb hci
            generalize ((W.alloc (.cells #[.int .i64 (i : Int)] 3)).alloc (.cells #[.int .i64 (y.r : Int)] 30)) = V2 at *
            generalize W.heap.size = s0 at *
            have hL5 := (hL2.as hB5).as (Below.refl _ w5).drew
            have b05 := (b0.below hB5).drew
            have b15 := (b1.below hB5).drew
            have hb5 := (hb2.below hB5).drew
            have hcy5 : w5.drew.cell? ⟨bk, off + i, none⟩ = some (.int .u8 (n' : Int)) := (hB5.cell (p := ⟨bk, off + i, none⟩) (World.block_lt_of_cell? V2 _ hcy2)).trans hcy2
            have hM5 : Marks wb.heap.size hi ds w5.drew := hM2.keep fun k _ h1 h2 => (hB5.block k (by omega)).trans h2
            have hs5 : s0 + 2 ≤ w5.drew.heap.size := by have := hB5.size; simp; omega
            clear hL2 b0 b1 hb2 hcy2 hM2 hB5 hs2
            have c0 := b05.cell 0
            have c1 := b15.cell 0
            have cb := hb5.cell 0
            simp only [List.getElem?_toArray, List.getElem?_cons_zero] at c0 c1 cb
            have cF := ceFieldsOk hL5.ar o'
            have hyy : ((y.k : Int) != (y.k : Int)) = false := by simp
            obtain ⟨f1, f2⟩ := hfv
            have HO' := Lib.hid o'
            clear o'
            cases be
            · obtain ⟨rfl, rfl⟩ := f2 rfl
              have hik : i ≠ k := of_decide_eq_false HBY.out
              have g1 : ((i : Int) != (k : Int)) = true := by simp; omega
              have g2 : ((i : Int) == (k : Int)) = false := not_eqb (by omega)
              have g3 : ((i : Int) != (i : Int)) = false := by simp
              clear f1 f2 hik
              have hwk : IntKind.i64.wrap (y.k : Int) = (y.k : Int) := IntWalk.i64_in _ (by omega)
              gi_wp2_with fail
              refine wpIn_wide.2 ?_
              refine wp_region_noPanic ?_
              refine wp_region_held_drew (S := (fun W' => W'.cell? ⟨s0, 0, none⟩ = some (.int .i64 (i : Int)) ∧ W'.cell? ⟨s0 + 1, 0, none⟩ = some (.int .i64 (y.r : Int)) ∧ W'.cell? ⟨b13, 0, none⟩ = some (.int .i64 (k : Int)) ∧ W'.cell? ⟨bk, off + i, none⟩ = some (.int .u8 (n' : Int)))) (by kernel_rfl) (⟨c0, c1, cb, hcy5⟩) (fun hHeld => ?_)
              refine wpAnyH_take (i := 0) (v := ?vF0) rfl (by kernel_rfl) (by kernel_rfl) (by kernel_rfl) (fun _ _ _ h => h) (Or.inl ⟨by rfl, ?hyF0⟩) (by assumption) ?restF0
              case hyF0 => (intro w hSw; (try dsimp only at hSw); go_simp; try with_reducible rfl)
              try simp only [Act.put, List.getElem_toArray, List.getElem_cons_succ, List.getElem_cons_zero, List.setIfInBounds_toArray, List.set_cons_zero, List.set_cons_succ]
              refine wpAnyH_take (i := 1) (v := ?vF1) rfl (by kernel_rfl) (by kernel_rfl) (by kernel_rfl) (fun _ _ _ h => h) (Or.inl ⟨by rfl, ?hyF1⟩) (by assumption) ?restF1
              case hyF1 => (intro w hSw; (try dsimp only at hSw); go_simp; try with_reducible rfl)
              try simp only [Act.put, List.getElem_toArray, List.getElem_cons_succ, List.getElem_cons_zero, List.setIfInBounds_toArray, List.set_cons_zero, List.set_cons_succ]
              refine wpAnyH_take (i := 2) (v := ?vF2) rfl (by kernel_rfl) (by kernel_rfl) (by kernel_rfl) (fun _ _ _ h => h) (Or.inl ⟨by rfl, ?hyF2⟩) (by assumption) ?restF2
              case hyF2 => (intro w hSw; (try dsimp only at hSw); go_simp; try with_reducible rfl)
              try simp only [Act.put, List.getElem_toArray, List.getElem_cons_succ, List.getElem_cons_zero, List.setIfInBounds_toArray, List.set_cons_zero, List.set_cons_succ]
              refine wpAnyH_take (i := 3) (v := ?vF3) rfl (by kernel_rfl) (by kernel_rfl) (by kernel_rfl) (fun _ _ _ h => h) (Or.inl ⟨by rfl, ?hyF3⟩) (by assumption) ?restF3
              case hyF3 => (intro w hSw; (try dsimp only at hSw); go_simp; try with_reducible rfl)
              try simp only [Act.put, List.getElem_toArray, List.getElem_cons_succ, List.getElem_cons_zero, List.setIfInBounds_toArray, List.set_cons_zero, List.set_cons_succ]
              refine wpAnyH_take (i := 4) (v := ?vF4) rfl (by kernel_rfl) (by kernel_rfl) (by kernel_rfl) (fun _ _ _ h => h) (Or.inl ⟨by rfl, ?hyF4⟩) (by assumption) ?restF4
              case hyF4 => (intro w hSw; (try dsimp only at hSw); go_simp; try with_reducible rfl)
              try simp only [Act.put, List.getElem_toArray, List.getElem_cons_succ, List.getElem_cons_zero, List.setIfInBounds_toArray, List.set_cons_zero, List.set_cons_succ]
              refine wpAnyH_take (i := 5) (v := ?vF5) rfl (by kernel_rfl) (by kernel_rfl) (by kernel_rfl) (fun _ _ _ h => h) (Or.inl ⟨by rfl, ?hyF5⟩) (by assumption) ?restF5
              case hyF5 => (intro w hSw; (try dsimp only at hSw); go_simp; try with_reducible rfl)
              try simp only [Act.put, List.getElem_toArray, List.getElem_cons_succ, List.getElem_cons_zero, List.setIfInBounds_toArray, List.set_cons_zero, List.set_cons_succ]
              refine wpAnyH_take (i := 6) (v := ?vF6) rfl (by kernel_rfl) (by kernel_rfl) (by kernel_rfl) (fun _ _ _ h => h) (Or.inl ⟨by rfl, ?hyF6⟩) (by assumption) ?restF6
              case hyF6 => (intro w hSw; (try dsimp only at hSw); go_simp; try with_reducible rfl)
              try simp only [Act.put, List.getElem_toArray, List.getElem_cons_succ, List.getElem_cons_zero, List.setIfInBounds_toArray, List.set_cons_zero, List.set_cons_succ]
              refine wpAnyH_take (i := 7) (v := ?vF7) rfl (by kernel_rfl) (by kernel_rfl) (by kernel_rfl) (fun _ _ _ h => h) (Or.inl ⟨by rfl, ?hyF7⟩) (by assumption) ?restF7
              case hyF7 => (intro w hSw; (try dsimp only at hSw); go_simp; try with_reducible rfl)
              try simp only [Act.put, List.getElem_toArray, List.getElem_cons_succ, List.getElem_cons_zero, List.setIfInBounds_toArray, List.set_cons_zero, List.set_cons_succ]
              refine wpAnyH_take (i := 8) (v := ?vF8) rfl (by kernel_rfl) (by kernel_rfl) (by kernel_rfl) (fun _ _ _ h => h) (Or.inl ⟨by rfl, ?hyF8⟩) (by assumption) ?restF8
              case hyF8 => (intro w hSw; (try dsimp only at hSw); go_simp; try with_reducible rfl)
              try simp only [Act.put, List.getElem_toArray, List.getElem_cons_succ, List.getElem_cons_zero, List.setIfInBounds_toArray, List.set_cons_zero, List.set_cons_succ]
              refine wpAnyH_take (i := 9) (v := ?vF9) rfl (by kernel_rfl) (by kernel_rfl) (by kernel_rfl) (fun _ _ _ h => h) (Or.inl ⟨by rfl, ?hyF9⟩) (by assumption) ?restF9
              case hyF9 => (intro w hSw; (try dsimp only at hSw); go_simp; try with_reducible rfl)
              try simp only [Act.put, List.getElem_toArray, List.getElem_cons_succ, List.getElem_cons_zero, List.setIfInBounds_toArray, List.set_cons_zero, List.set_cons_succ]
              refine wpAnyH_take (i := 10) (v := ?vF10) rfl (by kernel_rfl) (by kernel_rfl) (by kernel_rfl) (fun _ _ _ h => h) (Or.inl ⟨by rfl, ?hyF10⟩) (by assumption) ?restF10
              case hyF10 => (intro w hSw; (try dsimp only at hSw); go_simp; try with_reducible rfl)
              try simp only [Act.put, List.getElem_toArray, List.getElem_cons_succ, List.getElem_cons_zero, List.setIfInBounds_toArray, List.set_cons_zero, List.set_cons_succ]
              refine wpAnyH_take (i := 11) (v := ?vF11) rfl (by kernel_rfl) (by kernel_rfl) (by kernel_rfl) (fun _ _ _ h => h) (Or.inl ⟨by rfl, ?hyF11⟩) (by assumption) ?restF11
              case hyF11 => (intro w hSw; (try dsimp only at hSw); go_simp; try with_reducible rfl)
              try simp only [Act.put, List.getElem_toArray, List.getElem_cons_succ, List.getElem_cons_zero, List.setIfInBounds_toArray, List.set_cons_zero, List.set_cons_succ]
              refine wpAnyH_take (i := 12) (v := ?vF12) rfl (by kernel_rfl) (by kernel_rfl) (by kernel_rfl) (fun _ _ _ h => h) (Or.inl ⟨by rfl, ?hyF12⟩) (by assumption) ?restF12
              case hyF12 => (intro w hSw; (try dsimp only at hSw); go_simp; try with_reducible rfl)
              try simp only [Act.put, List.getElem_toArray, List.getElem_cons_succ, List.getElem_cons_zero, List.setIfInBounds_toArray, List.set_cons_zero, List.set_cons_succ]
              refine wpAnyH_take (i := 13) (v := ?vF13) rfl (by kernel_rfl) (by kernel_rfl) (by kernel_rfl) (fun _ _ _ h => h) (Or.inl ⟨by rfl, ?hyF13⟩) (by assumption) ?restF13
              case hyF13 => (intro w hSw; (try dsimp only at hSw); go_simp; try with_reducible rfl)
              try simp only [Act.put, List.getElem_toArray, List.getElem_cons_succ, List.getElem_cons_zero, List.setIfInBounds_toArray, List.set_cons_zero, List.set_cons_succ]
              refine wpAnyH_take (i := 14) (v := ?vF14) rfl (by kernel_rfl) (by kernel_rfl) (by kernel_rfl) (fun _ _ _ h => h) (Or.inl ⟨by rfl, ?hyF14⟩) (by assumption) ?restF14
              case hyF14 => (intro w hSw; (try dsimp only at hSw); go_simp; try with_reducible rfl)
              try simp only [Act.put, List.getElem_toArray, List.getElem_cons_succ, List.getElem_cons_zero, List.setIfInBounds_toArray, List.set_cons_zero, List.set_cons_succ]
              refine wpAnyH_take (i := 15) (v := ?vF15) rfl (by kernel_rfl) (by kernel_rfl) (by kernel_rfl) (fun _ _ _ h => h) (Or.inl ⟨by rfl, ?hyF15⟩) (by assumption) ?restF15
              case hyF15 => (intro w hSw; (try dsimp only at hSw); go_simp; try with_reducible rfl)
              try simp only [Act.put, List.getElem_toArray, List.getElem_cons_succ, List.getElem_cons_zero, List.setIfInBounds_toArray, List.set_cons_zero, List.set_cons_succ]
              refine wpAnyH_take (i := 16) (v := ?vF16) rfl (by kernel_rfl) (by kernel_rfl) (by kernel_rfl) (fun _ _ _ h => h) (Or.inl ⟨by rfl, ?hyF16⟩) (by assumption) ?restF16
              case hyF16 => (intro w hSw; (try dsimp only at hSw); go_simp; try with_reducible rfl)
              try simp only [Act.put, List.getElem_toArray, List.getElem_cons_succ, List.getElem_cons_zero, List.setIfInBounds_toArray, List.set_cons_zero, List.set_cons_succ]
              refine wpAnyH_take (i := 17) (v := undef) rfl (by kernel_rfl) (by kernel_rfl) (by kernel_rfl) (fun _ _ _ h => h) (Or.inr ⟨by rfl, rfl⟩) (by assumption) ?_
              try simp only [Act.put, List.getElem_toArray, List.getElem_cons_succ, List.getElem_cons_zero, List.setIfInBounds_toArray, List.set_cons_zero, List.set_cons_succ]
              refine wpAnyH_take (i := 18) (v := undef) rfl (by kernel_rfl) (by kernel_rfl) (by kernel_rfl) (fun _ _ _ h => h) (Or.inr ⟨by rfl, rfl⟩) (by assumption) ?_
              try simp only [Act.put, List.getElem_toArray, List.getElem_cons_succ, List.getElem_cons_zero, List.setIfInBounds_toArray, List.set_cons_zero, List.set_cons_succ]
              refine wpAnyH_take (i := 19) (v := undef) rfl (by kernel_rfl) (by kernel_rfl) (by kernel_rfl) (fun _ _ _ h => h) (Or.inr ⟨by rfl, rfl⟩) (by assumption) ?_
              try simp only [Act.put, List.getElem_toArray, List.getElem_cons_succ, List.getElem_cons_zero, List.setIfInBounds_toArray, List.set_cons_zero, List.set_cons_succ]
              refine wpAnyH_take (i := 20) (v := ?vF20) rfl (by kernel_rfl) (by kernel_rfl) (by kernel_rfl) (fun _ _ _ h => h) (Or.inl ⟨by rfl, ?hyF20⟩) (by assumption) ?restF20
              case hyF20 => (intro w hSw; (try dsimp only at hSw); go_simp; try with_reducible rfl)
              try simp only [Act.put, List.getElem_toArray, List.getElem_cons_succ, List.getElem_cons_zero, List.setIfInBounds_toArray, List.set_cons_zero, List.set_cons_succ]
              refine wpAnyH_take (i := 21) (v := ?vF21) rfl (by kernel_rfl) (by kernel_rfl) (by kernel_rfl) (fun _ _ _ h => h) (Or.inl ⟨by rfl, ?hyF21⟩) (by assumption) ?restF21
              case hyF21 => (intro w hSw; (try dsimp only at hSw); go_simp; try with_reducible rfl)
              try simp only [Act.put, List.getElem_toArray, List.getElem_cons_succ, List.getElem_cons_zero, List.setIfInBounds_toArray, List.set_cons_zero, List.set_cons_succ]
              refine wpAnyH_take (i := 22) (v := ?vF22) rfl (by kernel_rfl) (by kernel_rfl) (by kernel_rfl) (fun _ _ _ h => h) (Or.inl ⟨by rfl, ?hyF22⟩) (by assumption) ?restF22
              case hyF22 => (intro w hSw; (try dsimp only at hSw); go_simp; try with_reducible rfl)
              try simp only [Act.put, List.getElem_toArray, List.getElem_cons_succ, List.getElem_cons_zero, List.setIfInBounds_toArray, List.set_cons_zero, List.set_cons_succ]
              refine wpAnyH_take (i := 23) (v := ?vF23) rfl (by kernel_rfl) (by kernel_rfl) (by kernel_rfl) (fun _ _ _ h => h) (Or.inl ⟨by rfl, ?hyF23⟩) (by assumption) ?restF23
              case hyF23 => (intro w hSw; (try dsimp only at hSw); go_simp; try with_reducible rfl)
              try simp only [Act.put, List.getElem_toArray, List.getElem_cons_succ, List.getElem_cons_zero, List.setIfInBounds_toArray, List.set_cons_zero, List.set_cons_succ]
              refine wpAnyH_take (i := 24) (v := ?vF24) rfl (by kernel_rfl) (by kernel_rfl) (by kernel_rfl) (fun _ _ _ h => h) (Or.inl ⟨by rfl, ?hyF24⟩) (by assumption) ?restF24
              case hyF24 => (intro w hSw; (try dsimp only at hSw); go_simp; try with_reducible rfl)
              try simp only [Act.put, List.getElem_toArray, List.getElem_cons_succ, List.getElem_cons_zero, List.setIfInBounds_toArray, List.set_cons_zero, List.set_cons_succ]
              refine wpAnyH_take (i := 26) (v := ?vF26) rfl (by kernel_rfl) (by kernel_rfl) (by kernel_rfl) (fun _ _ _ h => h) (Or.inl ⟨by rfl, ?hyF26⟩) (by assumption) ?restF26
              case hyF26 => (intro w hSw; (try dsimp only at hSw); go_simp; try with_reducible rfl)
              try simp only [Act.put, List.getElem_toArray, List.getElem_cons_succ, List.getElem_cons_zero, List.setIfInBounds_toArray, List.set_cons_zero, List.set_cons_succ]
              refine wpAnyH_take (i := 27) (v := ?vF27) rfl (by kernel_rfl) (by kernel_rfl) (by kernel_rfl) (fun _ _ _ h => h) (Or.inl ⟨by rfl, ?hyF27⟩) (by assumption) ?restF27
              case hyF27 => (intro w hSw; (try dsimp only at hSw); go_simp; try with_reducible rfl)
              try simp only [Act.put, List.getElem_toArray, List.getElem_cons_succ, List.getElem_cons_zero, List.setIfInBounds_toArray, List.set_cons_zero, List.set_cons_succ]
              refine wpAnyH_take (i := 28) (v := ?vF28) rfl (by kernel_rfl) (by kernel_rfl) (by kernel_rfl) (fun _ _ _ h => h) (Or.inl ⟨by rfl, ?hyF28⟩) (by assumption) ?restF28
              case hyF28 => (intro w hSw; (try dsimp only at hSw); go_simp; try with_reducible rfl)
              try simp only [Act.put, List.getElem_toArray, List.getElem_cons_succ, List.getElem_cons_zero, List.setIfInBounds_toArray, List.set_cons_zero, List.set_cons_succ]
              refine wpAnyH_take (i := 29) (v := ?vF29) rfl (by kernel_rfl) (by kernel_rfl) (by kernel_rfl) (fun _ _ _ h => h) (Or.inl ⟨by rfl, ?hyF29⟩) (by assumption) ?restF29
              case hyF29 => (intro w hSw; (try dsimp only at hSw); go_simp; try with_reducible rfl)
              try simp only [Act.put, List.getElem_toArray, List.getElem_cons_succ, List.getElem_cons_zero, List.setIfInBounds_toArray, List.set_cons_zero, List.set_cons_succ]
              refine wpAnyH_take (i := 30) (v := ?vF30) rfl (by kernel_rfl) (by kernel_rfl) (by kernel_rfl) (fun _ _ _ h => h) (Or.inl ⟨by rfl, ?hyF30⟩) (by assumption) ?restF30
              case hyF30 => (intro w hSw; (try dsimp only at hSw); go_simp; try with_reducible rfl)
              try simp only [Act.put, List.getElem_toArray, List.getElem_cons_succ, List.getElem_cons_zero, List.setIfInBounds_toArray, List.set_cons_zero, List.set_cons_succ]
              refine wpAnyH_take (i := 31) (v := ?vF31) rfl (by kernel_rfl) (by kernel_rfl) (by kernel_rfl) (fun _ _ _ h => h) (Or.inl ⟨by rfl, ?hyF31⟩) (by assumption) ?restF31
              case hyF31 => (intro w hSw; (try dsimp only at hSw); go_simp; try with_reducible rfl)
              try simp only [Act.put, List.getElem_toArray, List.getElem_cons_succ, List.getElem_cons_zero, List.setIfInBounds_toArray, List.set_cons_zero, List.set_cons_succ]
              refine wpAnyH_ready (rs := [25]) (by kernel_rfl) (by simp) ?_
              refine AllReadyH.cons rfl (fun K hK => ?_) AllReadyH.nil
              go_simp
              (go_at_call 36; refine cF.mono ?_; rintro e w6 ⟨rfl, hB6⟩; have hk6 : w6.cell? ⟨s0, 0, none⟩ = some (.int .i64 (i : Int)) ∧ w6.cell? ⟨s0 + 1, 0, none⟩ = some (.int .i64 (y.r : Int)) ∧ w6.cell? ⟨b13, 0, none⟩ = some (.int .i64 (k : Int)) ∧ w6.cell? ⟨bk, off + i, none⟩ = some (.int .u8 (n' : Int)) := ⟨(hB6.cell (p := ⟨s0, 0, none⟩) b05.lt).trans c0, (hB6.cell (p := ⟨s0 + 1, 0, none⟩) b15.lt).trans c1, (hB6.cell (p := ⟨b13, 0, none⟩) hb5.lt).trans cb, (hB6.cell (p := ⟨bk, off + i, none⟩) (World.block_lt_of_cell? w5.drew _ hcy5)).trans hcy5⟩)
              go_wp2_with fail
              refine hK.out _ _ (hk6) (fun hHeld => ?_)
              try simp only [Act.put, List.getElem_toArray, List.getElem_cons_succ, List.getElem_cons_zero, List.setIfInBounds_toArray, List.set_cons_zero, List.set_cons_succ]
              refine wpAnyH_take (i := 32) (v := ?vF32) rfl (by kernel_rfl) (by kernel_rfl) (by kernel_rfl) (fun _ _ _ h => h) (Or.inl ⟨by rfl, ?hyF32⟩) (by assumption) ?restF32
              case hyF32 => (intro w hSw; (try dsimp only at hSw); go_simp; try with_reducible rfl)
              try simp only [Act.put, List.getElem_toArray, List.getElem_cons_succ, List.getElem_cons_zero, List.setIfInBounds_toArray, List.set_cons_zero, List.set_cons_succ]
              refine wpAnyH_take (i := 33) (v := ?vF33) rfl (by kernel_rfl) (by kernel_rfl) (by kernel_rfl) (fun _ _ _ h => h) (Or.inl ⟨by rfl, ?hyF33⟩) (by assumption) ?restF33
              case hyF33 => (intro w hSw; (try dsimp only at hSw); go_simp; try with_reducible rfl)
              try simp only [Act.put, List.getElem_toArray, List.getElem_cons_succ, List.getElem_cons_zero, List.setIfInBounds_toArray, List.set_cons_zero, List.set_cons_succ]
              refine wpAnyH_done (by kernel_rfl) (NoPanic.normal ?_) _
              have hL6 := hL5.as hB6
              have b06 := b05.below hB6
              have b16 := b15.below hB6
              have hb6 := hb5.below hB6
              have hM6 : Marks wb.heap.size hi ds w6 := hM5.keep fun k _ h1 h2 => (hB6.block k (by omega)).trans h2
              have hs6 : s0 + 2 ≤ w6.heap.size := by have := hB6.size; omega
              have d1 := b16.cell 0
              simp only [List.getElem?_toArray, List.getElem?_cons_zero] at d1
              have hXlt := hL6.ar.at_.lt
              have htab := hL6.ar.tabB
              have hsB6 := hL6.ar.size
              have hrd : Reads s (y.r : Int) y.k (fun _ => 0) := HO'.out.reads hL6.ar.at_.fits
              have hL7 := (hL6.al (.cells #[.pointer (some ⟨X.a, 0, none⟩)] 24)).al (.cells #[.int .i64 (y.r : Int)] 30)
              have b07 := (b06.alloc (.cells #[.pointer (some ⟨X.a, 0, none⟩)] 24)).alloc (.cells #[.int .i64 (y.r : Int)] 30)
              have b17 := (b16.alloc (.cells #[.pointer (some ⟨X.a, 0, none⟩)] 24)).alloc (.cells #[.int .i64 (y.r : Int)] 30)
              have hb7 := (hb6.alloc (.cells #[.pointer (some ⟨X.a, 0, none⟩)] 24)).alloc (.cells #[.int .i64 (y.r : Int)] 30)
              have hM7 : Marks wb.heap.size hi ds ((w6.alloc (.cells #[.pointer (some ⟨X.a, 0, none⟩)] 24)).alloc (.cells #[.int .i64 (y.r : Int)] 30)) := hM6.keep fun k _ h1 h2 => ((Below.heap_alloc _ _ _ (by simp; omega)).trans (Below.heap_alloc _ _ _ (by omega))).trans h2
              have p0 : ((w6.alloc (.cells #[.pointer (some ⟨X.a, 0, none⟩)] 24)).alloc (.cells #[.int .i64 (y.r : Int)] 30)).cell? ⟨w6.heap.size, 0, none⟩ = some (.pointer (some ⟨X.a, 0, none⟩)) := ((Blk.new w6 _ _).alloc _).cell 0
              have p1 : ((w6.alloc (.cells #[.pointer (some ⟨X.a, 0, none⟩)] 24)).alloc (.cells #[.int .i64 (y.r : Int)] 30)).cell? ⟨w6.heap.size + 1, 0, none⟩ = some (.int .i64 (y.r : Int)) := by simp
              have hs7 : ((w6.alloc (.cells #[.pointer (some ⟨X.a, 0, none⟩)] 24)).alloc (.cells #[.int .i64 (y.r : Int)] 30)).heap.size = w6.heap.size + 2 := by simp
              clear hL5 b05 b15 hb5 hM5 hcy5 c0 c1 cb cF hL6 b06 b16 hb6 hM6 hk6 hB6 hs5 hHeld hkt' hyy hwk
              gi_wp2_with fail
              refine ⟨trivial, fun h => (by cases h), ?_⟩
              refine (callsIn_wide.2 (ptsfn_any X.a (y.r : Int) _)).mono ?_
              rintro e w' ⟨rfl, rfl⟩
              clear d1
              gi_wp2_with fail
              generalize ((w6.alloc (.cells #[.pointer (some ⟨X.a, 0, none⟩)] 24)).alloc (.cells #[.int .i64 (y.r : Int)] 30)) = V7 at *
              generalize w6.heap.size = s6 at *
              refine wpIn_rangeFunc_ownF rfl (by omega) (gf := 64) (lb := #[.pointer (some ⟨s6, 0, none⟩), .pointer (some ⟨s6 + 1, 0, none⟩)]) rfl trivial (enters_of Tryd.func64 (by kernel_rfl) rfl)
                (pts_stops (X := X.with lo) (M - 1) s6 y.k (y.r : Int) (fun _ => 0) hrd V7 hL7.ar.at_ hL7.ar.tabAt p0 p1) KpPt.trans (fun W l o o' hl _ _ _ => KpPt.putObj (n0 := V7.heap.size) (fun k hk => by have := hXlt k hk; omega) (by omega) (by omega) W l o' hl) (Below.refl _ _) (fun _ => rfl)
                (fun pre V => ListIn wb.heap.size (X.with lo) s (.slice (some ⟨g, 0, none⟩) rs.length cp) rs wb V ∧ Blk V s0 #[.int .i64 (i : Int)] 3 ∧ Blk V (s0 + 1) #[.int .i64 (y.r : Int)] 30 ∧ Blk V b13 #[.int .i64 (k : Int)] 3 ∧ Marks wb.heap.size hi ds V ∧ V7.heap.size ≤ V.heap.size) (fun _ _ _ => True)
                (fun pre V V' row hs hg hr => ⟨hs.1.fr hg (fun r e => ⟨by have := (hr r e).1; omega, (hr r e).2⟩), hs.2.1.kept hg (fun r e => (hr r e).2), hs.2.2.1.kept hg (fun r e => (hr r e).2), hs.2.2.2.1.kept hg (fun r e => (hr r e).2), hs.2.2.2.2.1.keep fun k _ h1 h2 => (hg.block k (by have := hs.2.2.2.2.2; omega) (fun e => by have := (hr k e.symm).1; omega)).trans h2, Nat.le_trans hs.2.2.2.2.2 hg.size⟩)
                (fun _ _ _ _ _ hs _ _ => hs) ⟨hL7, b07, b17, hb7, hM7, Nat.le_refl _⟩ ?aF ?assignF ?bodyF ?doneF ?stopF
              case assignF =>
                intro l0 x W K hK
                unfold ptArgs
                gi_wp2
                exact hK
              case bodyF =>
                rintro l0 pre x1 V ⟨hL, v0, v1, vb, hM, hVs⟩ hpl
                have c0 := v0.cell 0
                have c1 := v1.cell 0
                have cb := vb.cell 0
                simp only [List.getElem?_toArray, List.getElem?_cons_zero] at c0 c1 cb
                have hRW : V.cell? ⟨w.heap.size, 0, none⟩ = some (.bool false) := (hL.ar.below.cell (p := ⟨w.heap.size, 0, none⟩) hR.lt).trans (hR.cell 0)
                have hZW : V.frozen? ⟨w.heap.size, 0, none⟩ = false := (hL.ar.below.frozen (p := ⟨w.heap.size, 0, none⟩) hR.lt).trans (hR.free 0)
                gi_wp2_with fail
                exact ⟨KeepsOthers.setCell _ _ _, trivial⟩
              case doneF =>
                rintro D xs V hD hxs ⟨hL, v0, v1, vb, hM, hVs⟩ hK
                gi_wp2_with fail
                refine ⟨_, rfl, rfl, ⟨i + 1, D + 1, by omega, ?_, hL, vb, (Array.getElem?_eq_some_iff.mp hK).1, (hM.mono (show hi ≤ D by omega)).push (by omega) (by omega) hK⟩, ?_⟩
                · show Value.int .i64 ((i : Int) + 1) = _
                  congr 1
                · show rs.length - (intOf (Value.int .i64 ((i : Int) + 1))).toNat < rs.length - (intOf (Value.int .i64 (i : Int))).toNat
                  simp [intOf]; omega
              case stopF =>
                rintro D c pre V hD ⟨j, _, hj, _⟩ hs _
                exact absurd hj (by simp [nz])
            · obtain ⟨rfl, rfl⟩ := f1 rfl
              have hik : i = k := of_decide_eq_true HBY.out
              have g1 : ((i : Int) != (k : Int)) = false := by simp; omega
              have g2 : ((i : Int) == (k : Int)) = true := by simp; omega
              have g3 : ((vv : Int) != (vv : Int)) = false := by simp
              clear f1 f2 hik
              have hwk : IntKind.i64.wrap (y.k : Int) = (y.k : Int) := IntWalk.i64_in _ (by omega)
              gi_wp2_with fail
              refine wpIn_wide.2 ?_
              refine wp_region_noPanic ?_
              refine wp_region_held_drew (S := (fun W' => W'.cell? ⟨s0, 0, none⟩ = some (.int .i64 (i : Int)) ∧ W'.cell? ⟨s0 + 1, 0, none⟩ = some (.int .i64 (y.r : Int)) ∧ W'.cell? ⟨b13, 0, none⟩ = some (.int .i64 (k : Int)) ∧ W'.cell? ⟨bk, off + i, none⟩ = some (.int .u8 (n' : Int)))) (by kernel_rfl) (⟨c0, c1, cb, hcy5⟩) (fun hHeld => ?_)
              refine wpAnyH_take (i := 0) (v := ?vT0) rfl (by kernel_rfl) (by kernel_rfl) (by kernel_rfl) (fun _ _ _ h => h) (Or.inl ⟨by rfl, ?hyT0⟩) (by assumption) ?restT0
              case hyT0 => (intro w hSw; (try dsimp only at hSw); go_simp; try with_reducible rfl)
              try simp only [Act.put, List.getElem_toArray, List.getElem_cons_succ, List.getElem_cons_zero, List.setIfInBounds_toArray, List.set_cons_zero, List.set_cons_succ]
              refine wpAnyH_take (i := 1) (v := ?vT1) rfl (by kernel_rfl) (by kernel_rfl) (by kernel_rfl) (fun _ _ _ h => h) (Or.inl ⟨by rfl, ?hyT1⟩) (by assumption) ?restT1
              case hyT1 => (intro w hSw; (try dsimp only at hSw); go_simp; try with_reducible rfl)
              try simp only [Act.put, List.getElem_toArray, List.getElem_cons_succ, List.getElem_cons_zero, List.setIfInBounds_toArray, List.set_cons_zero, List.set_cons_succ]
              refine wpAnyH_take (i := 2) (v := ?vT2) rfl (by kernel_rfl) (by kernel_rfl) (by kernel_rfl) (fun _ _ _ h => h) (Or.inl ⟨by rfl, ?hyT2⟩) (by assumption) ?restT2
              case hyT2 => (intro w hSw; (try dsimp only at hSw); go_simp; try with_reducible rfl)
              try simp only [Act.put, List.getElem_toArray, List.getElem_cons_succ, List.getElem_cons_zero, List.setIfInBounds_toArray, List.set_cons_zero, List.set_cons_succ]
              refine wpAnyH_take (i := 3) (v := ?vT3) rfl (by kernel_rfl) (by kernel_rfl) (by kernel_rfl) (fun _ _ _ h => h) (Or.inl ⟨by rfl, ?hyT3⟩) (by assumption) ?restT3
              case hyT3 => (intro w hSw; (try dsimp only at hSw); go_simp; try with_reducible rfl)
              try simp only [Act.put, List.getElem_toArray, List.getElem_cons_succ, List.getElem_cons_zero, List.setIfInBounds_toArray, List.set_cons_zero, List.set_cons_succ]
              refine wpAnyH_take (i := 4) (v := ?vT4) rfl (by kernel_rfl) (by kernel_rfl) (by kernel_rfl) (fun _ _ _ h => h) (Or.inl ⟨by rfl, ?hyT4⟩) (by assumption) ?restT4
              case hyT4 => (intro w hSw; (try dsimp only at hSw); go_simp; try with_reducible rfl)
              try simp only [Act.put, List.getElem_toArray, List.getElem_cons_succ, List.getElem_cons_zero, List.setIfInBounds_toArray, List.set_cons_zero, List.set_cons_succ]
              refine wpAnyH_take (i := 5) (v := ?vT5) rfl (by kernel_rfl) (by kernel_rfl) (by kernel_rfl) (fun _ _ _ h => h) (Or.inl ⟨by rfl, ?hyT5⟩) (by assumption) ?restT5
              case hyT5 => (intro w hSw; (try dsimp only at hSw); go_simp; try with_reducible rfl)
              try simp only [Act.put, List.getElem_toArray, List.getElem_cons_succ, List.getElem_cons_zero, List.setIfInBounds_toArray, List.set_cons_zero, List.set_cons_succ]
              refine wpAnyH_take (i := 6) (v := ?vT6) rfl (by kernel_rfl) (by kernel_rfl) (by kernel_rfl) (fun _ _ _ h => h) (Or.inl ⟨by rfl, ?hyT6⟩) (by assumption) ?restT6
              case hyT6 => (intro w hSw; (try dsimp only at hSw); go_simp; try with_reducible rfl)
              try simp only [Act.put, List.getElem_toArray, List.getElem_cons_succ, List.getElem_cons_zero, List.setIfInBounds_toArray, List.set_cons_zero, List.set_cons_succ]
              refine wpAnyH_take (i := 7) (v := undef) rfl (by kernel_rfl) (by kernel_rfl) (by kernel_rfl) (fun _ _ _ h => h) (Or.inr ⟨by rfl, rfl⟩) (by assumption) ?_
              try simp only [Act.put, List.getElem_toArray, List.getElem_cons_succ, List.getElem_cons_zero, List.setIfInBounds_toArray, List.set_cons_zero, List.set_cons_succ]
              refine wpAnyH_take (i := 8) (v := undef) rfl (by kernel_rfl) (by kernel_rfl) (by kernel_rfl) (fun _ _ _ h => h) (Or.inr ⟨by rfl, rfl⟩) (by assumption) ?_
              try simp only [Act.put, List.getElem_toArray, List.getElem_cons_succ, List.getElem_cons_zero, List.setIfInBounds_toArray, List.set_cons_zero, List.set_cons_succ]
              refine wpAnyH_take (i := 9) (v := undef) rfl (by kernel_rfl) (by kernel_rfl) (by kernel_rfl) (fun _ _ _ h => h) (Or.inr ⟨by rfl, rfl⟩) (by assumption) ?_
              try simp only [Act.put, List.getElem_toArray, List.getElem_cons_succ, List.getElem_cons_zero, List.setIfInBounds_toArray, List.set_cons_zero, List.set_cons_succ]
              refine wpAnyH_take (i := 10) (v := ?vT10) rfl (by kernel_rfl) (by kernel_rfl) (by kernel_rfl) (fun _ _ _ h => h) (Or.inl ⟨by rfl, ?hyT10⟩) (by assumption) ?restT10
              case hyT10 => (intro w hSw; (try dsimp only at hSw); go_simp; try with_reducible rfl)
              try simp only [Act.put, List.getElem_toArray, List.getElem_cons_succ, List.getElem_cons_zero, List.setIfInBounds_toArray, List.set_cons_zero, List.set_cons_succ]
              refine wpAnyH_take (i := 11) (v := ?vT11) rfl (by kernel_rfl) (by kernel_rfl) (by kernel_rfl) (fun _ _ _ h => h) (Or.inl ⟨by rfl, ?hyT11⟩) (by assumption) ?restT11
              case hyT11 => (intro w hSw; (try dsimp only at hSw); go_simp; try with_reducible rfl)
              try simp only [Act.put, List.getElem_toArray, List.getElem_cons_succ, List.getElem_cons_zero, List.setIfInBounds_toArray, List.set_cons_zero, List.set_cons_succ]
              refine wpAnyH_take (i := 12) (v := ?vT12) rfl (by kernel_rfl) (by kernel_rfl) (by kernel_rfl) (fun _ _ _ h => h) (Or.inl ⟨by rfl, ?hyT12⟩) (by assumption) ?restT12
              case hyT12 => (intro w hSw; (try dsimp only at hSw); go_simp; try with_reducible rfl)
              try simp only [Act.put, List.getElem_toArray, List.getElem_cons_succ, List.getElem_cons_zero, List.setIfInBounds_toArray, List.set_cons_zero, List.set_cons_succ]
              refine wpAnyH_take (i := 13) (v := ?vT13) rfl (by kernel_rfl) (by kernel_rfl) (by kernel_rfl) (fun _ _ _ h => h) (Or.inl ⟨by rfl, ?hyT13⟩) (by assumption) ?restT13
              case hyT13 => (intro w hSw; (try dsimp only at hSw); go_simp; try with_reducible rfl)
              try simp only [Act.put, List.getElem_toArray, List.getElem_cons_succ, List.getElem_cons_zero, List.setIfInBounds_toArray, List.set_cons_zero, List.set_cons_succ]
              refine wpAnyH_take (i := 14) (v := ?vT14) rfl (by kernel_rfl) (by kernel_rfl) (by kernel_rfl) (fun _ _ _ h => h) (Or.inl ⟨by rfl, ?hyT14⟩) (by assumption) ?restT14
              case hyT14 => (intro w hSw; (try dsimp only at hSw); go_simp; try with_reducible rfl)
              try simp only [Act.put, List.getElem_toArray, List.getElem_cons_succ, List.getElem_cons_zero, List.setIfInBounds_toArray, List.set_cons_zero, List.set_cons_succ]
              refine wpAnyH_take (i := 15) (v := ?vT15) rfl (by kernel_rfl) (by kernel_rfl) (by kernel_rfl) (fun _ _ _ h => h) (Or.inl ⟨by rfl, ?hyT15⟩) (by assumption) ?restT15
              case hyT15 => (intro w hSw; (try dsimp only at hSw); go_simp; try with_reducible rfl)
              try simp only [Act.put, List.getElem_toArray, List.getElem_cons_succ, List.getElem_cons_zero, List.setIfInBounds_toArray, List.set_cons_zero, List.set_cons_succ]
              refine wpAnyH_take (i := 16) (v := ?vT16) rfl (by kernel_rfl) (by kernel_rfl) (by kernel_rfl) (fun _ _ _ h => h) (Or.inl ⟨by rfl, ?hyT16⟩) (by assumption) ?restT16
              case hyT16 => (intro w hSw; (try dsimp only at hSw); go_simp; try with_reducible rfl)
              try simp only [Act.put, List.getElem_toArray, List.getElem_cons_succ, List.getElem_cons_zero, List.setIfInBounds_toArray, List.set_cons_zero, List.set_cons_succ]
              refine wpAnyH_take (i := 17) (v := ?vT17) rfl (by kernel_rfl) (by kernel_rfl) (by kernel_rfl) (fun _ _ _ h => h) (Or.inl ⟨by rfl, ?hyT17⟩) (by assumption) ?restT17
              case hyT17 => (intro w hSw; (try dsimp only at hSw); go_simp; try with_reducible rfl)
              try simp only [Act.put, List.getElem_toArray, List.getElem_cons_succ, List.getElem_cons_zero, List.setIfInBounds_toArray, List.set_cons_zero, List.set_cons_succ]
              refine wpAnyH_take (i := 18) (v := ?vT18) rfl (by kernel_rfl) (by kernel_rfl) (by kernel_rfl) (fun _ _ _ h => h) (Or.inl ⟨by rfl, ?hyT18⟩) (by assumption) ?restT18
              case hyT18 => (intro w hSw; (try dsimp only at hSw); go_simp; try with_reducible rfl)
              try simp only [Act.put, List.getElem_toArray, List.getElem_cons_succ, List.getElem_cons_zero, List.setIfInBounds_toArray, List.set_cons_zero, List.set_cons_succ]
              refine wpAnyH_take (i := 19) (v := ?vT19) rfl (by kernel_rfl) (by kernel_rfl) (by kernel_rfl) (fun _ _ _ h => h) (Or.inl ⟨by rfl, ?hyT19⟩) (by assumption) ?restT19
              case hyT19 => (intro w hSw; (try dsimp only at hSw); go_simp; try with_reducible rfl)
              try simp only [Act.put, List.getElem_toArray, List.getElem_cons_succ, List.getElem_cons_zero, List.setIfInBounds_toArray, List.set_cons_zero, List.set_cons_succ]
              refine wpAnyH_take (i := 20) (v := ?vT20) rfl (by kernel_rfl) (by kernel_rfl) (by kernel_rfl) (fun _ _ _ h => h) (Or.inl ⟨by rfl, ?hyT20⟩) (by assumption) ?restT20
              case hyT20 => (intro w hSw; (try dsimp only at hSw); go_simp; try with_reducible rfl)
              try simp only [Act.put, List.getElem_toArray, List.getElem_cons_succ, List.getElem_cons_zero, List.setIfInBounds_toArray, List.set_cons_zero, List.set_cons_succ]
              refine wpAnyH_take (i := 21) (v := ?vT21) rfl (by kernel_rfl) (by kernel_rfl) (by kernel_rfl) (fun _ _ _ h => h) (Or.inl ⟨by rfl, ?hyT21⟩) (by assumption) ?restT21
              case hyT21 => (intro w hSw; (try dsimp only at hSw); go_simp; try with_reducible rfl)
              try simp only [Act.put, List.getElem_toArray, List.getElem_cons_succ, List.getElem_cons_zero, List.setIfInBounds_toArray, List.set_cons_zero, List.set_cons_succ]
              refine wpAnyH_take (i := 22) (v := ?vT22) rfl (by kernel_rfl) (by kernel_rfl) (by kernel_rfl) (fun _ _ _ h => h) (Or.inl ⟨by rfl, ?hyT22⟩) (by assumption) ?restT22
              case hyT22 => (intro w hSw; (try dsimp only at hSw); go_simp; try with_reducible rfl)
              try simp only [Act.put, List.getElem_toArray, List.getElem_cons_succ, List.getElem_cons_zero, List.setIfInBounds_toArray, List.set_cons_zero, List.set_cons_succ]
              refine wpAnyH_take (i := 23) (v := ?vT23) rfl (by kernel_rfl) (by kernel_rfl) (by kernel_rfl) (fun _ _ _ h => h) (Or.inl ⟨by rfl, ?hyT23⟩) (by assumption) ?restT23
              case hyT23 => (intro w hSw; (try dsimp only at hSw); go_simp; try with_reducible rfl)
              try simp only [Act.put, List.getElem_toArray, List.getElem_cons_succ, List.getElem_cons_zero, List.setIfInBounds_toArray, List.set_cons_zero, List.set_cons_succ]
              refine wpAnyH_take (i := 24) (v := ?vT24) rfl (by kernel_rfl) (by kernel_rfl) (by kernel_rfl) (fun _ _ _ h => h) (Or.inl ⟨by rfl, ?hyT24⟩) (by assumption) ?restT24
              case hyT24 => (intro w hSw; (try dsimp only at hSw); go_simp; try with_reducible rfl)
              try simp only [Act.put, List.getElem_toArray, List.getElem_cons_succ, List.getElem_cons_zero, List.setIfInBounds_toArray, List.set_cons_zero, List.set_cons_succ]
              refine wpAnyH_take (i := 26) (v := ?vT26) rfl (by kernel_rfl) (by kernel_rfl) (by kernel_rfl) (fun _ _ _ h => h) (Or.inl ⟨by rfl, ?hyT26⟩) (by assumption) ?restT26
              case hyT26 => (intro w hSw; (try dsimp only at hSw); go_simp; try with_reducible rfl)
              try simp only [Act.put, List.getElem_toArray, List.getElem_cons_succ, List.getElem_cons_zero, List.setIfInBounds_toArray, List.set_cons_zero, List.set_cons_succ]
              refine wpAnyH_take (i := 27) (v := ?vT27) rfl (by kernel_rfl) (by kernel_rfl) (by kernel_rfl) (fun _ _ _ h => h) (Or.inl ⟨by rfl, ?hyT27⟩) (by assumption) ?restT27
              case hyT27 => (intro w hSw; (try dsimp only at hSw); go_simp; try with_reducible rfl)
              try simp only [Act.put, List.getElem_toArray, List.getElem_cons_succ, List.getElem_cons_zero, List.setIfInBounds_toArray, List.set_cons_zero, List.set_cons_succ]
              refine wpAnyH_take (i := 28) (v := ?vT28) rfl (by kernel_rfl) (by kernel_rfl) (by kernel_rfl) (fun _ _ _ h => h) (Or.inl ⟨by rfl, ?hyT28⟩) (by assumption) ?restT28
              case hyT28 => (intro w hSw; (try dsimp only at hSw); go_simp; try with_reducible rfl)
              try simp only [Act.put, List.getElem_toArray, List.getElem_cons_succ, List.getElem_cons_zero, List.setIfInBounds_toArray, List.set_cons_zero, List.set_cons_succ]
              refine wpAnyH_take (i := 29) (v := ?vT29) rfl (by kernel_rfl) (by kernel_rfl) (by kernel_rfl) (fun _ _ _ h => h) (Or.inl ⟨by rfl, ?hyT29⟩) (by assumption) ?restT29
              case hyT29 => (intro w hSw; (try dsimp only at hSw); go_simp; try with_reducible rfl)
              try simp only [Act.put, List.getElem_toArray, List.getElem_cons_succ, List.getElem_cons_zero, List.setIfInBounds_toArray, List.set_cons_zero, List.set_cons_succ]
              refine wpAnyH_take (i := 30) (v := ?vT30) rfl (by kernel_rfl) (by kernel_rfl) (by kernel_rfl) (fun _ _ _ h => h) (Or.inl ⟨by rfl, ?hyT30⟩) (by assumption) ?restT30
              case hyT30 => (intro w hSw; (try dsimp only at hSw); go_simp; try with_reducible rfl)
              try simp only [Act.put, List.getElem_toArray, List.getElem_cons_succ, List.getElem_cons_zero, List.setIfInBounds_toArray, List.set_cons_zero, List.set_cons_succ]
              refine wpAnyH_take (i := 31) (v := ?vT31) rfl (by kernel_rfl) (by kernel_rfl) (by kernel_rfl) (fun _ _ _ h => h) (Or.inl ⟨by rfl, ?hyT31⟩) (by assumption) ?restT31
              case hyT31 => (intro w hSw; (try dsimp only at hSw); go_simp; try with_reducible rfl)
              try simp only [Act.put, List.getElem_toArray, List.getElem_cons_succ, List.getElem_cons_zero, List.setIfInBounds_toArray, List.set_cons_zero, List.set_cons_succ]
              refine wpAnyH_ready (rs := [25]) (by kernel_rfl) (by simp) ?_
              refine AllReadyH.cons rfl (fun K hK => ?_) AllReadyH.nil
              go_simp
              (go_at_call 36; refine cF.mono ?_; rintro e w6 ⟨rfl, hB6⟩; have hk6 : w6.cell? ⟨s0, 0, none⟩ = some (.int .i64 (i : Int)) ∧ w6.cell? ⟨s0 + 1, 0, none⟩ = some (.int .i64 (y.r : Int)) ∧ w6.cell? ⟨b13, 0, none⟩ = some (.int .i64 (k : Int)) ∧ w6.cell? ⟨bk, off + i, none⟩ = some (.int .u8 (n' : Int)) := ⟨(hB6.cell (p := ⟨s0, 0, none⟩) b05.lt).trans c0, (hB6.cell (p := ⟨s0 + 1, 0, none⟩) b15.lt).trans c1, (hB6.cell (p := ⟨b13, 0, none⟩) hb5.lt).trans cb, (hB6.cell (p := ⟨bk, off + i, none⟩) (World.block_lt_of_cell? w5.drew _ hcy5)).trans hcy5⟩)
              go_wp2_with fail
              refine hK.out _ _ (hk6) (fun hHeld => ?_)
              try simp only [Act.put, List.getElem_toArray, List.getElem_cons_succ, List.getElem_cons_zero, List.setIfInBounds_toArray, List.set_cons_zero, List.set_cons_succ]
              refine wpAnyH_take (i := 32) (v := ?vT32) rfl (by kernel_rfl) (by kernel_rfl) (by kernel_rfl) (fun _ _ _ h => h) (Or.inl ⟨by rfl, ?hyT32⟩) (by assumption) ?restT32
              case hyT32 => (intro w hSw; (try dsimp only at hSw); go_simp; try with_reducible rfl)
              try simp only [Act.put, List.getElem_toArray, List.getElem_cons_succ, List.getElem_cons_zero, List.setIfInBounds_toArray, List.set_cons_zero, List.set_cons_succ]
              refine wpAnyH_take (i := 33) (v := ?vT33) rfl (by kernel_rfl) (by kernel_rfl) (by kernel_rfl) (fun _ _ _ h => h) (Or.inl ⟨by rfl, ?hyT33⟩) (by assumption) ?restT33
              case hyT33 => (intro w hSw; (try dsimp only at hSw); go_simp; try with_reducible rfl)
              try simp only [Act.put, List.getElem_toArray, List.getElem_cons_succ, List.getElem_cons_zero, List.setIfInBounds_toArray, List.set_cons_zero, List.set_cons_succ]
              refine wpAnyH_done (by kernel_rfl) (NoPanic.normal ?_) _
              have hL6 := hL5.as hB6
              have b06 := b05.below hB6
              have b16 := b15.below hB6
              have hb6 := hb5.below hB6
              have hM6 : Marks wb.heap.size hi ds w6 := hM5.keep fun k _ h1 h2 => (hB6.block k (by omega)).trans h2
              have hs6 : s0 + 2 ≤ w6.heap.size := by have := hB6.size; omega
              have d1 := b16.cell 0
              simp only [List.getElem?_toArray, List.getElem?_cons_zero] at d1
              have hXlt := hL6.ar.at_.lt
              have htab := hL6.ar.tabB
              have hsB6 := hL6.ar.size
              have hrd : Reads s (y.r : Int) y.k (fun _ => (y.r : Int)) := HO'.out.reads hL6.ar.at_.fits
              have hL7 := (hL6.al (.cells #[.pointer (some ⟨X.a, 0, none⟩)] 24)).al (.cells #[.int .i64 (y.r : Int)] 30)
              have b07 := (b06.alloc (.cells #[.pointer (some ⟨X.a, 0, none⟩)] 24)).alloc (.cells #[.int .i64 (y.r : Int)] 30)
              have b17 := (b16.alloc (.cells #[.pointer (some ⟨X.a, 0, none⟩)] 24)).alloc (.cells #[.int .i64 (y.r : Int)] 30)
              have hb7 := (hb6.alloc (.cells #[.pointer (some ⟨X.a, 0, none⟩)] 24)).alloc (.cells #[.int .i64 (y.r : Int)] 30)
              have hM7 : Marks wb.heap.size hi ds ((w6.alloc (.cells #[.pointer (some ⟨X.a, 0, none⟩)] 24)).alloc (.cells #[.int .i64 (y.r : Int)] 30)) := hM6.keep fun k _ h1 h2 => ((Below.heap_alloc _ _ _ (by simp; omega)).trans (Below.heap_alloc _ _ _ (by omega))).trans h2
              have p0 : ((w6.alloc (.cells #[.pointer (some ⟨X.a, 0, none⟩)] 24)).alloc (.cells #[.int .i64 (y.r : Int)] 30)).cell? ⟨w6.heap.size, 0, none⟩ = some (.pointer (some ⟨X.a, 0, none⟩)) := ((Blk.new w6 _ _).alloc _).cell 0
              have p1 : ((w6.alloc (.cells #[.pointer (some ⟨X.a, 0, none⟩)] 24)).alloc (.cells #[.int .i64 (y.r : Int)] 30)).cell? ⟨w6.heap.size + 1, 0, none⟩ = some (.int .i64 (y.r : Int)) := by simp
              have hs7 : ((w6.alloc (.cells #[.pointer (some ⟨X.a, 0, none⟩)] 24)).alloc (.cells #[.int .i64 (y.r : Int)] 30)).heap.size = w6.heap.size + 2 := by simp
              clear hL5 b05 b15 hb5 hM5 hcy5 c0 c1 cb cF hL6 b06 b16 hb6 hM6 hk6 hB6 hs5 hHeld hkt' hyy hwk
              gi_wp2_with fail
              refine ⟨trivial, fun h => (by cases h), ?_⟩
              refine (callsIn_wide.2 (ptsfn_any X.a (y.r : Int) _)).mono ?_
              rintro e w' ⟨rfl, rfl⟩
              clear d1
              gi_wp2_with fail
              generalize ((w6.alloc (.cells #[.pointer (some ⟨X.a, 0, none⟩)] 24)).alloc (.cells #[.int .i64 (y.r : Int)] 30)) = V7 at *
              generalize w6.heap.size = s6 at *
              refine wpIn_rangeFunc_ownF rfl (by omega) (gf := 64) (lb := #[.pointer (some ⟨s6, 0, none⟩), .pointer (some ⟨s6 + 1, 0, none⟩)]) rfl trivial (enters_of Tryd.func64 (by kernel_rfl) rfl)
                (pts_stops (X := X.with lo) (M - 1) s6 y.k (y.r : Int) (fun _ => (y.r : Int)) hrd V7 hL7.ar.at_ hL7.ar.tabAt p0 p1) KpPt.trans (fun W l o o' hl _ _ _ => KpPt.putObj (n0 := V7.heap.size) (fun k hk => by have := hXlt k hk; omega) (by omega) (by omega) W l o' hl) (Below.refl _ _) (fun _ => rfl)
                (fun pre V => ListIn wb.heap.size (X.with lo) s (.slice (some ⟨g, 0, none⟩) rs.length cp) rs wb V ∧ Blk V s0 #[.int .i64 (i : Int)] 3 ∧ Blk V (s0 + 1) #[.int .i64 (y.r : Int)] 30 ∧ Blk V b13 #[.int .i64 (k : Int)] 3 ∧ Marks wb.heap.size hi ds V ∧ V7.heap.size ≤ V.heap.size) (fun _ _ _ => False)
                (fun pre V V' row hs hg hr => ⟨hs.1.fr hg (fun r e => ⟨by have := (hr r e).1; omega, (hr r e).2⟩), hs.2.1.kept hg (fun r e => (hr r e).2), hs.2.2.1.kept hg (fun r e => (hr r e).2), hs.2.2.2.1.kept hg (fun r e => (hr r e).2), hs.2.2.2.2.1.keep fun k _ h1 h2 => (hg.block k (by have := hs.2.2.2.2.2; omega) (fun e => by have := (hr k e.symm).1; omega)).trans h2, Nat.le_trans hs.2.2.2.2.2 hg.size⟩)
                (fun _ _ _ _ _ hs _ _ => hs) ⟨hL7, b07, b17, hb7, hM7, Nat.le_refl _⟩ ?aT ?assignT ?bodyT ?doneT ?stopT
              case assignT =>
                intro l0 x W K hK
                unfold ptArgs
                gi_wp2
                exact hK
              case bodyT =>
                rintro l0 pre x1 V ⟨hL, v0, v1, vb, hM, hVs⟩ hpl
                have c0 := v0.cell 0
                have c1 := v1.cell 0
                have cb := vb.cell 0
                simp only [List.getElem?_toArray, List.getElem?_cons_zero] at c0 c1 cb
                have hRW : V.cell? ⟨w.heap.size, 0, none⟩ = some (.bool false) := (hL.ar.below.cell (p := ⟨w.heap.size, 0, none⟩) hR.lt).trans (hR.cell 0)
                have hZW : V.frozen? ⟨w.heap.size, 0, none⟩ = false := (hL.ar.below.frozen (p := ⟨w.heap.size, 0, none⟩) hR.lt).trans (hR.free 0)
                have g5 : ((y.r : Int) != (y.r : Int)) = false := by simp
                gi_wp2_with fail
                exact ⟨KeepsOthers.refl _, ⟨⟨fun _ _ => rfl, rfl, rfl⟩, rfl⟩, hL, v0, v1, vb, hM, hVs⟩
              case doneT =>
                rintro D xs V hD hxs ⟨hL, v0, v1, vb, hM, hVs⟩ hK
                gi_wp2_with fail
                refine ⟨_, rfl, rfl, ⟨i + 1, D + 1, by omega, ?_, hL, vb, (Array.getElem?_eq_some_iff.mp hK).1, (hM.mono (show hi ≤ D by omega)).push (by omega) (by omega) hK⟩, ?_⟩
                · show Value.int .i64 ((i : Int) + 1) = _
                  congr 1
                · show rs.length - (intOf (Value.int .i64 ((i : Int) + 1))).toNat < rs.length - (intOf (Value.int .i64 (i : Int))).toNat
                  simp [intOf]; omega
              case stopT =>
                rintro D c pre V hD _ hs _
                exact hs.elim
          · obtain rfl : i = rs.length := by omega
            have hRW : W.cell? ⟨w.heap.size, 0, none⟩ = some (.bool false) := (hL.ar.below.cell (p := ⟨w.heap.size, 0, none⟩) hR.lt).trans (hR.cell 0)
            have hZW : W.frozen? ⟨w.heap.size, 0, none⟩ = false := (hL.ar.below.frozen (p := ⟨w.heap.size, 0, none⟩) hR.lt).trans (hR.free 0)
            have hBW := (hBb.trans (hL.ar.below.mono (by omega))).setCell (p := ⟨w.heap.size, 0, none⟩) (Nat.le_refl _) (.bool true)
            have hR9 : (W.setCell ⟨w.heap.size, 0, none⟩ (.bool true)).cell? ⟨w.heap.size, 0, none⟩ = some (.bool true) := World.cell?_setCell_same _ _ _ hRW
            have hRl := hR.lt
            have hWs := hL.ar.below.size
            have hM9 : Marks wb.heap.size hi ds (W.setCell ⟨w.heap.size, 0, none⟩ (.bool true)) := hM.keep fun k h0 _ h2 => (Below.heap_setCell _ _ _ _ (fun e => by have e2 : k = w.heap.size := e; omega)).trans h2
            have hs9 : (W.setCell ⟨w.heap.size, 0, none⟩ (.bool true)).heap.size = W.heap.size := by simp
            gi_wp2_with fail
            generalize W.setCell ⟨w.heap.size, 0, none⟩ (.bool true) = V at *
            refine leavesP_marks hM9 (by omega) fun w' hb _ hcs => ?_
            have hRF := hcs ⟨w.heap.size, 0, none⟩ _ (by show w.heap.size < _; omega) hR9
            refine ⟨.bool true, ?_, rfl, hBW.trans (hb.mono (by omega))⟩
            simp [results, Tryd.f9, go_sem, hRF]
end Go.Proofs.YtlloanoohphgcaaDoor
