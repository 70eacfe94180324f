/- ArenaAgain, walked, at this seat's numbers. -/
import Derived.Test.YtedgladjkfebmaaDoorArO
import Derived.OwnWalkIn
namespace Go.Proofs.YtedgladjkfebmaaDoor
open Go Go.RowKit Go.Shelf Go.MuLone Go.RwLone
set_option linter.unusedSimpArgs false
set_option linter.unusedVariables false
attribute [local go_sem] Oper.semAt_some

/-- An append inside the fence. -/
theorem wpListIn_push {F : Fence} {n : Nat} {ops : Array Oper} {rest : List Oper} {o : Oper} {a : Act} {Q : Exit → Act → World → Prop} {B : Nat} {X : ArB} {st : ArS} {v : Value} {l : List Nat} {wb w : World} (hgd : o.guard = none) (s x : Operand)
    (ho : o.op = .call { callee := .builtin .append, args := #[s, x], argTypes := #[54, 54] }) (h : ListIn B X st v l wb w) (hl : l.length ≤ 100000) (ad c r : Nat) (hr : w.cell? ⟨ad, 0, none⟩ = some (.int .i64 (r : Int)))
    (hs : a.eval s = v) (hx : a.eval x = .slice (some ⟨ad, 0, none⟩) 1 c) (hK : ∀ v' w', ListIn B X st v' (l ++ [r]) wb w' → Turn (fun k => v.ownBlock = some k) w w' → wpListIn F n Tryd.prog ops Q rest (a.put o.dst v') w') : wpListIn F n Tryd.prog ops Q (o :: rest) a w := by
  obtain ⟨i0, hi, hz0, hz1, hz2⟩ := info_parts infoRef
  refine wpListIn_append_own w hgd s x 54 ho B 30 i0 (.int .i64 0) 1 8 Tryd.underlying54 hi hz0 hz1 hz2 rfl (by decide) v l.length (refVals l) hs h.refs ⟨ad, 0, none⟩ 1 c [.int .i64 (r : Int)] hx rfl (fun j u hj => by
    match j, hj with
    | 0, hj => simp at hj; subst hj; simpa [Addr.add] using hr) (fun u hu => by simp at hu; subst hu; rfl) (by unfold maxLen; omega) (by omega) h.ar.size fun v' w' h2 h3 _ => ?_
  have hT : Turn (fun k => v.ownBlock = some k) w w' := ⟨h3.os, h3.tape, h3.output, h3.size, fun k hk hn => h3.block k hk (fun e => hn e.symm)⟩
  refine hK v' w' ⟨h.ar.turned hT (fun k hk e => ?_) (fun k hk e => ?_), ?_⟩ hT
  · obtain ⟨_, cur, hb⟩ := h.refs.own e
    exact h.ar.at_.far hb (by decide) (by decide) (by decide) (by decide) hk
  · have := (h.refs.own e).1; omega
  · unfold RefsIn
    rw [List.length_append]
    have e : refVals (l ++ [r]) = refVals l ++ [.int .i64 (r : Int)] := by simp [refVals]
    rw [e]; exact h2

/-- How many cells of a page are taken. -/
def matesOf (S : Nat → Bool) (p : Nat) : Nat := (elems (inPage S p) 32).length
theorem elems_sub {T T' : Nat → Bool} {o : Nat} (h : T o = true) (hT' : ∀ j, T' j = (T j && !decide (j = o))) : ∀ n, o < n → (elems T n).length = (elems T' n).length + 1
  | 0, hn => absurd hn (by omega)
  | n + 1, hn => by
    by_cases e : o = n
    · subst e
      rw [elems_yes h, elems_no (T := T') (by rw [hT']; simp)]
      have : ∀ m, m ≤ o → elems T m = elems T' m := fun m => by
        induction m with
        | zero => intro _; rfl
        | succ m ih =>
          intro hm
          have hne : ¬ m = o := by omega
          cases hx : T m with
          | true => rw [elems_yes hx, elems_yes (T := T') (by rw [hT', hx]; simp [hne]), ih (by omega)]
          | false => rw [elems_no hx, elems_no (T := T') (by rw [hT', hx]; rfl), ih (by omega)]
      rw [this o (Nat.le_refl _)]; simp
    · have ih := elems_sub h hT' n (by omega)
      have hne : ¬ n = o := fun x => e x.symm
      cases hx : T n with
      | true => rw [elems_yes hx, elems_yes (T := T') (by rw [hT', hx]; simp [hne])]; simp; omega
      | false => rw [elems_no hx, elems_no (T := T') (by rw [hT', hx]; rfl)]; exact ih
theorem mates_drop {S : Nat → Bool} {r : Nat} (h1 : 1 ≤ r) (h : S r = true) : matesOf S (pg r) = matesOf (dropN S r) (pg r) + 1 := by
  have e : 32 * pg r + (r - 1) % 32 + 1 = r := by unfold pg; omega
  refine elems_sub (o := (r - 1) % 32) (by show S _ = true; rw [e]; exact h) (fun j => ?_) 32 (by omega)
  show dropN S r _ = (S _ && !decide _)
  unfold dropN
  congr 2
  rw [decide_eq_decide]
  constructor
  · intro x; omega
  · intro x; subst x; exact e
theorem mates_used {S : Nat → Bool} {p : Nat} : usedIn S p = decide (matesOf S p ≠ 0) := by
  cases hU : usedIn S p with
  | true =>
    have := (used_elems S p).1 hU
    symm; rw [decide_eq_true_eq]
    unfold matesOf
    intro e
    exact this (List.eq_nil_of_length_eq_zero e)
  | false =>
    symm; rw [decide_eq_false_iff_not]
    intro e
    have : usedIn S p = true := (used_elems S p).2 (fun x => e (by unfold matesOf; rw [x]; rfl))
    rw [hU] at this; cases this
theorem mates_le (S : Nat → Bool) (p : Nat) : matesOf S p ≤ 32 := elems_length _ 32

/-- Behind a give of a cell that had mates, its class takes it, or a lesser one, of its page's kind. -/
theorem again_take {s : ArS} (hF : Fits s) {r : Nat} (hr : s.S r = true) (hm : matesOf s.S (pg r) ≠ 1) :
    seekF (s.giveI (r : Int)) (s.cls (pg r)) ≠ 0 ∧ seekF (s.giveI (r : Int)) (s.cls (pg r)) ≤ r := by
  obtain ⟨a1, a2, a3, a4⟩ := hF.at_ r hr
  have hu : usedIn (dropN s.S r) (pg r) = true := by
    rw [mates_used, decide_eq_true_eq]
    have := mates_drop a1 hr
    omega
  rw [giveI_nat hr]
  have hg : giveCls s r = s.cls := by unfold giveCls; rw [if_pos hu]
  rw [hg]
  have hfree : free1 { s with cls := s.cls, S := dropN s.S r } (s.cls (pg r)) r = true := free1_mk a1 a2 rfl a4 (by show dropN s.S r r = false; simp [dropN])
  rcases seekF_cases { s with cls := s.cls, S := dropN s.S r } (s.cls (pg r)) with ⟨h0, _⟩ | ⟨_, ⟨h1, h2⟩ | ⟨h1, _⟩⟩
  · rw [a3] at h0; cases h0
  · refine ⟨by have := (free1_open h1).1; omega, ?_⟩
    by_cases x : seekF { s with cls := s.cls, S := dropN s.S r } (s.cls (pg r)) ≤ r
    · exact x
    · rw [h2 r (by omega)] at hfree; cases hfree
  · rw [h1 r] at hfree; cases hfree
theorem again_lone {s : ArS} {r : Nat} (h1 : 1 ≤ r) (hr : s.S r = true) (hm : matesOf s.S (pg r) = 1) : (s.giveI (r : Int)).cls (pg r) = -1 := by
  have hu : usedIn (dropN s.S r) (pg r) = false := by
    rw [mates_used, decide_eq_false_iff_not]
    have := mates_drop h1 hr
    omega
  rw [giveI_nat hr]
  show giveCls s r (pg r) = -1
  unfold giveCls
  rw [if_neg (by rw [hu]; decide)]
  simp [upd]
theorem take_cls {s : ArS} {c : Int} (h : seekF s c ≠ 0) : (s.take c).cls (pg (seekF s c)) = c := by
  rw [take_some h]
  show upd s.cls _ c _ = c
  simp [upd]
theorem clsI_pg {s : ArS} {r : Nat} (h1 : 1 ≤ r) (h2 : r ≤ 32 * s.P) : clsI s ((pg r : Nat) : Int) = s.cls (pg r) := by
  unfold clsI
  rw [if_pos (by unfold pg; omega)]; rfl
theorem giveI_P (s : ArS) (r : Int) : (s.giveI r).P = s.P := by unfold ArS.giveI; split; rw [give_P]; rfl

theorem ArIn.far {B : Nat} {X : ArB} {s : ArS} {wb wr w' : World} {row : Option Nat} (h : ArIn B X s wb wr) (hg : wr.grownBy w' row) (hr : ∀ r, row = some r → B ≤ r ∧ ∃ o : Obj, wr.heap[r]? = some o ∧ o.isCells = false) : ArIn B X s wb w' :=
  h.turned (M := fun k => row = some k) ⟨hg.os, hg.tape, hg.output, hg.size, fun k hk hn => hg.block k hk (fun e => hn e.symm)⟩
    (fun k hk e => by obtain ⟨_, o, ho, hc⟩ := hr k e; exact h.at_.farObj ho hc hk) (fun k hk e => by have := (hr k e).1; omega)
/-- A call on an arena keeps what collects the deferred. -/
theorem keep_deferred {X X' : ArB} {s : ArS} {w w' : World} {D : Nat} (hA : ArAt w X s) (hS : ArStep X w X' w') (hK : w.heap[D]? = some (.deferred (some []))) : w'.heap[D]? = some (.deferred (some [])) :=
  (hS.keep (Array.getElem?_eq_some_iff.mp hK).1 (hA.farObj hK rfl)).1.trans hK

set_option maxRecDepth 100000 in
set_option maxHeartbeats 8000000 in
theorem again_true (a0 : Option Addr) (len cap : Nat) (K N : Nat → Int) (n : Int) (w : World) (_ : len ≤ 9223372036854775807) (hC : CallsAt w a0 len K N) (hT : TableAt w) :
    Calls Tryd.prog 8 #[.slice a0 len cap, .int .i64 n] w fun e w' => e = .returned (.bool true) ∧ Below w.heap.size w w' := by
  have hg := hT.lt
  have hf := fit_true w hT
  have HCA := Lib.hid hC
  clear hC
  obtain ⟨M, hM6⟩ : ∃ M : Nat, 6 ≤ M := ⟨6, Nat.le_refl _⟩
  refine calls_of_wp_marks Tryd.func8 rfl M ?_
  simp only [Tryd.ntmps8, List.size_toArray, List.length_cons, List.length_nil, Nat.reduceAdd, Nat.reduceSub, Array.replicate_succ, Array.replicate_zero, List.push_toArray, List.append_toArray, List.nil_append, List.cons_append]
  by_cases hbig : 60 < (len : Int)
  · gi_wp2_with fail
    refine ⟨trivial, fun h => (by cases h), ?_⟩
    refine (callsIn_wide.2 hf).mono ?_
    rintro e w1 ⟨rfl, hB⟩
    gi_wp2_with fail
    exact ⟨_, results_tmp rfl _ _ _, rfl, hB⟩
  · have hlen : len ≤ 60 := by omega
    gi_wp2_with fail
    refine ⟨trivial, fun h => (by cases h), ?_⟩
    refine (callsIn_wide.2 hf).mono ?_
    rintro e w1 ⟨rfl, hB⟩
    gi_wp2_with fail
    refine ⟨trivial, fun h => (by cases h), ?_⟩
    refine (callsIn_wide.2 (new_in 3 3 (by decide) w.heap.size w _ hB (Nat.le_refl _) hT hg)).mono ?_
    rintro e w2 ⟨X, rfl, h2, _, _⟩
    clear hf hB
    gi_wp2_with fail
    gi_loopw [6, 24] (fun v8 v23 wr => TakeRel w.heap.size X w len v8 v23 wr) (fun _ v23 _ => len - (intOf v23).toNat)
    case atStart => exact ⟨0, X.lo, .new 3, [], Nat.zero_le _, rfl, Nat.le_refl _, rfl, ⟨h2, RefsIn.nil _ _⟩, holds_new 3⟩
    case round =>
      clear h2
      obtain ⟨k, lo, s, l, hk, rfl, hl, hsP, hL, hH⟩ := hrel
      have HSP := Lib.hid hsP
      clear hsP
      by_cases hlt : k < len
      · obtain ⟨bk, off, rfl, hbk, hc0, hc1, _, _⟩ := HCA.out k hlt
        replace hc0 := (hL.ar.below.cell (p := ⟨bk, off + k * 2, none⟩) hbk).trans hc0
        replace hc1 := (hL.ar.below.cell (p := ⟨bk, off + k * 2 + 1, none⟩) hbk).trans hc1
        have k0 : 0 ≤ (k : Int) := by omega
        have k1 : (k : Int) < (len : Int) := by omega
        obtain ⟨q, hq3, hq⟩ := i64_and_mask (K k) 3 (by decide)
        replace hq : bits .and .i64 (K k) 3 = (q : Int) := hq
        gi_wp2_with fail
        clear hq
        refine ⟨trivial, fun h => (by cases h), ?_⟩
        have hL2 := hL.alloc (.cells #[.int .i64 (K k), .int .i64 (N k)] 29)
        have cT := hL2.take (q : Int)
        by_cases h0 : seekF s (q : Int) = 0
        · have hst := take_none h0
          rw [h0, natne_false, hst] at cT
          refine (callsIn_wide.2 cT).mono ?_
          rintro e w3 ⟨rfl, lo3, hL3, _⟩
          clear cT hL2 hL h0 hst hc0 hc1
          gi_wp2_with fail
          go_roundw
          case rel => exact ⟨k + 1, lo3, s, l, by omega, by go_num, by omega, HSP.out, hL3, hH⟩
          case measure => simp [intOf]; omega
        · have hH2 := hH.take hL.ar.at_.fits h0
          have hP2 : (s.take (q : Int)).P = 3 := by rw [take_P]; exact HSP.out
          have HP2 := Lib.hid hP2
          rw [decide_eq_true h0] at cT
          generalize seekF s (q : Int) = x at *
          refine (callsIn_wide.2 cT).mono ?_
          rintro e w3 ⟨rfl, lo3, hL3, _⟩
          have hL4 := hL3.alloc (.cells #[.int .i64 (x : Int)] 30)
          clear cT hL2 hL h0 hc0 hc1 hL3 hP2
          gi_wp2_with (gi_at_builtin; refine wpListIn_push rfl _ _ rfl hL4 (by omega) w3.heap.size 1 x ((Blk.new w3 _ _).cell 0) rfl rfl ?_; intro v' w5 hL5 _)
          go_roundw
          case rel => exact ⟨k + 1, lo3, s.take (q : Int), l ++ [x], by omega, by go_num, by simp; omega, HP2.out, hL5, hH2⟩
          case measure => simp [intOf]; omega
      · obtain rfl : k = len := by omega
        have hlr := hL.refs.lenRun 3
        have hl0 : (0 : Int) ≤ (l.length : Int) := by omega
        by_cases hl1 : l = []
        · subst hl1
          have cF := hL.ar.free
          rw [freeTo_all (free_all hL.ar.at_.fits fun r => by
            cases e : s.S r with
            | false => rfl
            | true => exact absurd ((hH.iff r).1 e) (by simp)), HSP.out] at cF
          have hlz : (([] : List Nat).length : Int) = 0 := rfl
          rw [hlz] at hlr
          have hBl := hL.ar.below
          clear hL hl hl0 hlz hH
          gi_wp2_with fail
          refine ⟨trivial, fun h => (by cases h), ?_⟩
          refine (callsIn_wide.2 cF).mono ?_
          rintro e w' ⟨rfl, rfl⟩
          gi_wp2_with fail
          exact ⟨_, results_tmp rfl _ _ _, rfl, hBl⟩
        · have hLp : 0 < l.length := List.length_pos_iff.2 hl1
          obtain ⟨t, ht, hte⟩ := i64_and_mask n 65535 (by decide)
          replace hte : bits .and .i64 n 65535 = (t : Int) := hte
          have hmod : t % l.length < l.length := Nat.mod_lt _ hLp
          have hcast : (t : Int) % (l.length : Int) = ((t % l.length : Nat) : Int) := (Int.natCast_emod _ _).symm
          have hcast2 : (t : Int).tmod (l.length : Int) = ((t % l.length : Nat) : Int) := by rw [Int.tmod_eq_emod_of_nonneg (by omega), hcast]
          rcases hL.refs.is with ⟨_, e⟩ | ⟨g, cp, cur, rfl, hg2, hbl, hcp, hat⟩
          · exact absurd e hl1
          have hcell := hat _ hmod
          have hr := (hH.iff _).2 (List.getElem_mem hmod)
          obtain ⟨r, hrr⟩ : ∃ r, l[t % l.length] = r := ⟨_, rfl⟩
          rw [hrr] at hcell hr
          have hm1 : ((t % l.length : Nat) : Int) < (l.length : Int) := by omega
          have hm0 : (0 : Int) ≤ ((t % l.length : Nat) : Int) := by omega
          have hLn : ¬ (l.length : Int) = 0 := by omega
          clear hrr hmod hat hbl hcp hH
          generalize t % l.length = m at *
          obtain ⟨a1, a2, a3, a4⟩ := hL.ar.at_.fits.at_ r hr
          have cP := page_yes hL.ar.at_.toArMem r a1 a2
          have cC := class_any hL.ar.at_.toArMem ((pg r : Nat) : Int)
          rw [clsI_pg a1 a2] at cC
          have hlz : ((l.length : Int) == 0) = false := by simpa using hLn
          have hIn := hL.ar
          have HR := Lib.hid hr
          have HA2 := Lib.hid a2
          have HC := Lib.hid a3
          obtain ⟨c, hc⟩ : ∃ c, s.cls (pg r) = c := ⟨_, rfl⟩
          rw [hc] at cC
          have HCQ := Lib.hid hc
          clear hL hr a2 a3 a4 hc
          gi_wp2_with fail
          refine ⟨trivial, fun h => (by cases h), ?_⟩
          refine (callsIn_wide.2 cP).mono ?_
          rintro e w' ⟨rfl, rfl⟩
          clear hcell hte hcast hcast2 hm1 hm0 hLn hlz hlr
          gi_wp2_with fail
          refine ⟨trivial, fun h => (by cases h), ?_⟩
          refine (callsIn_wide.2 cC).mono ?_
          rintro e w' ⟨rfl, rfl⟩
          clear cC
          have hIn2 := hIn.alloc (.cells #[.int .i64 0] 3)
          have cP2 := page_yes hIn2.at_.toArMem r a1 HA2.out
          clear cP
          gi_wp2_with fail
          refine ⟨trivial, fun h => (by cases h), ?_⟩
          refine (callsIn_wide.2 cP2).mono ?_
          rintro e w' ⟨rfl, rfl⟩
          clear cP2
          gi_wp2_with fail
          refine ⟨trivial, fun h => (by cases h), ?_⟩
          refine (callsIn_wide.2 (cellsfn_any X.a ((pg r : Nat) : Int) _)).mono ?_
          rintro e w' ⟨rfl, rfl⟩
          have hIn6 := (hIn2.alloc (.cells #[.pointer (some ⟨X.a, 0, none⟩)] 24)).alloc (.cells #[.int .i64 ((pg r : Nat) : Int)] 3)
          have hbox : Blk (((wr.alloc (.cells #[.int .i64 0] 3)).alloc (.cells #[.pointer (some ⟨X.a, 0, none⟩)] 24)).alloc (.cells #[.int .i64 ((pg r : Nat) : Int)] 3)) wr.heap.size #[.int .i64 0] 3 := ((Blk.new wr _ _).alloc _).alloc _
          have b0 : ((((wr.alloc (.cells #[.int .i64 0] 3)).alloc (.cells #[.pointer (some ⟨X.a, 0, none⟩)] 24)).alloc (.cells #[.int .i64 ((pg r : Nat) : Int)] 3))).cell? ⟨wr.heap.size + 1, 0, none⟩ = some (.pointer (some ⟨X.a, 0, none⟩)) := by
            have := ((Blk.new (wr.alloc (.cells #[.int .i64 0] 3)) #[.pointer (some ⟨X.a, 0, none⟩)] 24).alloc (.cells #[.int .i64 ((pg r : Nat) : Int)] 3)).cell 0
            simpa using this
          have b1 : ((((wr.alloc (.cells #[.int .i64 0] 3)).alloc (.cells #[.pointer (some ⟨X.a, 0, none⟩)] 24)).alloc (.cells #[.int .i64 ((pg r : Nat) : Int)] 3))).cell? ⟨wr.heap.size + 1 + 1, 0, none⟩ = some (.int .i64 ((pg r : Nat) : Int)) := by
            have := (Blk.new ((wr.alloc (.cells #[.int .i64 0] 3)).alloc (.cells #[.pointer (some ⟨X.a, 0, none⟩)] 24)) #[.int .i64 ((pg r : Nat) : Int)] 3).cell 0
            simpa using this
          have hs6 : ((((wr.alloc (.cells #[.int .i64 0] 3)).alloc (.cells #[.pointer (some ⟨X.a, 0, none⟩)] 24)).alloc (.cells #[.int .i64 ((pg r : Nat) : Int)] 3))).heap.size = wr.heap.size + 3 := by simp
          have hXlt := hIn.at_.lt
          have hsB := hIn.size
          have hpg : pg r < s.P := by have := HA2.out; unfold pg; omega
          have hI4a := Lib.hid hIn.at_.fits
          gi_wp2_with fail
          generalize (((wr.alloc (.cells #[.int .i64 0] 3)).alloc (.cells #[.pointer (some ⟨X.a, 0, none⟩)] 24)).alloc (.cells #[.int .i64 ((pg r : Nat) : Int)] 3)) = W6 at *
          clear hIn hIn2
          generalize wr.heap.size = s0 at *
          refine wpIn_rangeFunc_ownF rfl (by omega) (gf := 44) (lb := #[.pointer (some ⟨s0 + 1, 0, none⟩), .pointer (some ⟨s0 + 1 + 1, 0, none⟩)]) rfl trivial (enters_of Tryd.func44 (by kernel_rfl) rfl)
            (cells_stops (X := X.with lo) (M - 1) (s0 + 1) (pg r) hpg W6 hIn6.at_.toArMem b0 b1) KpAr.trans (fun W l o o' hl _ _ _ => KpAr.putObj (n0 := W6.heap.size) (fun k hk => by have := hXlt k hk; omega) (by omega) W l o' hl) (Below.refl _ _) (fun _ => rfl)
            (fun pre W => ArIn w.heap.size (X.with lo) s w W ∧ Blk W s0 #[.int .i64 (pre.length : Int)] 3) (fun _ _ _ => False)
            (fun pre W W' row hs hg hr => ⟨hs.1.far hg (fun r e => ⟨by have := (hr r e).1; omega, (hr r e).2⟩), hs.2.kept hg (fun r e => (hr r e).2)⟩)
            (fun _ _ _ _ _ hs _ _ => hs) ⟨hIn6, hbox⟩ ?a1 ?assign ?body ?done ?stop
          case assign =>
            intro l0 x W K hK
            unfold cellArgs
            gi_wp2
            exact hK
          case body =>
            rintro l0 pre x W ⟨hI, hbW⟩ hpl
            have hcb := hbW.cell 0
            have hzb := hbW.free 0
            simp only [List.getElem?_toArray, List.getElem?_cons_zero] at hcb
            have hp0 : (pre.length : Int) ≤ 4096 := by omega
            have hp1 : (0 : Int) ≤ (pre.length : Int) := by omega
            have hbW2 := Lib.hid hbW
            clear hbW
            gi_wp2
            have hTs : Turn (fun k => k = s0) W (W.setCell ⟨s0, 0, none⟩ (.int .i64 ((pre.length : Int) + 1))) := (Turn.refl _ W).set _ _ (.inr rfl)
            refine ⟨KeepsOthers.setCell _ _ _, ⟨fun k hk => Below.heap_setCell _ _ _ _ (fun e => by have := hXlt k hk; have e2 : k = s0 := e; omega), Below.heap_setCell _ _ _ _ (fun e => by have e2 : s0 + 1 = s0 := e; omega), Below.heap_setCell _ _ _ _ (fun e => by have e2 : s0 + 1 + 1 = s0 := e; omega)⟩, ?_, ?_⟩
            · exact hI.turned hTs (fun k hk e => by have := hXlt k hk; omega) (fun k hk e => by omega)
            · refine (hbW2.out.setAt 0 _).is ?_
              simp
          case done =>
            rintro D xs W hD hxs ⟨hI, hbW⟩ hK
            have hlen : xs.length = matesOf s.S (pg r) := by unfold matesOf; rw [← hxs, List.length_map]
            rw [hlen] at hbW
            have cG := hI.give (r : Int)
            rw [inS_nat, HR.out] at cG
            have hXs0 : ¬ (X.with lo).has s0 := fun hx => by have := hXlt s0 hx; omega
            gi_wp2_with fail
            refine ⟨trivial, fun h => (by cases h), ?_⟩
            refine (callsIn_wide.2 cG).mono ?_
            rintro e w4 ⟨rfl, lo4, hI4, hS4⟩
            have hK4 := keep_deferred hI.at_ hS4 hK
            obtain ⟨hb4, hX4⟩ := hbW.step hS4 hXs0
            have hcb := hb4.cell 0
            simp only [List.getElem?_toArray, List.getElem?_cons_zero] at hcb
            have hD4 : w.heap.size ≤ D := by omega
            clear cG hbW hK hS4 hI
            by_cases hm : matesOf s.S (pg r) = 1
            · have hlone := again_lone a1 HR.out hm
              rw [hm] at hcb
              have hcb1 : w4.cell? ⟨s0, 0, none⟩ = some (.int .i64 1) := hcb
              clear hcb hlen hm
              have cP := page_yes hI4.at_.toArMem r a1 (by rw [giveI_P]; exact HA2.out)
              have cC := class_any hI4.at_.toArMem ((pg r : Nat) : Int)
              rw [clsI_pg a1 (by rw [giveI_P]; exact HA2.out), hlone] at cC
              clear hlone
              gi_wp2_with fail
              refine ⟨trivial, fun h => (by cases h), ?_⟩
              refine (callsIn_wide.2 cP).mono ?_
              rintro e w' ⟨rfl, rfl⟩
              gi_wp2_with fail
              refine ⟨trivial, fun h => (by cases h), ?_⟩
              refine (callsIn_wide.2 cC).mono ?_
              rintro e w' ⟨rfl, rfl⟩
              clear cP cC
              gi_wp2_with fail
              refine ⟨by simp, .inl ⟨D, _, rfl, run_takeDeferred hK4, ?_⟩⟩
              exact ⟨_, results_tmp rfl _ _ _, rfl, take_end hK4 hD4 hI4.below⟩
            · have hmI : ((matesOf s.S (pg r) : Int) == 1) = false := not_eqb (by omega)
              obtain ⟨t1, t2⟩ := again_take hI4a.out HR.out hm
              rw [HCQ.out] at t1 t2
              have cT := hI4.take c
              rw [decide_eq_true t1] at cT
              have hcls := take_cls t1
              obtain ⟨_, q1, q2, _⟩ := seekF_is hI4.at_.fits t1
              have HCL := Lib.hid hcls
              generalize seekF (s.giveI (r : Int)) c = q at *
              clear t1 hm hcls hlen
              gi_wp2_with fail
              refine ⟨trivial, fun h => (by cases h), ?_⟩
              refine (callsIn_wide.2 cT).mono ?_
              rintro e w5 ⟨rfl, lo5, hI5, hS5⟩
              have hK5 := keep_deferred hI4.at_ hS5 hK4
              have cP := page_yes hI5.at_.toArMem q q1 (by rw [take_P]; exact q2)
              have cC := class_any hI5.at_.toArMem ((pg q : Nat) : Int)
              rw [clsI_pg q1 (by rw [take_P]; exact q2), HCL.out] at cC
              have hqr : (q : Int) ≤ (r : Int) := by omega
              clear cT hI4 hS5 hcb hmI
              gi_wp2_with fail
              refine ⟨trivial, fun h => (by cases h), ?_⟩
              refine (callsIn_wide.2 cP).mono ?_
              rintro e w' ⟨rfl, rfl⟩
              gi_wp2_with fail
              refine ⟨trivial, fun h => (by cases h), ?_⟩
              refine (callsIn_wide.2 cC).mono ?_
              rintro e w' ⟨rfl, rfl⟩
              clear cP cC
              gi_wp2_with fail
              refine ⟨by simp, .inl ⟨D, _, rfl, run_takeDeferred hK5, ?_⟩⟩
              exact ⟨_, results_tmp rfl _ _ _, rfl, take_end hK5 hD4 hI5.below⟩
          case stop =>
            intro D c pre W hD _ h _
            exact h.elim
end Go.Proofs.YtedgladjkfebmaaDoor
