/- ArenaEmpty, walked, at this seat's numbers. -/
import Derived.Test.YtedgladjkfebmaaDoorArN
namespace Go.Proofs.YtedgladjkfebmaaDoor
open Go Go.RowKit Go.Shelf Go.MuLone Go.RwLone
set_option linter.unusedSimpArgs false
set_option linter.unusedVariables false

/-- Between two takes that are listed. -/
def TakeRel (B : Nat) (X : ArB) (wb : World) (len : Nat) (v8 v23 : Value) (wr : World) : Prop :=
  ∃ (k : Nat) (lo : Option Nat) (s : ArS) (l : List Nat), k ≤ len ∧ v23 = .int .i64 (k : Int) ∧ l.length ≤ k ∧ s.P = 3 ∧ ListIn B (X.with lo) s v8 l wb wr ∧ Holds1 s l

theorem ListIn.alloc {B : Nat} {X : ArB} {s : ArS} {v : Value} {l : List Nat} {wb wr : World} (h : ListIn B X s v l wb wr) (o : Obj) : ListIn B X s v l wb (wr.alloc o) := ⟨h.ar.alloc o, h.refs.alloc o⟩
theorem ListIn.ask {B : Nat} {X : ArB} {s : ArS} {v : Value} {l : List Nat} {wb wr w' : World} (h : ListIn B X s v l wb wr) (hB : Below wr.heap.size wr w') : ListIn B X s v l wb w' := ⟨h.ar.ask hB, h.refs.below hB⟩
theorem ListIn.take {B : Nat} {X : ArB} {s : ArS} {v : Value} {l : List Nat} {wb wr : World} (h : ListIn B X s v l wb wr) (c : Int) : Calls Tryd.prog 18 #[.pointer (some ⟨X.a, 0, none⟩), .int .i64 c] wr fun e w' =>
    e = .returned (.tuple #[.int .i64 ((seekF s c : Nat) : Int), .bool (decide (seekF s c ≠ 0))]) ∧ ∃ lo', ListIn B (X.with lo') (s.take c) v l wb w' ∧ ArStep X wr (X.with lo') w' :=
  (h.ar.take c).mono fun _ _ ⟨he, lo', h1, h2⟩ => ⟨he, lo', ⟨h1, h.refs.step h.ar.at_ h2⟩, h2⟩
theorem ListIn.give {B : Nat} {X : ArB} {s : ArS} {v : Value} {l : List Nat} {wb wr : World} (h : ListIn B X s v l wb wr) (r : Int) : Calls Tryd.prog 15 #[.pointer (some ⟨X.a, 0, none⟩), .int .i64 r] wr fun e w' =>
    e = .returned (.bool (inS s.S r)) ∧ ∃ lo', ListIn B (X.with lo') (s.giveI r) v l wb w' ∧ ArStep X wr (X.with lo') w' :=
  (h.ar.give r).mono fun _ _ ⟨he, lo', h1, h2⟩ => ⟨he, lo', ⟨h1, h.refs.step h.ar.at_ h2⟩, h2⟩

theorem nodup_at {l : List Nat} (hn : l.Nodup) (i j : Nat) (h : i < j) (hj : j < l.length) : l[i]? ≠ l[j]? := fun e => by
  rw [List.getElem?_eq_getElem (by omega), List.getElem?_eq_getElem hj] at e
  exact List.pairwise_iff_getElem.1 hn i j (by omega) hj h (Option.some.inj e)
/-- Those of the list that have not been given yet, i gives on. -/
def Left (s : ArS) (l : List Nat) (t i : Nat) : Prop := ∀ r, s.S r = true ↔ ∃ idx, idx < l.length ∧ l[idx]? = some r ∧ ∀ j, j < i → (j + t) % l.length ≠ idx
theorem left_first {s : ArS} {l : List Nat} (t : Nat) (h : Holds1 s l) : Left s l t 0 := fun r => by
  rw [h.iff r]
  constructor
  · intro hr
    obtain ⟨idx, hi, e⟩ := List.getElem_of_mem hr
    exact ⟨idx, hi, by rw [List.getElem?_eq_getElem hi, e], fun j hj => absurd hj (by omega)⟩
  · rintro ⟨idx, hi, e, _⟩
    rw [List.getElem?_eq_getElem hi] at e
    cases e
    exact List.getElem_mem hi
theorem mod_apart {i j t L : Nat} (hj : j < i) (hi : i < L) : (j + t) % L ≠ (i + t) % L := fun e => by
  have h := Nat.sub_mod_eq_zero_of_mod_eq e.symm
  rw [show i + t - (j + t) = i - j by omega, Nat.mod_eq_of_lt (by omega)] at h
  omega
theorem left_has {s : ArS} {l : List Nat} {t i r : Nat} (h : Left s l t i) (hi : i < l.length) (hr : l[(i + t) % l.length]? = some r) : s.S r = true :=
  (h r).2 ⟨(i + t) % l.length, Nat.mod_lt _ (by omega), hr, fun j hj => mod_apart hj hi⟩
theorem left_next {s : ArS} {l : List Nat} {t i r : Nat} (h : Left s l t i) (hn : l.Nodup) (hi : i < l.length) (hr : l[(i + t) % l.length]? = some r) : Left (s.giveI (r : Int)) l t (i + 1) := fun r' => by
  have hS := left_has h hi hr
  rw [giveI_nat hS]
  show dropN s.S r r' = true ↔ _
  have e : dropN s.S r r' = true ↔ s.S r' = true ∧ r' ≠ r := by simp [dropN]
  rw [e, h r']
  constructor
  · rintro ⟨⟨idx, h1, h2, h3⟩, hne⟩
    refine ⟨idx, h1, h2, fun j hj => ?_⟩
    by_cases x : j = i
    · subst x
      intro e2
      rw [e2, h2] at hr
      cases hr
      exact hne rfl
    · exact h3 j (by omega)
  · rintro ⟨idx, h1, h2, h3⟩
    refine ⟨⟨idx, h1, h2, fun j hj => h3 j (by omega)⟩, ?_⟩
    rintro rfl
    have hlt : (i + t) % l.length < l.length := Nat.mod_lt _ (by omega)
    have := nodup_at hn
    rcases Nat.lt_trichotomy idx ((i + t) % l.length) with x | x | x
    · exact this _ _ x hlt (by rw [h2, hr])
    · exact h3 i (by omega) x.symm
    · exact this _ _ x h1 (by rw [h2, hr])
theorem left_end {s : ArS} {l : List Nat} {t : Nat} (h : Left s l t l.length) (r : Nat) : s.S r = false := by
  cases e : s.S r with
  | false => rfl
  | true =>
    obtain ⟨idx, h1, h2, h3⟩ := (h r).1 e
    exfalso
    have hL : 0 < l.length := by omega
    have ht := Nat.mod_lt t hL
    refine h3 ((idx + (l.length - t % l.length)) % l.length) (Nat.mod_lt _ hL) ?_
    rw [Nat.mod_add_mod, show idx + (l.length - t % l.length) + t = idx + (l.length - t % l.length) + (t % l.length + l.length * (t / l.length)) by rw [Nat.mod_add_div],
      show idx + (l.length - t % l.length) + (t % l.length + l.length * (t / l.length)) = idx + l.length * (1 + t / l.length) by rw [Nat.mul_add]; omega, Nat.add_mul_mod_self_left, Nat.mod_eq_of_lt h1]
theorem free_all {s : ArS} (hF : Fits s) (h : ∀ r, s.S r = false) : ∀ p, p < s.P → s.cls p = -1 := fun p hp => by
  by_cases e : s.cls p = -1
  · exact e
  · obtain ⟨k, _, hk⟩ := usedIn_yes.1 (hF.used p hp e)
    rw [h] at hk; cases hk
theorem filled_free {s : ArS} (hF : Fits s) (h : ∀ r, s.S r = false) (c : Int) (W C : Nat) : Filled c W C 0 s :=
  ⟨fun p hp => by rw [free_all hF h p hp, if_neg (by omega)], fun r => ⟨fun x => (by rw [h r] at x; cases x), fun ⟨_, _, _, x⟩ => absurd x (Nat.not_lt_zero _)⟩⟩
/-- Between two gives. -/
def GiveRel (B : Nat) (X : ArB) (wb : World) (v : Value) (l : List Nat) (t : Nat) (v43 : Value) (wr : World) : Prop :=
  ∃ (i : Nat) (lo : Option Nat) (s : ArS), i ≤ l.length ∧ v43 = .int .i64 (i : Int) ∧ s.P = 3 ∧ ListIn B (X.with lo) s v l wb wr ∧ Left s l t i
/-- Between two takes at the end. -/
def FillRel (B : Nat) (X : ArB) (wb : World) (c : Int) (W C : Nat) (v14 : Value) (wr : World) : Prop :=
  ∃ (k : Nat) (lo : Option Nat) (s : ArS), k ≤ 3 * C ∧ v14 = .int .i64 (k : Int) ∧ s.P = 3 ∧ ArIn B (X.with lo) s wb wr ∧ Filled c W C k s

set_option maxRecDepth 100000 in
set_option maxHeartbeats 8000000 in
theorem empty_true (a0 : Option Addr) (len cap : Nat) (K N : Nat → Int) (turn cl : Int) (w : World) (_ : len ≤ 9223372036854775807) (hC : CallsAt w a0 len K N) (hT : TableAt w) :
    Calls Tryd.prog 10 #[.slice a0 len cap, .int .i64 turn, .int .i64 cl] w fun e w' => e = .returned (.bool true) ∧ Below w.heap.size w w' := by
  have hg := hT.lt
  have hf := fit_true w hT
  have HCA := Lib.hid hC
  clear hC
  by_cases hbig : 60 < (len : Int)
  · go_enter Tryd.func10, Tryd.ntmps10
    go_wp2_with fail
    refine hf.mono ?_
    rintro e w1 ⟨rfl, hB⟩
    go_wp2_with fail
    go_ret
    exact ⟨rfl, hB⟩
  · have hlen : len ≤ 60 := by omega
    go_enter Tryd.func10, Tryd.ntmps10
    go_wp2_with fail
    refine hf.mono ?_
    rintro e w1 ⟨rfl, hB⟩
    go_wp2_with fail
    refine (new_in 3 3 (by decide) w.heap.size w _ hB (Nat.le_refl _) hT hg).mono ?_
    rintro e w2 ⟨X, rfl, h2, _, _⟩
    clear hf hB
    go_wp2_with fail
    go_loopw [8, 23] (fun v8 v23 wr => TakeRel w.heap.size X w len v8 v23 wr) (fun _ v23 _ => len - (intOf v23).toNat)
    case atStart => exact ⟨0, X.lo, .new 3, [], Nat.zero_le _, rfl, Nat.le_refl _, rfl, ⟨h2, RefsIn.nil _ _⟩, holds_new 3⟩
    case round =>
      clear h2
      obtain ⟨k, lo, s, l, hk, rfl, hl, hsP, hL, hH⟩ := hrel
      have HSP := Lib.hid hsP
      clear hsP
      by_cases hlt : k < len
      · obtain ⟨bk, off, rfl, hbk, hc0, hc1, _, _⟩ := HCA.out k hlt
        replace hc0 := (hL.ar.below.cell (p := ⟨bk, off + k * 2, none⟩) hbk).trans hc0
        replace hc1 := (hL.ar.below.cell (p := ⟨bk, off + k * 2 + 1, none⟩) hbk).trans hc1
        have k0 : 0 ≤ (k : Int) := by omega
        have k1 : (k : Int) < (len : Int) := by omega
        obtain ⟨q, hq3, hq⟩ := i64_and_mask (K k) 3 (by decide)
        replace hq : bits .and .i64 (K k) 3 = (q : Int) := hq
        go_wp2_with fail
        clear hq
        have hL2 := hL.alloc (.cells #[.int .i64 (K k), .int .i64 (N k)] 29)
        have cT := hL2.take (q : Int)
        by_cases h0 : seekF s (q : Int) = 0
        · have hst := take_none h0
          rw [h0, natne_false, hst] at cT
          refine cT.mono ?_
          rintro e w3 ⟨rfl, lo3, hL3, _⟩
          clear cT hL2 hL h0 hst hc0 hc1
          go_wp2_with fail
          go_roundw
          case rel => exact ⟨k + 1, lo3, s, l, by omega, by go_num, by omega, HSP.out, hL3, hH⟩
          case measure => simp [intOf]; omega
        · have hH2 := hH.take hL.ar.at_.fits h0
          have hP2 : (s.take (q : Int)).P = 3 := by rw [take_P]; exact HSP.out
          have HP2 := Lib.hid hP2
          rw [decide_eq_true h0] at cT
          generalize seekF s (q : Int) = x at *
          refine cT.mono ?_
          rintro e w3 ⟨rfl, lo3, hL3, _⟩
          have hL4 := hL3.alloc (.cells #[.int .i64 (x : Int)] 30)
          clear cT hL2 hL h0 hc0 hc1 hL3 hP2
          go_wp2_with (at_builtin; refine wpList_push rfl _ _ rfl hL4 (by omega) w3.heap.size 1 x ((Blk.new w3 _ _).cell 0) rfl rfl ?_; intro v' w5 hL5 _)
          go_roundw
          case rel => exact ⟨k + 1, lo3, s.take (q : Int), l ++ [x], by omega, by go_num, by simp; omega, HP2.out, hL5, hH2⟩
          case measure => simp [intOf]; omega
      · obtain rfl : k = len := by omega
        have hlr := hL.refs.lenRun 3
        obtain ⟨t, ht, hte⟩ := i64_and_mask turn 4095 (by decide)
        replace hte : bits .and .i64 turn 4095 = (t : Int) := hte
        have hl0 : (0 : Int) ≤ (l.length : Int) := by omega
        have hH1 := Lib.hid hH
        go_wp2_with fail
        go_loopw [43] (fun v43 wr => GiveRel w.heap.size X w u8 l t v43 wr) (fun v43 _ => l.length - (intOf v43).toNat)
        case atStart => exact ⟨0, lo, s, Nat.zero_le _, rfl, HSP.out, hL, left_first t hH⟩
        case round =>
          clear hL hlr hH
          obtain ⟨i, lo2, s2, hi, rfl, hsP2, hL, hLf⟩ := hrel
          have HSP2 := Lib.hid hsP2
          clear hsP2
          have hlr := hL.refs.lenRun 3
          have hi0 : (0 : Int) ≤ (i : Int) := by omega
          by_cases hil : i < l.length
          · have hi1 : (i : Int) < (l.length : Int) := by omega
            obtain ⟨rr, hrr⟩ : ∃ rr, l[(i + t) % l.length]? = some rr := ⟨_, List.getElem?_eq_getElem (Nat.mod_lt _ (by omega))⟩
            have hmod : (i + t) % l.length < l.length := Nat.mod_lt _ (by omega)
            have hcast : ((i : Int) + (t : Int)) % (l.length : Int) = (((i + t) % l.length : Nat) : Int) := by rw [Int.natCast_emod, Int.natCast_add]
            have hcast2 : ((i : Int) + (t : Int)).tmod (l.length : Int) = (((i + t) % l.length : Nat) : Int) := by rw [Int.tmod_eq_emod_of_nonneg (by omega), hcast]
            rcases hL.refs.is with ⟨_, rfl⟩ | ⟨g, cp, cur, rfl, hg2, hbl, hcp, hat⟩
            · exact absurd hil (by simp)
            have hcell := hat _ hmod
            have hrr2 : l[(i + t) % l.length] = rr := by rw [List.getElem?_eq_getElem hmod] at hrr; exact Option.some.inj hrr
            rw [hrr2] at hcell
            have cG := hL.give (rr : Int)
            rw [inS_nat, left_has hLf hil hrr] at cG
            have hNx := left_next hLf hH1.out.nodup hil hrr
            have hm1 : (((i + t) % l.length : Nat) : Int) < (l.length : Int) := by omega
            have hm0 : (0 : Int) ≤ (((i + t) % l.length : Nat) : Int) := by omega
            have hLn : ¬ (l.length : Int) = 0 := by omega
            clear hrr hrr2 hmod hat
            generalize (i + t) % l.length = m at *
            clear hbl hcp
            go_wp2_with fail
            refine cG.mono ?_
            rintro e w4 ⟨rfl, lo4, hL4, _⟩
            clear cG hcell hcast hcast2 hm1 hm0 hLn
            go_wp2_with fail
            go_roundw
            case rel => exact ⟨i + 1, lo4, _, by omega, by go_num, by unfold ArS.giveI; split; rw [give_P]; exact HSP2.out; exact HSP2.out, hL4, hNx⟩
            case measure => simp [intOf]; omega
          · obtain rfl : i = l.length := by omega
            have hS := left_end hLf
            obtain ⟨r, hr, hre⟩ := i64_and_mask cl 255 (by decide)
            replace hre : bits .and .i64 cl 255 = (r : Int) := hre
            obtain ⟨c, hc⟩ : ∃ c : Int, (r : Int) % 3 = c := ⟨_, rfl⟩
            have hct : (r : Int).tmod 3 = c := by rw [Int.tmod_eq_emod_of_nonneg (by omega)]; exact hc
            have hok : okC c = true := okC_yes (by omega) (by omega)
            obtain ⟨W, C, hWC, hcells⟩ := wc_of hok
            have hC16 : C ≤ 16 := by rcases hWC.is with ⟨_, rfl⟩ | ⟨_, rfl⟩ | ⟨_, rfl⟩ <;> omega
            have HCE := Lib.hid hcells
            clear hcells
            have hfill := filled_free hL.ar.at_.fits hS c W C
            have hIn := hL.ar
            clear hL hLf hS hH1 hlr
            go_wp2_with fail
            clear hre hc hct
            go_loopw [14] (fun v14 wr => FillRel w.heap.size X w c W C v14 wr) (fun v14 _ => 3 * C - (intOf v14).toNat)
            case atStart => exact ⟨0, lo2, s2, Nat.zero_le _, rfl, HSP2.out, hIn, hfill⟩
            case round =>
              clear hIn hfill
              obtain ⟨n, lo3, s3, hn, rfl, hsP3, hIn, hfill⟩ := hrel
              have HSP3 := Lib.hid hsP3
              clear hsP3
              have cR := hIn.room c
              by_cases hnlt : n < 3 * C
              · have hF2 := filled_take hWC hfill (by rw [HSP3.out]; exact hnlt)
                have hr0 : seekF s3 c ≠ 0 := by rw [filled_seek hWC hfill (by rw [HSP3.out]; exact hnlt)]; omega
                rw [bne_iff_ne.2 (show ((seekF s3 c : Nat) : Int) ≠ 0 by omega)] at cR
                go_wp2_with fail
                refine cR.mono ?_
                rintro e w4 ⟨rfl, hB4⟩
                have hIn4 := hIn.ask hB4
                have cT := hIn4.take c
                clear cR hIn hB4 hr0
                go_wp2_with fail
                refine cT.mono ?_
                rintro e w5 ⟨rfl, lo5, hIn5, _⟩
                clear cT hIn4
                go_wp2_with fail
                go_roundw
                case rel => exact ⟨n + 1, lo5, s3.take c, by omega, by go_num, by rw [take_P]; exact HSP3.out, hIn5, hF2⟩
                case measure => simp [intOf]; omega
              · obtain rfl : n = 3 * C := by omega
                obtain ⟨hend, _⟩ := filled_end (s := s3) hWC (by rw [HSP3.out]; exact hfill)
                rw [hend] at cR
                clear hend
                go_wp2_with fail
                refine cR.mono ?_
                rintro e w4 ⟨rfl, hB4⟩
                have hIn4 := hIn.ask hB4
                have cC := cellsW c C w4 hIn4.tabAt HCE.out
                clear cR hIn hB4
                go_wp2_with fail
                refine cC.mono ?_
                rintro e w' ⟨rfl, rfl⟩
                clear cC
                go_wp2_with fail
                go_ret
                exact ⟨rfl, hIn4.below⟩
end Go.Proofs.YtedgladjkfebmaaDoor
