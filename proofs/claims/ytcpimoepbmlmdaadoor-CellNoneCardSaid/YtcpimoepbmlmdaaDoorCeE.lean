/- CellNone, walked, at this seat's numbers. -/
import Derived.Test.YtcpimoepbmlmdaaDoorCeD
import Derived.Test.YtcpimoepbmlmdaaDoorArOa
namespace Go.Proofs.YtcpimoepbmlmdaaDoor
open Go Go.RowKit Go.Shelf Go.MuLone Go.RwLone
set_option linter.unusedSimpArgs false
set_option linter.unusedVariables false

theorem Filled.same {c : Int} {W C k : Nat} {s s' : ArS} (h : Filled c W C k s) (hP : s'.P = s.P) (hc : s'.cls = s.cls) (hS : s'.S = s.S) : Filled c W C k s' :=
  ⟨fun p hp => by rw [hc]; exact h.cls p (by omega), fun r => by rw [hS, hP]; exact h.set r⟩
theorem ListIn.step1 {B : Nat} {X : ArB} {s s' : ArS} {v : Value} {l : List Nat} {wb wr w' : World} (h : ListIn B X s v l wb wr) (h2 : Step1 B X s' wb wr w') : ∃ lo', ListIn B (X.with lo') s' v l wb w' ∧ ArStep X wr (X.with lo') w' := by
  obtain ⟨lo', h3, h4⟩ := h2
  exact ⟨lo', ⟨h3, h.refs.step h.ar.at_ h4⟩, h4⟩
def sliceLen : Value → Nat
  | .slice _ n _ => n
  | _ => 0
theorem RefsIn.sliceLen {B : Nat} {w : World} {v : Value} {l : List Nat} (h : RefsIn B w v l) : Go.Proofs.YtcpimoepbmlmdaaDoor.sliceLen v = l.length := by
  rcases h.is with ⟨rfl, rfl⟩ | ⟨g, cap, cur, rfl, _⟩ <;> rfl

/-- The objects of the list, each with its place as its number. -/
structure Alike (s : ArS) (k : Nat) (l : List Nat) : Prop where
  nodup : l.Nodup
  at_ : ∀ i (h : i < l.length), ObjAt s l[i] k (i : Int) (fun _ => 0)
theorem Alike.push {s : ArS} {k : Nat} {l : List Nat} (h : Alike s k l) (hF : Fits s) (he : newE s (k : Int) = 0) :
    Alike ((s.newS (k : Int)).setW ((newR s (k : Int) : Nat) : Int) 1 (l.length : Int)) k (l ++ [newR s (k : Int)]) := by
  have o := new_obj hF he
  have hne : ∀ r, r ∈ l → newR s (k : Int) ≠ r := fun r hr => by
    obtain ⟨i, hi, rfl⟩ := List.getElem_of_mem hr
    exact new_apart hF he (h.at_ i hi).S
  refine ⟨?_, fun i hi => ?_⟩
  · rw [List.nodup_append]
    refine ⟨h.nodup, by simp, fun a ha b hb => ?_⟩
    simp at hb
    subst hb
    exact fun e => hne a ha e.symm
  · by_cases e : i < l.length
    · rw [List.getElem_append_left e]
      exact ((h.at_ i e).new hF (k : Int)).otherSc (hF.newS _) o (hne _ (List.getElem_mem e)) _
    · have hi2 : i = l.length := by simp at hi; omega
      subst hi2
      simp
      exact o.setSc (hF.newS _) _

/-- Between two births. -/
def NoneRel (B : Nat) (X : ArB) (wb : World) (k : Nat) (c : Int) (W C : Nat) (v13 : Value) (wr : World) : Prop :=
  ∃ (lo : Option Nat) (s : ArS) (l : List Nat), ListIn B (X.with lo) s v13 l wb wr ∧ s.P = 1 ∧ l.length ≤ C ∧ Filled c W C l.length s ∧ Alike s k l
def NoneRel2 (B : Nat) (X : ArB) (s : ArS) (wb : World) (v : Value) (l : List Nat) (v89 : Value) (wr : World) : Prop :=
  ∃ (i : Nat), i ≤ l.length ∧ v89 = .int .i64 (i : Int) ∧ ListIn B X s v l wb wr

set_option maxRecDepth 100000 in
set_option maxHeartbeats 8000000 in
theorem none_true (n ix to : Int) (w : World) (hT : TableAt w) :
    Calls Tryd.prog 10 #[.int .i64 n, .int .i64 ix, .int .i64 to] w fun e w' => e = .returned (.bool true) ∧ Below w.heap.size w w' := by
  have hg := hT.lt
  have hf := cefit_true w hT
  obtain ⟨t, ht, hte⟩ := i64_and_mask n 255 (by decide)
  replace hte : bits .and .i64 n 255 = (t : Int) := hte
  obtain ⟨k, hk⟩ : ∃ k, k = t % 7 := ⟨_, rfl⟩
  have hk6 : k ≤ 6 := by omega
  have hkt : (t : Int).tmod 7 = (k : Int) := by rw [Int.tmod_eq_emod_of_nonneg (by omega)]; omega
  clear hk ht
  have k0 : (0 : Int) ≤ (k : Int) := by omega
  have k1 : (k : Int) ≤ 6 := by omega
  obtain ⟨c, hc⟩ : ∃ c, clsK (k : Int) = c := ⟨_, rfl⟩
  have hcok : okC c = true := by rw [← hc]; exact clsK_ok _
  obtain ⟨W, C, hWC, _⟩ := wc_of hcok
  have hC16 : C ≤ 16 := by rcases hWC.is with ⟨_, rfl⟩ | ⟨_, rfl⟩ | ⟨_, rfl⟩ <;> omega
  have hC0 : 0 < C := by rcases hWC.is with ⟨_, rfl⟩ | ⟨_, rfl⟩ | ⟨_, rfl⟩ <;> omega
  have HC := Lib.hid hc
  clear hc
  go_enter Tryd.func10, Tryd.ntmps10
  go_wp2_with fail
  refine hf.mono ?_
  rintro e w0 ⟨rfl, hB⟩
  clear hf
  go_wp2_with fail
  refine (new_in 1 1 (by decide) w.heap.size w _ hB (Nat.le_refl _) hT hg).mono ?_
  rintro e w1 ⟨X, rfl, h1, _, _⟩
  clear hB
  go_wp2_with fail
  refine (ceFieldNil h1 ix).mono ?_
  rintro e w2 ⟨rfl, hB⟩
  have h2 := h1.ask hB
  clear h1 hB
  go_wp2_with fail
  refine (ceScalarNil h2).mono ?_
  rintro e w3 ⟨rfl, hB⟩
  have h3 := h2.ask hB
  clear h2 hB
  go_wp2_with fail
  refine (ceSetFieldNil h3 ix to).mono ?_
  rintro e w4 ⟨rfl, lo4, h4, _⟩
  clear h3
  go_wp2_with fail
  refine (ceSetScalarNil h4 ix).mono ?_
  rintro e w5 ⟨rfl, lo5, h5, _⟩
  clear h4
  go_wp2_with fail
  refine (ceFields h5 0 0 (wordI_nil h5.at_.fits 0)).mono ?_
  rintro e w6 ⟨rfl, hB⟩
  have h6 := h5.ask hB
  clear h5 hB
  go_wp2_with fail
  clear hte hkt
  go_loopw [13] (fun v13 wr => NoneRel w.heap.size X w k c W C v13 wr) (fun v13 _ => 17 - sliceLen v13)
  case atStart => exact ⟨lo5, .new 1, [], ⟨h6, RefsIn.nil _ _⟩, rfl, Nat.zero_le _, filled_new _ _ _ _, List.nodup_nil, fun i h => absurd h (Nat.not_lt_zero _)⟩
  case round =>
    clear h6
    obtain ⟨lo, s, l, hL, hP, hlC, hfill, hal⟩ := hrel
    have HP := Lib.hid hP
    have hsl := hL.refs.sliceLen
    have HSL0 := Lib.hid hsl
    clear hP hsl
    by_cases hlt : l.length < C
    · have hs0 : seekF s c ≠ 0 := by rw [filled_seek hWC hfill (by rw [HP.out]; omega)]; omega
      have he : newE s (k : Int) = 0 := by rw [newE_mid k0 k1, HC.out, if_neg hs0]
      have hal2 := hal.push hL.ar.at_.fits he
      have o2 := new_obj hL.ar.at_.fits he
      have hfill2 : Filled c W C (l.length + 1) ((s.newS (k : Int)).setW ((newR s (k : Int) : Nat) : Int) 1 (l.length : Int)) := by
        refine (filled_take hWC hfill (by rw [HP.out]; omega)).same ?_ ?_ ?_
        · rw [setW_P, newS_P, take_P]
        · rw [setW_cls]; unfold ArS.newS; rw [if_neg (by omega), setW_cls, HC.out]
        · rw [setW_S]; unfold ArS.newS; rw [if_neg (by omega), setW_S, HC.out]
      have hP2 : ((s.newS (k : Int)).setW ((newR s (k : Int) : Nat) : Int) 1 (l.length : Int)).P = 1 := by rw [setW_P, newS_P]; exact HP.out
      have HP2 := Lib.hid hP2
      have cN := ceNewOk hL.ar (k : Int) (newR s (k : Int)) rfl he
      clear hP2 hfill hal hs0 he
      generalize newR s (k : Int) = x at *
      generalize s.newS (k : Int) = s2 at *
      go_wp2_with fail
      refine cN.mono ?_
      rintro e w7 ⟨rfl, hS7⟩
      obtain ⟨lo7, hL7, _⟩ := hL.step1 hS7
      clear cN hL hS7
      have hlr := hL7.refs.lenRun 3
      have hl0 : (0 : Int) ≤ (l.length : Int) := by omega
      have hl1 : (l.length : Int) < 16 := by omega
      go_wp2_with fail
      refine (ceSetScalarOk hL7.ar o2 (l.length : Int)).mono ?_
      rintro e w8 ⟨rfl, hS8⟩
      obtain ⟨lo8, hL8, _⟩ := hL7.step1 hS8
      clear hL7 hS8 hlr o2
      generalize s2.setW (x : Int) 1 (l.length : Int) = s3 at *
      have hL9 := hL8.alloc (.cells #[.int .i64 (x : Int)] 30)
      obtain ⟨m, hm⟩ : ∃ m, m = l.length + 1 := ⟨_, rfl⟩
      have hln : (l ++ [x]).length = m := by rw [hm]; simp
      have hl2 : (m : Int) ≤ 16 := by omega
      have HLN := Lib.hid hln
      have HM := Lib.hid hm
      clear hln hm hL8
      go_wp2_with (at_builtin; refine wpList_push rfl _ _ rfl hL9 (by omega) w8.heap.size 1 x ((Blk.new w8 _ _).cell 0) rfl rfl ?_; intro v' w10 hL10 _; have hlr := hL10.refs.lenRun 3; rw [HLN.out] at hlr; have hsl := hL10.refs.sliceLen; have HSL := Lib.hid hsl; clear hsl)
      go_roundw
      case rel => exact ⟨lo8, s3, l ++ [x], hL10, HP2.out, by rw [HLN.out]; have := HM.out; omega, by rw [HLN.out, HM.out]; exact hfill2, hal2⟩
      case measure => have e1 := HSL.out; have e2 := HSL0.out; have e3 := HLN.out; have e4 := HM.out; show 17 - sliceLen _ < 17 - sliceLen _; rw [e1, e2, e3]; omega
    · have hlE : l.length = C := by omega
      have hs0 : seekF s c = 0 := by
        have h9 : Filled c W C (s.P * C) s := by rw [HP.out, Nat.one_mul]; exact hlE ▸ hfill
        exact (filled_end hWC h9).1
      have he : newE s (k : Int) = 10 := by rw [newE_mid k0 k1, HC.out, if_pos hs0]
      have hn := newE_not hL.ar.at_.fits (k := (k : Int)) (by rw [he]; decide)
      have cN := ceNew hL.ar (k : Int)
      rw [he, hn.1, hn.2] at cN
      clear hs0 he hn hfill
      go_wp2_with fail
      refine cN.mono ?_
      rintro e w7 ⟨rfl, hS7⟩
      obtain ⟨lo7, hL7, _⟩ := hL.step1 hS7
      clear cN hL hS7
      have hlr := hL7.refs.lenRun 3
      have hl0 : (0 : Int) < (l.length : Int) := by omega
      clear hlE hlt
      go_wp2_with fail
      go_loopw [89] (fun v89 wr => NoneRel2 w.heap.size (X.with lo7) s w u13 l v89 wr) (fun v89 _ => l.length - (intOf v89).toNat)
      case atStart => exact ⟨0, Nat.zero_le _, rfl, hL7⟩
      case round =>
        clear hL7 hlr
        obtain ⟨i, hi, rfl, hL⟩ := hrel
        have hlr := hL.refs.lenRun 3
        have hi0 : (0 : Int) ≤ (i : Int) := by omega
        by_cases hil : i < l.length
        · have hi1 : (i : Int) < (l.length : Int) := by omega
          rcases hL.refs.is with ⟨_, rfl⟩ | ⟨g, cp, cur, rfl, hg2, hbl, hcp, hat⟩
          · exact absurd hil (by simp)
          have hcell := hat _ hil
          have o := hal.at_ i hil
          generalize l[i] = x at *
          clear hat hbl hcp
          go_wp2_with fail
          refine (ceScalarOk hL.ar o).mono ?_
          rintro e w8 ⟨rfl, hB⟩
          have hL8 := hL.ask hB
          clear hL hB hcell
          go_wp2_with fail
          refine (ceFieldsOk hL8.ar o).mono ?_
          rintro e w9 ⟨rfl, hB⟩
          have hL9 := hL8.ask hB
          clear hL8 hB
          go_wp2_with fail
          go_roundw
          case rel => exact ⟨i + 1, by omega, by go_num, hL9⟩
          case measure => simp [intOf]; omega
        · obtain rfl : i = l.length := by omega
          have hBl := hL.ar.below
          have hlp : 0 < l.length := by omega
          go_wp2_with fail
          go_ret
          exact ⟨rfl, hBl⟩
theorem none_frame (n : Int) (_ : (Lit.int .i64 n).wf = true) (ix : Int) (_ : (Lit.int .i64 ix).wf = true) (to : Int) (_ : (Lit.int .i64 to).wf = true) (w : World) (hT : TableAt w) :
    Calls Tryd.prog 10 #[.int .i64 n, .int .i64 ix, .int .i64 to] w fun e w' => e = .returned (.bool true) ∧ Below w.heap.size w w' := none_true n ix to w hT
end Go.Proofs.YtcpimoepbmlmdaaDoor
