/- RootAnew, walked; at this seat's numbers. -/
import Derived.Test.YtoemfehlnnbjdaaRtH
namespace Go.Proofs.Ytoemfehlnnbjdaa
open Go Go.RowKit Go.Shelf
set_option linter.unusedSimpArgs false
set_option linter.unusedVariables false
attribute [local go_sem] Oper.semAt_some

theorem updT_self {th : Nat → Option TM} {i : Nat} {m : TM} (h : th i = some m) : updT th i (some ⟨m.t, m.f, m.st⟩) = th := by
  funext j
  by_cases e : j = i
  · subst e; rw [updT_at, h]
  · rw [updT_ne _ _ e]
theorem updT_upd (th : Nat → Option TM) (i : Nat) (a b : Option TM) : updT (updT th i a) i b = updT th i b := by
  funext j
  by_cases e : j = i
  · subst e; rw [updT_at, updT_at]
  · rw [updT_ne _ _ e, updT_ne _ _ e, updT_ne _ _ e]
section
variable {B t N : Nat} {F : Nat → Prop} {regs stk : Int} {gl : List Int} {th : Nat → Option TM} {wb wr w' : World}
theorem RtIn.pushAny (h : RtIn B F t N regs stk gl th wb wr) {i : Nat} {m : TM} (hi : th i = some m) (r : Int) : Calls Try.prog 20 #[.pointer (some ⟨m.t, 0, none⟩), .int .i64 r] wr fun e w' =>
    ∃ z st', e = .returned (.int .i64 z) ∧ st' = (if (m.st.length : Int) < stk then m.st ++ [r] else m.st) ∧ RtIn B F t N regs stk gl (updT th i (some ⟨m.t, m.f, st'⟩)) wb w' ∧ Keep F wr w' := by
  by_cases hr : (m.st.length : Int) < stk
  · refine (RtIn.at (Re := fun e => e = .returned (.int .i64 0)) h hi (fun F' hN => hN.push hr r)).mono ?_
    rintro e w1 ⟨rfl, h1, hk⟩
    exact ⟨_, _, rfl, by rw [if_pos hr], h1, hk⟩
  · refine (RtIn.read (Re := fun e => e = .returned (.int .i64 9)) h hi (fun hN => hN.pushNo (by omega) r)).mono ?_
    rintro e w1 ⟨rfl, h1, hk⟩
    exact ⟨_, m.st, rfl, by rw [if_neg hr], by rw [updT_self hi]; exact h1, hk⟩
theorem RtIn.setReg (h : RtIn B F t N regs stk gl th wb wr) {i : Nat} {m : TM} (hi : th i = some m) (c : Nat) (x : Int) (hx : x = c) (hc : x < regs) (r : Int) : Calls Try.prog 14 #[.pointer (some ⟨m.t, 0, none⟩), .int .i64 x, .int .i64 r] wr fun e w' =>
    e = .returned (.int .i64 0) ∧ RtIn B F t N regs stk gl (updT th i (some ⟨m.t, updR m.f c r, m.st⟩)) wb w' ∧ Keep F wr w' :=
  RtIn.at (Re := fun e => e = .returned (.int .i64 0)) h hi (fun F' hN => hN.setReg c x hx hc r)
end
theorem liveT_nil {th : Nat → Option TM} (h : ∀ i, th i = none) : ∀ n, liveT th n = []
  | 0 => rfl
  | n + 1 => by rw [liveT_none (h n), liveT_nil h n]
theorem updT_none {i : Nat} {m : Option TM} : updT (updT (fun _ => none) i m) i none = fun _ => none := by
  rw [updT_upd]
  funext j
  by_cases e : j = i
  · subst e; rw [updT_at]
  · rw [updT_ne _ _ e]
theorem allR_new (u n : Nat) (i : Nat) (G : Nat) : allR (List.replicate G 0) n (updT (fun _ => none) i (some ⟨u, fun _ => 0, []⟩)) = [] := by
  have h1 : nz (List.replicate G 0) = [] := by unfold nz; simp
  have h2 : ∀ p ∈ liveT (updT (fun _ => none) i (some ⟨u, fun _ => 0, []⟩)) 4, rootsP n p = [] := fun p hp => by
    have h3 := (liveT_mem hp).2
    by_cases e : p.1 = i
    · rw [e, updT_at] at h3
      have h4 := (Option.some.inj h3).symm
      unfold rootsP
      rw [h4]
      show rootsOf (fun _ => 0) n [] = []
      unfold rootsOf regRoots
      rw [segR_none (fun _ => rfl)]
      rfl
    · rw [updT_ne _ _ e] at h3; cases h3
  unfold allR
  rw [h1, List.nil_append, List.flatMap_eq_nil_iff]
  exact h2
theorem allR_none (n : Nat) (G : Nat) : allR (List.replicate G 0) n (fun _ => none) = [] := by
  unfold allR
  rw [liveT_nil (fun _ => rfl)]
  unfold nz; simp
def AnA (B t u b len : Nat) (wb : World) (v : Value) (wr : World) : Prop := ∃ (i : Nat) (f : Nat → Int) (st : List Int), i ≤ len ∧ v = .int .i64 (i : Int) ∧ RtIn B (fun _ => False) t 4 2 2 (List.replicate 2 0) (updT (fun _ => none) b (some ⟨u, f, st⟩)) wb wr

set_option maxRecDepth 100000 in
set_option maxHeartbeats 8000000 in
theorem anew_true (n : Int) (a0 : Option Addr) (zs : List Int) (cap : Nat) (w : World) (_ : zs.length ≤ 9223372036854775807) (hZ : RefsAtW w a0 zs) :
    Calls Try.prog 5 #[.int .i64 n, .slice a0 zs.length cap] w fun e w' => e = .returned (.bool true) ∧ Below w.heap.size w w' := by
  have HZ := Lib.hid hZ
  clear hZ
  obtain ⟨M, hM⟩ : ∃ M : Nat, 14 ≤ M := ⟨14, Nat.le_refl _⟩
  obtain ⟨b, hb3, hbe⟩ := i64_and_mask n 3 (by decide)
  replace hbe : bits .and .i64 n 3 = (b : Int) := hbe
  have hb4 : b < 4 := by omega
  refine calls_of_wp_marks Try.func5 rfl M ?_
  simp only [Try.ntmps5, List.size_toArray, List.length_cons, List.length_nil, Nat.reduceAdd, Nat.reduceSub, Array.replicate_succ, Array.replicate_zero, List.push_toArray, List.append_toArray, List.nil_append, List.cons_append]
  gi_wp2_with fail
  refine ⟨trivial, fun h => (by cases h), ?_⟩
  have hR := Blk.new w #[.bool false] 4
  have hBb := (Below.refl w.heap.size w).alloc (Nat.le_refl _) (.cells #[.bool false] 4)
  have hsb : (w.alloc (.cells #[.bool false] 4)).heap.size = w.heap.size + 1 := by simp
  generalize w.alloc (.cells #[.bool false] 4) = wb at *
  refine (callsIn_wide.2 (rtfit_true wb)).mono ?_
  rintro e w1 ⟨rfl, hB⟩
  have hR1 : w1.cell? ⟨w.heap.size, 0, none⟩ = some (.bool false) := (hB.cell (p := ⟨w.heap.size, 0, none⟩) hR.lt).trans (hR.cell 0)
  have hZ1 : w1.frozen? ⟨w.heap.size, 0, none⟩ = false := (hB.frozen (p := ⟨w.heap.size, 0, none⟩) hR.lt).trans (hR.free 0)
  by_cases hbig : 20 < (zs.length : Int)
  · gi_wp2_with fail
    refine ⟨.bool true, ?_, rfl, (hBb.trans (hB.mono (by omega))).setCell (p := ⟨w.heap.size, 0, none⟩) (by show w.heap.size ≤ w.heap.size; omega) (.bool true)⟩
    have hc := World.cell?_setCell_same w1 ⟨w.heap.size, 0, none⟩ (.bool true) hR1
    simp [results, Try.f5, go_sem, hc]
  clear hR1 hZ1
  gi_wp2_with fail
  refine ⟨trivial, fun h => (by cases h), ?_⟩
  refine (callsIn_wide.2 (config_any 3 2 3 2 (by omega) (by omega) rfl rfl w1)).mono ?_
  rintro e w2 ⟨rfl, hB2⟩
  have hB2' := hB.trans (hB2.mono hB.size)
  clear hB hB2
  gi_wp2_with fail
  refine ⟨trivial, fun h => (by cases h), ?_⟩
  refine (callsIn_wide.2 (rtIn_new (B := wb.heap.size) (F := fun _ => False) (wb := wb) (wr := w2) (1 + 3) 2 2 2 (by omega) (by omega) (by decide) (by decide) (fun k hk => hk.elim) hB2' (Nat.le_refl _))).mono ?_
  rintro e w3 ⟨t, rfl, h3, _⟩
  clear hB2'
  gi_wp2_with fail
  refine ⟨trivial, fun h => (by cases h), ?_⟩
  refine (callsIn_wide.2 (h3.spawn b hb4 rfl (b : Int) rfl)).mono ?_
  rintro e w4 ⟨rfl, ⟨u, h4⟩, _⟩
  clear h3
  have cO : Calls Try.prog 13 #[.pointer (some ⟨t, 0, none⟩), .int .i64 (b : Int)] w4 fun e w' => e = .returned (.pointer (some ⟨u, 0, none⟩)) ∧ w4 = w' := by
    have := h4.of (b : Int)
    rw [atI_nat, updT_at] at this
    exact this
  gi_wp2_with fail
  refine ⟨trivial, fun h => (by cases h), ?_⟩
  refine (callsIn_wide.2 cO).mono ?_
  rintro e w5 ⟨rfl, rfl⟩
  clear cO
  gi_wp2_with fail
  gi_loopw [28] (fun v28 wr => AnA wb.heap.size t u b zs.length wb v28 wr) (fun v28 _ => zs.length - (intOf v28).toNat)
  case atStart => exact ⟨0, _, [], Nat.zero_le _, rfl, h4⟩
  case round =>
    clear h4
    obtain ⟨i, f, st, hi, rfl, h1⟩ := hrel
    have hi0 : (0 : Int) ≤ (i : Int) := by omega
    by_cases hlt : i < zs.length
    · have hi1 : (i : Int) < (zs.length : Int) := by omega
      obtain ⟨bk, off, rfl, hbk, hc0, hwf⟩ := HZ.out i hlt
      have hc := ((hBb.trans (h1.below.mono (by omega))).cell (p := ⟨bk, off + i, none⟩) hbk).trans hc0
      generalize zs.getD i 0 = r at *
      obtain ⟨c, hc1, hce⟩ := i64_and_mask (i : Int) 1 (by decide)
      replace hce : bits .and .i64 (i : Int) 1 = (c : Int) := hce
      have cS := h1.setReg (i := b) (m := ⟨u, f, st⟩) (updT_at _ _ _) c (c : Int) rfl (by omega) r
      rw [updT_upd] at cS
      clear hc0 hwf
      gi_wp2_with fail
      refine ⟨trivial, fun h => (by cases h), ?_⟩
      refine (callsIn_wide.2 cS).mono ?_
      rintro e w6 ⟨rfl, h6, _⟩
      clear cS h1 hc
      have cP := h6.pushAny (i := b) (m := ⟨u, updR f c r, st⟩) (updT_at _ _ _) r
      simp only [updT_upd] at cP
      gi_wp2_with fail
      refine ⟨trivial, fun h => (by cases h), ?_⟩
      refine (callsIn_wide.2 cP).mono ?_
      rintro e w7 ⟨z, st', rfl, _, h7, _⟩
      clear cP h6
      gi_wp2_with fail
      go_roundw
      case rel => exact ⟨i + 1, _, st', hlt, by go_num, h7⟩
      case measure => simp [intOf]; omega
    · have hi1 : ¬ (i : Int) < (zs.length : Int) := by omega
      clear hlt hi hi0
      have hs1 := h1.size
      have cE := h1.exit b (updT_at _ _ _) (b : Int) rfl
      rw [updT_none] at cE
      gi_wp2_with fail
      refine ⟨trivial, fun h => (by cases h), ?_⟩
      refine (callsIn_wide.2 cE).mono ?_
      rintro e w6 ⟨rfl, h6, _⟩
      clear cE h1
      gi_wp2_with fail
      refine ⟨trivial, fun h => (by cases h), ?_⟩
      refine (callsIn_wide.2 (h6.live (b : Int) false (by rw [atI_nat]; rfl))).mono ?_
      rintro e w7 ⟨rfl, rfl⟩
      gi_wp2_with fail
      refine ⟨trivial, fun h => (by cases h), ?_⟩
      refine (callsIn_wide.2 (h6.exitNo (b : Int) (by rw [atI_nat]; rfl))).mono ?_
      rintro e w7 ⟨rfl, rfl⟩
      gi_wp2_with fail
      refine ⟨trivial, fun h => (by cases h), ?_⟩
      refine (callsIn_wide.2 (rootallfn_any t _)).mono ?_
      rintro e w' ⟨rfl, rfl⟩
      have hs6 := h6.size
      have h7 := h6.alloc (.cells #[.pointer (some ⟨t, 0, none⟩)] 27)
      have hx7 := (Blk.new w6 #[.pointer (some ⟨t, 0, none⟩)] 27).cell 0
      have hs7 : (w6.alloc (.cells #[.pointer (some ⟨t, 0, none⟩)] 27)).heap.size = w6.heap.size + 1 := by simp
      clear h6
      have HX7 := Lib.hid hx7
      have HS7 := Lib.hid hs7
      clear hx7 hs7
      gi_wp2_with fail
      have hx7 := HX7.out
      have hs7 := HS7.out
      clear HX7 HS7
      generalize w6.alloc (.cells #[.pointer (some ⟨t, 0, none⟩)] 27) = V7 at *
      obtain ⟨R, hRt, hA, hF⟩ := h7.ex
      have hlt := hA.lt
      rw [← hRt] at hx7
      have hbw7 := h7.below
      refine wpIn_rangeT rfl (by omega) (gf := 35) (lb := #[.pointer (some ⟨w6.heap.size, 0, none⟩)]) rfl trivial (enters_of Try.func35 (by kernel_rfl) rfl)
        (all_seqR (M - 1) (by omega) w6.heap.size V7 hA hx7) KpRt.trans (fun W l o o' hl ho hc => KpRt.putObj hlt (by omega) W l o o' hl ho hc) (Below.refl _ _) (fun _ => rfl)
        (fun st V => Below V7.heap.size V7 V) (fun c st V => True)
        (ownFrom_below (Nat.le_refl _) (Nat.le_refl _)) (fun c st A C row hs hg hr => hs)
        (Below.refl _ _) ?a1 ?assign ?body ?done ?stop
      case assign =>
        intro l0 x W K hK
        gi_wp2
        exact hK
      case body =>
        rintro l0 pre O x V hl0 _ hO hbl hlen
        have hblW := hbw7.trans (hbl.mono (by omega))
        have hRW : V.cell? ⟨w.heap.size, 0, none⟩ = some (.bool false) := (hblW.cell (p := ⟨w.heap.size, 0, none⟩) hR.lt).trans (hR.cell 0)
        have hZW : V.frozen? ⟨w.heap.size, 0, none⟩ = false := (hblW.frozen (p := ⟨w.heap.size, 0, none⟩) hR.lt).trans (hR.free 0)
        gi_wp2_with fail
        exact ⟨O, OwnedT.ofTurn (M := fun k => k = w.heap.size) ((Turn.refl _ V).set _ _ (.inr rfl)) (fun k e => by have e2 : k = w.heap.size := e; omega), trivial⟩
      case stop =>
        rintro D c pre O V hD ⟨hne, hpre⟩ _ hK
        rw [allR_none] at hpre
        exact absurd (List.prefix_nil.1 hpre) hne
      case done =>
        rintro D xs O V hD hO _ hbl hK
        have h8 := h7.add (F' := fun k => k = D) hbl (fun k hk => by
          have e2 : k = D := hk
          exact .inr ⟨by omega, by have := (Array.getElem?_eq_some_iff.mp hK).1; omega⟩)
        clear h7 hA hF hlt hx7 hbl hO hbw7
        gi_wp2_with fail
        refine ⟨trivial, fun h => (by cases h), ?_⟩
        refine (callsIn_wide.2 (h8.spawn b hb4 rfl (b : Int) rfl)).mono ?_
        rintro e w9 ⟨rfl, ⟨u2, h9⟩, hk9⟩
        have hK9 := (hk9.block D rfl).trans hK
        clear h8 hk9
        have cO : Calls Try.prog 13 #[.pointer (some ⟨t, 0, none⟩), .int .i64 (b : Int)] w9 fun e w' => e = .returned (.pointer (some ⟨u2, 0, none⟩)) ∧ w9 = w' := by
          have := h9.of (b : Int)
          rw [atI_nat, updT_at] at this
          exact this
        gi_wp2_with fail
        refine ⟨trivial, fun h => (by cases h), ?_⟩
        refine (callsIn_wide.2 cO).mono ?_
        rintro e w10 ⟨rfl, rfl⟩
        gi_wp2_with fail
        refine ⟨trivial, fun h => (by cases h), ?_⟩
        refine (callsIn_wide.2 cO).mono ?_
        rintro e w10 ⟨rfl, rfl⟩
        clear cO
        have cD := RtIn.read (Re := fun e => e = .returned (.int .i64 0)) h9 (i := b) (m := ⟨u2, fun _ => 0, []⟩) (updT_at _ _ _) (fun hN => hN.depth.mono fun e w' ⟨he, hw⟩ => ⟨he, hw ▸ Below.refl _ _⟩)
        gi_wp2_with fail
        refine ⟨trivial, fun h => (by cases h), ?_⟩
        refine (callsIn_wide.2 cD).mono ?_
        rintro e w10 ⟨rfl, h10, hk10⟩
        have hK10 := (hk10.block D rfl).trans hK9
        clear cD h9 hk10 hK9
        gi_wp2_with fail
        refine ⟨trivial, fun h => (by cases h), ?_⟩
        refine (callsIn_wide.2 (rootallfn_any t _)).mono ?_
        rintro e w' ⟨rfl, rfl⟩
        have hs10 := h10.size
        have hDl10 : D < w10.heap.size := (Array.getElem?_eq_some_iff.mp hK10).1
        have h11 := h10.alloc (.cells #[.pointer (some ⟨t, 0, none⟩)] 27)
        have hx11 := (Blk.new w10 #[.pointer (some ⟨t, 0, none⟩)] 27).cell 0
        have hs11 : (w10.alloc (.cells #[.pointer (some ⟨t, 0, none⟩)] 27)).heap.size = w10.heap.size + 1 := by simp
        have hK11 : (w10.alloc (.cells #[.pointer (some ⟨t, 0, none⟩)] 27)).heap[D]? = some (.deferred (some [])) := (Below.heap_alloc _ _ _ hDl10).trans hK10
        have HX11 := Lib.hid hx11
        have HS11 := Lib.hid hs11
        have HK11 := Lib.hid hK11
        clear h10 hx11 hs11 hK11
        gi_wp2_with fail
        have hx11 := HX11.out
        have hs11 := HS11.out
        have hK11 := HK11.out
        clear HX11 HS11 HK11
        generalize w10.alloc (.cells #[.pointer (some ⟨t, 0, none⟩)] 27) = V11 at *
        obtain ⟨R2, hRt2, hA2, hF2⟩ := h11.ex
        have hlt2 := hA2.lt
        rw [← hRt2] at hx11
        have hbw11 := h11.below
        refine wpIn_rangeT rfl (by omega) (gf := 35) (lb := #[.pointer (some ⟨w10.heap.size, 0, none⟩)]) rfl trivial (enters_of Try.func35 (by kernel_rfl) rfl)
          (all_seqR (M - 1) (by omega) w10.heap.size V11 hA2 hx11) KpRt.trans (fun W l o o' hl ho hc => KpRt.putObj hlt2 (by omega) W l o o' hl ho hc) (Below.refl _ _) (fun _ => rfl)
          (fun st V => Below V11.heap.size V11 V) (fun c st V => True)
          (ownFrom_below (Nat.le_refl _) (Nat.le_refl _)) (fun c st A C row hs hg hr => hs)
          (Below.refl _ _) ?b1 ?assign2 ?body2 ?done2 ?stop2
        case assign2 =>
          intro l0 x W K hK
          gi_wp2
          exact hK
        case body2 =>
          rintro l0 pre O x V2 hl0 _ hO hbl hlen
          have hblW := hbw11.trans (hbl.mono (by omega))
          have hRW : V2.cell? ⟨w.heap.size, 0, none⟩ = some (.bool false) := (hblW.cell (p := ⟨w.heap.size, 0, none⟩) hR.lt).trans (hR.cell 0)
          have hZW : V2.frozen? ⟨w.heap.size, 0, none⟩ = false := (hblW.frozen (p := ⟨w.heap.size, 0, none⟩) hR.lt).trans (hR.free 0)
          gi_wp2_with fail
          exact ⟨O, OwnedT.ofTurn (M := fun k => k = w.heap.size) ((Turn.refl _ V2).set _ _ (.inr rfl)) (fun k e => by have e2 : k = w.heap.size := e; omega), trivial⟩
        case stop2 =>
          rintro D2 c pre O V2 hD2 ⟨hne, hpre⟩ _ _
          rw [allR_new] at hpre
          exact absurd (List.prefix_nil.1 hpre) hne
        case done2 =>
          rintro D2 xs O V2 hD2 hO _ hbl hKD
          have h12 := h11.ask hbl
          have hDl2 : D2 < V2.heap.size := (Array.getElem?_eq_some_iff.mp hKD).1
          have hKD1 := (hbl.block D (by omega)).trans hK11
          have hsz2 := hbl.size
          have hlen1 : (liveT (updT (fun _ => none) b (some ⟨u2, fun _ => 0, []⟩)) 4).length = 1 := by
            have c : b = 0 ∨ b = 1 ∨ b = 2 ∨ b = 3 := by omega
            rcases c with rfl | rfl | rfl | rfl <;> rfl
          have cC := h12.count 1 hlen1
          have hMM : Marks w.heap.size (D2 + 1) [{ target := .collected D2, args := #[] }, { target := .collected D, args := #[] }] V2 := ⟨D2, rfl, by omega, by omega, hKD, D, rfl, by omega, by omega, hKD1, trivial⟩
          have hbl12 := h12.below
          clear h11 hA2 hF2 hlt2 hx11 hbl hO hbw11 hlen1 hKD hKD1 h12 hK11
          gi_wp2_with fail
          refine ⟨trivial, fun h => (by cases h), ?_⟩
          refine (callsIn_wide.2 cC).mono ?_
          rintro e w13 ⟨rfl, hB13⟩
          have hs13 := hB13.size
          have hbl13 := hbl12.trans (hB13.mono (by omega))
          have hRW : w13.cell? ⟨w.heap.size, 0, none⟩ = some (.bool false) := (hbl13.cell (p := ⟨w.heap.size, 0, none⟩) hR.lt).trans (hR.cell 0)
          have hZW : w13.frozen? ⟨w.heap.size, 0, none⟩ = false := (hbl13.frozen (p := ⟨w.heap.size, 0, none⟩) hR.lt).trans (hR.free 0)
          have hBW9 := (hBb.trans (hbl13.mono (by omega))).setCell (p := ⟨w.heap.size, 0, none⟩) (by show w.heap.size ≤ w.heap.size; omega) (.bool true)
          have hR9 : (w13.setCell ⟨w.heap.size, 0, none⟩ (.bool true)).cell? ⟨w.heap.size, 0, none⟩ = some (.bool true) := World.cell?_setCell_same _ _ _ hRW
          have hs9 : D2 + 1 ≤ (w13.setCell ⟨w.heap.size, 0, none⟩ (.bool true)).heap.size := by simp; omega
          have hM9 : Marks w.heap.size (D2 + 1) [{ target := .collected D2, args := #[] }, { target := .collected D, args := #[] }] (w13.setCell ⟨w.heap.size, 0, none⟩ (.bool true)) := hMM.keep fun i0 h0 h1 h2 => (Below.heap_setCell _ _ _ _ (fun e => by
            have e2 : i0 = w.heap.size := e
            have h5 : V2.heap[w.heap.size]? = some (.cells #[.bool false] 4 (0, 0)) := (hbl12.block _ hR.lt).trans hR
            rw [e2, h5] at h2
            cases h2)).trans ((hB13.block i0 (Array.getElem?_eq_some_iff.1 h2).1).trans h2)
          have hRl : w.heap.size < (w13.setCell ⟨w.heap.size, 0, none⟩ (.bool true)).heap.size := by simp; omega
          clear hMM hB13 cC hbl12 hbl13
          gi_wp2_with fail
          generalize w13.setCell ⟨w.heap.size, 0, none⟩ (.bool true) = V8 at *
          refine leavesP_marks hM9 (by omega) fun w' hb _ hcs => ?_
          have hRF := hcs ⟨w.heap.size, 0, none⟩ _ hRl hR9
          refine ⟨.bool true, ?_, rfl, hBW9.trans hb⟩
          simp [results, Try.f5, go_sem, hRF]
end Go.Proofs.Ytoemfehlnnbjdaa
