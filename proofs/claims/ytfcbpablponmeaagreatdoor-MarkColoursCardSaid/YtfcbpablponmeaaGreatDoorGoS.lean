/- some, Reach, Small: what the law asks of a graph; at this seat's numbers. -/
import Derived.Test.YtfcbpablponmeaaGreatDoorGoW
import Derived.Test.YtfcbpablponmeaaGreatDoorGoR
import Derived.Deep.LoopGhost
namespace Go.Proofs.YtfcbpablponmeaaGreatDoor
open Go Go.RowKit Go.Shelf Go.MuLone Go.RwLone
set_option linter.unusedSimpArgs false
set_option linter.unusedVariables false
attribute [local go_sem] Oper.semAt_some

/-- The ones of raw numbers. -/
def someL (L : List Int) (zs : List Int) : List Int := if L.length = 0 then [] else zs.map fun z => L.getD (z.toNat % L.length) 0
theorem take_nextS {zs : List Int} {i : Nat} (h : i < zs.length) : zs.take (i + 1) = zs.take i ++ [zs.getD i 0] := by
  rw [List.take_add_one, List.getElem?_eq_getElem h]
  simp [List.getD, h]
theorem someL_next {L zs : List Int} {i : Nat} (h : i < zs.length) (hL : L.length ≠ 0) : someL L (zs.take (i + 1)) = someL L (zs.take i) ++ [L.getD ((zs.getD i 0).toNat % L.length) 0] := by
  unfold someL
  rw [if_neg hL, if_neg hL, take_nextS h, List.map_append]
  rfl
theorem someL_mem {L zs : List Int} {x : Int} (h : x ∈ someL L zs) : x ∈ L := by
  unfold someL at h
  by_cases e : L.length = 0
  · rw [if_pos e] at h; cases h
  · rw [if_neg e] at h
    obtain ⟨z, _, rfl⟩ := List.mem_map.1 h
    have hl : z.toNat % L.length < L.length := Nat.mod_lt _ (by omega)
    have e2 : L.getD (z.toNat % L.length) 0 = L[z.toNat % L.length] := by simp [List.getD, hl]
    rw [e2]; exact List.getElem_mem hl
theorem someL_length (L zs : List Int) : (someL L zs).length ≤ zs.length := by
  unfold someL
  split
  · simp
  · simp
def SomeA (B : Nat) (L zs : List Int) (w : World) (v5 v10 : Value) (wr : World) : Prop :=
  ∃ i : Nat, i ≤ zs.length ∧ v10 = .int .i64 (i : Int) ∧ RefRow wr v5 (someL L (zs.take i)) ∧ Below B w wr ∧ ∀ k, v5.ownBlock = some k → B ≤ k

set_option maxRecDepth 100000 in
set_option maxHeartbeats 4000000 in
theorem some_any (vl : Value) (L : List Int) (a1 : Option Addr) (zs : List Int) (cap : Nat) (w : World) (hL : RefRow w vl L) (hL4 : L.length ≤ 4096) (hz : zs.length ≤ 4096) (hA : BytesW w a1 zs) :
    Calls Tryz.prog 14 #[vl, .slice a1 zs.length cap] w fun e w' => ∃ v', e = .returned v' ∧ RefRow w' v' (someL L zs) ∧ Below w.heap.size w w' ∧ ∀ k, v'.ownBlock = some k → w.heap.size ≤ k := by
  have HA := Lib.hid hA
  clear hA
  have hl6 := hL.lenRun 3
  have h0 : RefRow w (.slice none 0 0) (someL L (zs.take 0)) := by
    have e : someL L (zs.take 0) = [] := by unfold someL; split <;> simp
    rw [e]; exact World.ownsRow_nil _ _ _ _
  obtain ⟨B, hB⟩ : ∃ B, B = w.heap.size := ⟨_, rfl⟩
  go_enter Tryz.func14, Tryz.ntmps14
  go_wp2_with fail
  go_loopw [5, 10] (fun v5 v10 wr => SomeA w.heap.size L zs w v5 v10 wr) (fun _ v10 _ => zs.length - (intOf v10).toNat)
  case atStart => exact ⟨0, Nat.zero_le _, rfl, h0, Below.refl _ _, fun k e => by cases e⟩
  case round =>
    clear h0 hB
    obtain ⟨i, hi, rfl, hR, hB, hN⟩ := hrel
    have hi0 : (0 : Int) ≤ (i : Int) := by omega
    by_cases hlt : i < zs.length
    · have hi1 : (i : Int) < (zs.length : Int) := by omega
      obtain ⟨bk, off, rfl, hbk, hq0, hwf⟩ := HA.out i hlt
      have hc0 := (hB.cell (p := ⟨bk, off + i, none⟩) hbk).trans hq0
      obtain ⟨z, hz9, hz256⟩ := u8_natW hwf
      rw [hz9] at hc0
      by_cases hn0 : L.length = 0
      · have hnI : ¬ (0 : Int) < (L.length : Int) := by omega
        have e1 : someL L (zs.take (i + 1)) = someL L (zs.take i) := by unfold someL; rw [if_pos hn0, if_pos hn0]
        have H := Lib.hid (And.intro hR (And.intro hB (And.intro hN e1)))
        clear hR hB hN e1 hn0 hq0 hwf hz9
        go_wp2_with fail
        go_roundw
        case rel => exact ⟨i + 1, hlt, by go_num, by rw [H.out.2.2.2]; exact H.out.1, H.out.2.1, H.out.2.2.1⟩
        case measure => simp [intOf]; omega
      · have hnI : (0 : Int) < (L.length : Int) := by omega
        have hnz : ¬ (L.length : Int) = 0 := by omega
        have hnzb : ((L.length : Int) == 0) = false := beq_eq_false_iff_ne.2 hnz
        obtain ⟨m, hm⟩ : ∃ m, m = z % L.length := ⟨_, rfl⟩
        have hmt : (z : Int).tmod (L.length : Int) = (m : Int) := by rw [Int.tmod_eq_emod_of_nonneg (by omega), hm]; omega
        have hml : m < L.length := by rw [hm]; exact Nat.mod_lt _ (by omega)
        have hmI : (m : Int) < (L.length : Int) := by omega
        have hm0 : (0 : Int) ≤ (m : Int) := by omega
        have e1 := someL_next (L := L) hlt hn0
        rw [hz9, Int.toNat_natCast, ← hm] at e1
        rcases (hL.turn (Turn.ofBelow hB) (fun k e e2 => Nat.lt_irrefl _ (Nat.lt_of_lt_of_le (hL.lt e) e2))).is with ⟨_, e⟩ | ⟨g, cp, cur, hv, hg, hlc, hcm, hcs, hcell⟩
        · rw [e] at hn0; exact absurd rfl hn0
        · have hcm9 := hcell m hml
          have e2 : L.getD m 0 = L[m] := by simp [List.getD, hml]
          rw [e2] at e1
          generalize L[m] = r at *
          have hb1 := (Below.refl wr.heap.size wr).alloc (Nat.le_refl _) (.cells #[.int .i64 r] 36)
          have hRa := hR.turn (Turn.ofBelow hb1) (fun k e e2 => Nat.lt_irrefl _ (Nat.lt_of_lt_of_le (hR.lt e) e2))
          have hls : (someL L (zs.take i)).length ≤ 100000 := by have := someL_length L (zs.take i); rw [List.length_take] at this; omega
          have H := Lib.hid (And.intro e1 (And.intro hB hN))
          have HL := Lib.hid hL
          clear hm hn0 e1 e2 hq0 hwf hz9 hg hlc hcm hcs hcell hN hR hB hb1 hL
          subst hv
          go_wp2_with (at_builtin; refine wpList_pushT rfl _ _ rfl hRa hls wr.heap.size 1 r ((Blk.new wr _ _).cell 0) rfl rfl ?_; intro g6 n6 c6 w6 hR6 hT6 hN6; have H6 := Lib.hid (And.intro hR6 (And.intro hT6 hN6)); clear hR6 hT6 hN6 hRa)
          go_roundw
          case rel =>
            obtain ⟨e1, hB, hN⟩ := H.out
            obtain ⟨hR6, hT6, hN6⟩ := H6.out
            refine ⟨i + 1, hlt, by go_num, by rw [e1]; exact hR6, ?_, fun k e => ?_⟩
            · exact (hB.alloc hB.size _).trans ((hT6.below _ (by simp; have := hB.size; omega) (fun k hk e => by have := hN k e; omega)))
            · have e2 := own_slice e
              subst e2
              rcases hN6 with e3 | e3
              · exact hN _ e3
              · simp at e3; have := hB.size; omega
          case measure => simp [intOf]; omega
    · have hi1 : ¬ (i : Int) < (zs.length : Int) := by omega
      obtain rfl : i = zs.length := by omega
      rw [List.take_length] at hR
      have H := Lib.hid (And.intro hR (And.intro hB hN))
      clear hlt hi hi0 hR hB hN
      go_wp2_with fail
      go_ret
      exact ⟨_, rfl, H.out.1, H.out.2.1, H.out.2.2⟩
end Go.Proofs.YtfcbpablponmeaaGreatDoor
