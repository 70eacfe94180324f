/- BitsRuns, walked, at this seat's numbers: one round. -/
import Derived.Test.YtbahichdoafliaaDoorRunIn
import Derived.Test.YtbahichdoafliaaDoorArgsB
import Derived.Deep.RegionHeld3
import Derived.IntWalk
namespace Go.Proofs.YtbahichdoafliaaDoor
open Go.RowKit Go.Shelf Go.MuLone Go.RwLone Go.Maps
attribute [local go_sem] Oper.semAt_some

/-- What holds at the head of the loop. -/
def RunRel (B a m ib : Nat) (wb : World) (len : Nat) (c : Value) (wr : World) : Prop :=
  ∃ (k : Nat) (la : Option Nat) (mb cnt : Nat) (S : Nat → Bool), k ≤ len ∧ c = .int .i64 (k : Int) ∧ cnt ≤ k ∧ RunIn B a la m ib mb cnt wb wr S S

theorem how_cases (v : Int) : (v == 255) = true ∨ ((v == 255) = false ∧ (bits .and .u8 v 1 == 1) = true) ∨ ((v == 255) = false ∧ (bits .and .u8 v 1 == 1) = false) := by
  cases hv : (v == 255) with
  | true => exact .inl rfl
  | false => cases hb : (bits .and .u8 v 1 == 1) with
    | true => exact .inr (.inl ⟨rfl, rfl⟩)
    | false => exact .inr (.inr ⟨rfl, rfl⟩)
theorem x_cases (x : Int) (m : Nat) : x < 0 ∨ (0 ≤ x ∧ (m : Int) ≤ x) ∨ (0 ≤ x ∧ x < m) := by omega

set_option maxRecDepth 100000 in
set_option maxHeartbeats 8000000 in
theorem runs_true (n : Int) (a1 : Option Addr) (zs : List Int) (cap1 : Nat) (a2 : Option Addr) (ds : List Int) (cap2 : Nat) (w : World) (hl1 : zs.length ≤ 9223372036854775807) (_ : ds.length ≤ 9223372036854775807) (hz1 : IntsAtW w a1 zs) (hz2 : BytesAt w a2 ds) (hT : TabAt w) :
    Calls Tryd.prog 3 #[.int .i64 n, .slice a1 zs.length cap1, .slice a2 ds.length cap2] w fun e w' => e = .returned (.bool true) ∧ Below w.heap.size w w' := by
  have H1 : Hid (IntsAt w a1 zs) := hz1.1
  have H2 : Hid (∀ k, k < zs.length → (Lit.int .i64 (zs.getD k 0)).wf = true) := hz1.2
  have H3 : Hid (BytesAt w a2 ds) := hz2
  clear hz1 hz2
  have hmm := @run_makeMap Tryd.prog
  obtain ⟨N, h1⟩ : ∃ N : Nat, 6 ≤ N := ⟨6, Nat.le_refl _⟩
  refine calls_of_wp_marks Tryd.func3 rfl N ?_
  simp only [Tryd.ntmps3, List.size_toArray, List.length_cons, List.length_nil, Nat.reduceAdd, Nat.reduceSub, Array.replicate_succ, Array.replicate_zero, List.push_toArray, List.append_toArray, List.nil_append, List.cons_append]
  gi_wp2_with fail
  refine ⟨trivial, fun h => (by cases h), ?_⟩
  have hR := Blk.new w #[.bool false] 4
  have hsb : (w.alloc (.cells #[.bool false] 4)).heap.size = w.heap.size + 1 := by simp
  have hBb := (Below.refl w.heap.size w).alloc (Nat.le_refl _) (.cells #[.bool false] 4)
  have hTb : TabAt (w.alloc (.cells #[.bool false] 4)) := fun j hj => cell_allocKeep (hT j hj) _
  clear hT
  generalize w.alloc (.cells #[.bool false] 4) = wb at *
  refine (callsIn_wide.2 (fit_true _)).mono ?_
  rintro e w1 ⟨rfl, hB⟩
  have hR1 : w1.cell? ⟨w.heap.size, 0, none⟩ = some (.bool false) := (hB.cell (p := ⟨w.heap.size, 0, none⟩) hR.lt).trans (hR.cell 0)
  have hZ1 : w1.frozen? ⟨w.heap.size, 0, none⟩ = false := (hB.frozen (p := ⟨w.heap.size, 0, none⟩) hR.lt).trans (hR.free 0)
  by_cases hbig : 300 < (zs.length : Int)
  · gi_wp2_with fail
    refine ⟨.bool true, ?_, rfl, (hBb.trans (hB.mono (by omega))).setCell (p := ⟨w.heap.size, 0, none⟩) (Nat.le_refl _) (.bool true)⟩
    have hc := World.cell?_setCell_same w1 ⟨w.heap.size, 0, none⟩ (.bool true) hR1
    simp [results, Tryd.f3, go_sem, hc]
  clear hR1 hZ1
  gi_wp2_with fail
  refine ⟨trivial, fun h => (by cases h), ?_⟩
  refine (callsIn_wide.2 (size_any n _)).mono ?_
  rintro e w' ⟨m, hm, rfl, rfl⟩
  gi_wp2_with fail
  refine ⟨trivial, fun h => (by cases h), ?_⟩
  refine (callsIn_wide.2 (new_at _ (by omega) _ m (by omega))).mono ?_
  rintro e w2 ⟨a, ha, rfl, hA, hTn⟩
  have hs := hB.size
  have ho : OwnSet wb.heap.size a none := ⟨by omega, fun l e => (by cases e)⟩
  replace hB := hB.trans (hTn.below wb.heap.size (by omega) (fun _ _ h => h))
  clear hTn hs ha
  gi_wp2_with fail
  have hRun : RunIn wb.heap.size a none m (w2.heap.size + 1) w2.heap.size 0 wb ((w2.alloc (.map #[] 0)).alloc (.cells #[.map (some w2.heap.size)] 28)) (fun _ => false) (fun _ => false) := by
    have hTT : Turn (fun _ => False) w2 ((w2.alloc (.map #[] 0)).alloc (.cells #[.map (some w2.heap.size)] 28)) := ((Turn.refl (fun _ => False) w2).alloc _).alloc _
    have hlt := hA.lt.1
    have hsz := hB.size
    refine ⟨hA.turn hTT (fun h => h) (fun _ _ h => h), ho, ?_, ?_, by omega, fun h => (by cases h), by omega, by omega, fun h => (by cases h), hsz, hB.trans (hTT.below wb.heap.size hsz (fun _ _ h => h)), Nat.le_refl _⟩
    · have := Blk.new (w2.alloc (.map #[] 0)) #[.map (some w2.heap.size)] 28
      simpa using this
    · exact (MapOf.made w2).turn ((Turn.refl (fun _ => False) _).alloc _) (fun h => h)
  clear hA ho hB
  generalize (w2.alloc (.map #[] 0)).alloc (.cells #[.map (some w2.heap.size)] 28) = w3 at *
  generalize w2.heap.size + 1 = ib at *
  generalize w2.heap.size = mb0 at *
  gi_loopw [28] (fun c wr => RunRel wb.heap.size a m ib wb zs.length c wr) (fun c _ => zs.length - (intOf c).toNat)
  case atStart => exact ⟨0, none, mb0, 0, _, Nat.zero_le _, rfl, Nat.le_refl _, hRun⟩
  case round =>
    clear hRun
    obtain ⟨k, la, mb, cnt, S, hk, rfl, hcnt, hRun⟩ := hrel
    by_cases hlt : k < zs.length
    · obtain ⟨bk, off, rfl, hbk, hc⟩ := H1.out k hlt
      have hw := H2.out k hlt
      replace hc := ((hBb.trans (hRun.below.mono (by omega))).cell (p := ⟨bk, off + k, none⟩) hbk).trans hc
      have k0 : 0 ≤ (k : Int) := by omega
      have k1 : (k : Int) < (zs.length : Int) := by omega
      generalize zs.getD k 0 = x at hc hw
      have hX : wr.cell? ⟨ib, 0, none⟩ = some (.map (some mb)) := hRun.box.cell 0
      have hltS := set_lt hRun.one
      have hbS := has_in (x := x) hltS
      by_cases hd : k < ds.length
      · obtain ⟨bd, offd, rfl, hbd, hcd, hv0, hv1⟩ := H3.out k hd
        replace hcd := ((hBb.trans (hRun.below.mono (by omega))).cell (p := ⟨bd, offd + k, none⟩) hbd).trans hcd
        have d1 : (k : Int) < (ds.length : Int) := by omega
        generalize ds.getD k 0 = v at hcd hv0 hv1
        rcases how_cases v with hv | ⟨hv, ho⟩ | ⟨hv, ho⟩
        · have tok := hv
          clear tok
          rcases x_cases x m with hx | ⟨hx, hx2⟩ | ⟨hx, hx2⟩
          · clear hbS hltS
            have cP := hRun.reset
            gi_wp2_with fail
            refine ⟨trivial, fun h => (by cases h), ?_⟩
            refine (callsIn_wide.2 cP).mono ?_
            rintro e w4 ⟨rfl, hRun4⟩
            clear cP hX hc hRun
            have hX4 : (w4.alloc (.map #[] 0)).cell? ⟨ib, 0, none⟩ = some (.map (some mb)) := (hRun4.box.alloc _).cell 0
            have hZ4 : (w4.alloc (.map #[] 0)).frozen? ⟨ib, 0, none⟩ = false := (hRun4.box.alloc _).free 0
            have hRun2 := hRun4.remade
            clear hRun4
            gi_wp2_with fail
            clear hX4 hZ4
            generalize (w4.alloc (.map #[] 0)).setCell ⟨ib, 0, none⟩ (.map (some w4.heap.size)) = w9 at *
            generalize w4.heap.size = mb2 at *
            obtain ⟨S2, hS2⟩ : ∃ S2 : Nat → Bool, S2 = fun _ => false := ⟨_, rfl⟩
            rw [← hS2] at hRun2
            clear hS2
            obtain ⟨cnt2, hcn⟩ : ∃ cnt2, cnt2 = 0 := ⟨_, rfl⟩
            rw [← hcn] at hRun2
            replace hcnt : cnt2 ≤ k + 1 := by omega
            clear hcn
            have hlt2 := set_lt hRun2.one
            have hI := has_in (x := x) hlt2
            have KEEP : ∀ (la4 : Option Nat) (w4 : World), RunIn wb.heap.size a la4 m ib mb2 cnt2 wb w4 S2 S2 → w4.cell? ⟨ib, 0, none⟩ = some (.map (some mb2)) ∧ (Builtin.len_ #[28] 3 #[.map (some mb2)]).run Tryd.prog w4 = .ok (.int .i64 (card S2)) w4 ∧ (Instr.lookup 28 (.map (some mb2)) (.int .i64 x) false).run Tryd.prog w4 = .ok (.int .i64 (oneAt S2 x)) w4 :=
              fun la4 w4 h => ⟨h.box.cell 0, h.map.len _, h.map.look x hw⟩
            have cHas : ∀ (la4 : Option Nat) (w4 : World), RunIn wb.heap.size a la4 m ib mb2 cnt2 wb w4 S2 S2 → Calls Tryd.prog 14 #[.pointer (some ⟨a, 0, none⟩), .int .i64 x] w4 fun e w' => e = .returned (.bool (inS S2 x)) ∧ ∃ la', RunIn wb.heap.size a la' m ib mb2 cnt2 wb w' S2 S2 :=
              fun la4 w4 h => by rw [← hI]; exact h.has x
            have cCount := hRun2.drew.count
            have hk0 := KEEP _ _ hRun2
            have hk0d := KEEP _ _ hRun2.drew
            have hgt2 := one_gt (S := S2) (x := x)
            clear hI hlt2
            generalize card S2 = cc at KEEP cCount hk0 hk0d
            generalize oneAt S2 x = c2 at KEEP hk0 hk0d hgt2
            generalize inS S2 x = b2 at cHas hgt2
            refine wpIn_wide.2 ?_
            go_region_held3 (fun w' => w'.cell? ⟨ib, 0, none⟩ = some (.map (some mb2)) ∧ (Builtin.len_ #[28] 3 #[.map (some mb2)]).run Tryd.prog w' = .ok (.int .i64 cc) w' ∧ (Instr.lookup 28 (.map (some mb2)) (.int .i64 x) false).run Tryd.prog w' = .ok (.int .i64 c2) w')
              (first | exact hk6 | exact hk5 | exact hk0d | exact hk0)
              (first
                | (go_at_call 14; refine (cHas _ _ h5).mono ?_; rintro e w6 ⟨rfl, la6, h6⟩; have hk6 := KEEP _ _ h6)
                | (go_at_call 13; refine cCount.mono ?_; rintro e w5 ⟨rfl, h5⟩; have hk5 := KEEP _ _ h5))
            all_goals
              clear hk0 hk0d hk5 hk6 KEEP cHas cCount hRun2 h5
              gi_wp2_with fail
              go_roundw
              case rel => exact ⟨k + 1, la6, mb2, cnt2, S2, by omega, by go_num, by omega, h6⟩
              case measure => simp [intOf]; omega
          · clear hbS hltS
            have cP := hRun.reset
            gi_wp2_with fail
            refine ⟨trivial, fun h => (by cases h), ?_⟩
            refine (callsIn_wide.2 cP).mono ?_
            rintro e w4 ⟨rfl, hRun4⟩
            clear cP hX hc hRun
            have hX4 : (w4.alloc (.map #[] 0)).cell? ⟨ib, 0, none⟩ = some (.map (some mb)) := (hRun4.box.alloc _).cell 0
            have hZ4 : (w4.alloc (.map #[] 0)).frozen? ⟨ib, 0, none⟩ = false := (hRun4.box.alloc _).free 0
            have hRun2 := hRun4.remade
            clear hRun4
            gi_wp2_with fail
            clear hX4 hZ4
            generalize (w4.alloc (.map #[] 0)).setCell ⟨ib, 0, none⟩ (.map (some w4.heap.size)) = w9 at *
            generalize w4.heap.size = mb2 at *
            obtain ⟨S2, hS2⟩ : ∃ S2 : Nat → Bool, S2 = fun _ => false := ⟨_, rfl⟩
            rw [← hS2] at hRun2
            clear hS2
            obtain ⟨cnt2, hcn⟩ : ∃ cnt2, cnt2 = 0 := ⟨_, rfl⟩
            rw [← hcn] at hRun2
            replace hcnt : cnt2 ≤ k + 1 := by omega
            clear hcn
            have hlt2 := set_lt hRun2.one
            have hI := has_in (x := x) hlt2
            have KEEP : ∀ (la4 : Option Nat) (w4 : World), RunIn wb.heap.size a la4 m ib mb2 cnt2 wb w4 S2 S2 → w4.cell? ⟨ib, 0, none⟩ = some (.map (some mb2)) ∧ (Builtin.len_ #[28] 3 #[.map (some mb2)]).run Tryd.prog w4 = .ok (.int .i64 (card S2)) w4 ∧ (Instr.lookup 28 (.map (some mb2)) (.int .i64 x) false).run Tryd.prog w4 = .ok (.int .i64 (oneAt S2 x)) w4 :=
              fun la4 w4 h => ⟨h.box.cell 0, h.map.len _, h.map.look x hw⟩
            have cHas : ∀ (la4 : Option Nat) (w4 : World), RunIn wb.heap.size a la4 m ib mb2 cnt2 wb w4 S2 S2 → Calls Tryd.prog 14 #[.pointer (some ⟨a, 0, none⟩), .int .i64 x] w4 fun e w' => e = .returned (.bool (inS S2 x)) ∧ ∃ la', RunIn wb.heap.size a la' m ib mb2 cnt2 wb w' S2 S2 :=
              fun la4 w4 h => by rw [← hI]; exact h.has x
            have cCount := hRun2.drew.count
            have hk0 := KEEP _ _ hRun2
            have hk0d := KEEP _ _ hRun2.drew
            have hgt2 := one_gt (S := S2) (x := x)
            clear hI hlt2
            generalize card S2 = cc at KEEP cCount hk0 hk0d
            generalize oneAt S2 x = c2 at KEEP hk0 hk0d hgt2
            generalize inS S2 x = b2 at cHas hgt2
            refine wpIn_wide.2 ?_
            go_region_held3 (fun w' => w'.cell? ⟨ib, 0, none⟩ = some (.map (some mb2)) ∧ (Builtin.len_ #[28] 3 #[.map (some mb2)]).run Tryd.prog w' = .ok (.int .i64 cc) w' ∧ (Instr.lookup 28 (.map (some mb2)) (.int .i64 x) false).run Tryd.prog w' = .ok (.int .i64 c2) w')
              (first | exact hk6 | exact hk5 | exact hk0d | exact hk0)
              (first
                | (go_at_call 14; refine (cHas _ _ h5).mono ?_; rintro e w6 ⟨rfl, la6, h6⟩; have hk6 := KEEP _ _ h6)
                | (go_at_call 13; refine cCount.mono ?_; rintro e w5 ⟨rfl, h5⟩; have hk5 := KEEP _ _ h5))
            all_goals
              clear hk0 hk0d hk5 hk6 KEEP cHas cCount hRun2 h5
              gi_wp2_with fail
              go_roundw
              case rel => exact ⟨k + 1, la6, mb2, cnt2, S2, by omega, by go_num, by omega, h6⟩
              case measure => simp [intOf]; omega
          · clear hbS hltS
            have cP := hRun.reset
            gi_wp2_with fail
            refine ⟨trivial, fun h => (by cases h), ?_⟩
            refine (callsIn_wide.2 cP).mono ?_
            rintro e w4 ⟨rfl, hRun4⟩
            clear cP hX hc hRun
            have hX4 : (w4.alloc (.map #[] 0)).cell? ⟨ib, 0, none⟩ = some (.map (some mb)) := (hRun4.box.alloc _).cell 0
            have hZ4 : (w4.alloc (.map #[] 0)).frozen? ⟨ib, 0, none⟩ = false := (hRun4.box.alloc _).free 0
            have hRun2 := hRun4.remade
            clear hRun4
            gi_wp2_with fail
            clear hX4 hZ4
            generalize (w4.alloc (.map #[] 0)).setCell ⟨ib, 0, none⟩ (.map (some w4.heap.size)) = w9 at *
            generalize w4.heap.size = mb2 at *
            obtain ⟨S2, hS2⟩ : ∃ S2 : Nat → Bool, S2 = fun _ => false := ⟨_, rfl⟩
            rw [← hS2] at hRun2
            clear hS2
            obtain ⟨cnt2, hcn⟩ : ∃ cnt2, cnt2 = 0 := ⟨_, rfl⟩
            rw [← hcn] at hRun2
            replace hcnt : cnt2 ≤ k + 1 := by omega
            clear hcn
            have hlt2 := set_lt hRun2.one
            have hI := has_in (x := x) hlt2
            have KEEP : ∀ (la4 : Option Nat) (w4 : World), RunIn wb.heap.size a la4 m ib mb2 cnt2 wb w4 S2 S2 → w4.cell? ⟨ib, 0, none⟩ = some (.map (some mb2)) ∧ (Builtin.len_ #[28] 3 #[.map (some mb2)]).run Tryd.prog w4 = .ok (.int .i64 (card S2)) w4 ∧ (Instr.lookup 28 (.map (some mb2)) (.int .i64 x) false).run Tryd.prog w4 = .ok (.int .i64 (oneAt S2 x)) w4 :=
              fun la4 w4 h => ⟨h.box.cell 0, h.map.len _, h.map.look x hw⟩
            have cHas : ∀ (la4 : Option Nat) (w4 : World), RunIn wb.heap.size a la4 m ib mb2 cnt2 wb w4 S2 S2 → Calls Tryd.prog 14 #[.pointer (some ⟨a, 0, none⟩), .int .i64 x] w4 fun e w' => e = .returned (.bool (inS S2 x)) ∧ ∃ la', RunIn wb.heap.size a la' m ib mb2 cnt2 wb w' S2 S2 :=
              fun la4 w4 h => by rw [← hI]; exact h.has x
            have cCount := hRun2.drew.count
            have hk0 := KEEP _ _ hRun2
            have hk0d := KEEP _ _ hRun2.drew
            have hgt2 := one_gt (S := S2) (x := x)
            clear hI hlt2
            generalize card S2 = cc at KEEP cCount hk0 hk0d
            generalize oneAt S2 x = c2 at KEEP hk0 hk0d hgt2
            generalize inS S2 x = b2 at cHas hgt2
            refine wpIn_wide.2 ?_
            go_region_held3 (fun w' => w'.cell? ⟨ib, 0, none⟩ = some (.map (some mb2)) ∧ (Builtin.len_ #[28] 3 #[.map (some mb2)]).run Tryd.prog w' = .ok (.int .i64 cc) w' ∧ (Instr.lookup 28 (.map (some mb2)) (.int .i64 x) false).run Tryd.prog w' = .ok (.int .i64 c2) w')
              (first | exact hk6 | exact hk5 | exact hk0d | exact hk0)
              (first
                | (go_at_call 14; refine (cHas _ _ h5).mono ?_; rintro e w6 ⟨rfl, la6, h6⟩; have hk6 := KEEP _ _ h6)
                | (go_at_call 13; refine cCount.mono ?_; rintro e w5 ⟨rfl, h5⟩; have hk5 := KEEP _ _ h5))
            all_goals
              clear hk0 hk0d hk5 hk6 KEEP cHas cCount hRun2 h5
              gi_wp2_with fail
              go_roundw
              case rel => exact ⟨k + 1, la6, mb2, cnt2, S2, by omega, by go_num, by omega, h6⟩
              case measure => simp [intOf]; omega
        · have tok := hv
          clear tok
          rcases x_cases x m with hx | ⟨hx, hx2⟩ | ⟨hx, hx2⟩
          · have hm0 : may m x = false := by simp [may]; omega
            have hb0 : inS S x = false := by rw [← hbS, hm0]; rfl
            have cP := hRun.drop x
            rw [hbS, hb0] at cP
            clear hbS hm0 hb0
            gi_wp2_with fail
            refine ⟨trivial, fun h => (by cases h), ?_⟩
            refine (callsIn_wide.2 cP).mono ?_
            rintro e w4 ⟨rfl, la2, hRun4⟩
            clear cP hX hc hRun
            have hX4 : w4.cell? ⟨ib, 0, none⟩ = some (.map (some mb)) := hRun4.box.cell 0
            obtain ⟨w5, hst, hRun2⟩ := hRun4.delete hltS x hw 0
            clear hltS hRun4
            gi_wp2_with fail
            clear hst hX4
            obtain ⟨S2, hS2⟩ : ∃ S2, S2 = dropS S x := ⟨_, rfl⟩
            rw [← hS2] at hRun2
            clear hS2
            obtain ⟨mb2, rfl⟩ : ∃ mb2, mb2 = mb := ⟨_, rfl⟩
            obtain ⟨cnt2, rfl⟩ : ∃ cnt2, cnt2 = cnt := ⟨_, rfl⟩
            have hlt2 := set_lt hRun2.one
            have hI := has_in (x := x) hlt2
            have KEEP : ∀ (la4 : Option Nat) (w4 : World), RunIn wb.heap.size a la4 m ib mb2 cnt2 wb w4 S2 S2 → w4.cell? ⟨ib, 0, none⟩ = some (.map (some mb2)) ∧ (Builtin.len_ #[28] 3 #[.map (some mb2)]).run Tryd.prog w4 = .ok (.int .i64 (card S2)) w4 ∧ (Instr.lookup 28 (.map (some mb2)) (.int .i64 x) false).run Tryd.prog w4 = .ok (.int .i64 (oneAt S2 x)) w4 :=
              fun la4 w4 h => ⟨h.box.cell 0, h.map.len _, h.map.look x hw⟩
            have cHas : ∀ (la4 : Option Nat) (w4 : World), RunIn wb.heap.size a la4 m ib mb2 cnt2 wb w4 S2 S2 → Calls Tryd.prog 14 #[.pointer (some ⟨a, 0, none⟩), .int .i64 x] w4 fun e w' => e = .returned (.bool (inS S2 x)) ∧ ∃ la', RunIn wb.heap.size a la' m ib mb2 cnt2 wb w' S2 S2 :=
              fun la4 w4 h => by rw [← hI]; exact h.has x
            have cCount := hRun2.drew.count
            have hk0 := KEEP _ _ hRun2
            have hk0d := KEEP _ _ hRun2.drew
            have hgt2 := one_gt (S := S2) (x := x)
            clear hI hlt2
            generalize card S2 = cc at KEEP cCount hk0 hk0d
            generalize oneAt S2 x = c2 at KEEP hk0 hk0d hgt2
            generalize inS S2 x = b2 at cHas hgt2
            refine wpIn_wide.2 ?_
            go_region_held3 (fun w' => w'.cell? ⟨ib, 0, none⟩ = some (.map (some mb2)) ∧ (Builtin.len_ #[28] 3 #[.map (some mb2)]).run Tryd.prog w' = .ok (.int .i64 cc) w' ∧ (Instr.lookup 28 (.map (some mb2)) (.int .i64 x) false).run Tryd.prog w' = .ok (.int .i64 c2) w')
              (first | exact hk6 | exact hk5 | exact hk0d | exact hk0)
              (first
                | (go_at_call 14; refine (cHas _ _ h5).mono ?_; rintro e w6 ⟨rfl, la6, h6⟩; have hk6 := KEEP _ _ h6)
                | (go_at_call 13; refine cCount.mono ?_; rintro e w5 ⟨rfl, h5⟩; have hk5 := KEEP _ _ h5))
            all_goals
              clear hk0 hk0d hk5 hk6 KEEP cHas cCount hRun2 h5
              gi_wp2_with fail
              go_roundw
              case rel => exact ⟨k + 1, la6, mb2, cnt2, S2, by omega, by go_num, by omega, h6⟩
              case measure => simp [intOf]; omega
          · have hm0 : may m x = false := by simp [may]; omega
            have hb0 : inS S x = false := by rw [← hbS, hm0]; rfl
            have cP := hRun.drop x
            rw [hbS, hb0] at cP
            clear hbS hm0 hb0
            gi_wp2_with fail
            refine ⟨trivial, fun h => (by cases h), ?_⟩
            refine (callsIn_wide.2 cP).mono ?_
            rintro e w4 ⟨rfl, la2, hRun4⟩
            clear cP hX hc hRun
            have hX4 : w4.cell? ⟨ib, 0, none⟩ = some (.map (some mb)) := hRun4.box.cell 0
            obtain ⟨w5, hst, hRun2⟩ := hRun4.delete hltS x hw 0
            clear hltS hRun4
            gi_wp2_with fail
            clear hst hX4
            obtain ⟨S2, hS2⟩ : ∃ S2, S2 = dropS S x := ⟨_, rfl⟩
            rw [← hS2] at hRun2
            clear hS2
            obtain ⟨mb2, rfl⟩ : ∃ mb2, mb2 = mb := ⟨_, rfl⟩
            obtain ⟨cnt2, rfl⟩ : ∃ cnt2, cnt2 = cnt := ⟨_, rfl⟩
            have hlt2 := set_lt hRun2.one
            have hI := has_in (x := x) hlt2
            have KEEP : ∀ (la4 : Option Nat) (w4 : World), RunIn wb.heap.size a la4 m ib mb2 cnt2 wb w4 S2 S2 → w4.cell? ⟨ib, 0, none⟩ = some (.map (some mb2)) ∧ (Builtin.len_ #[28] 3 #[.map (some mb2)]).run Tryd.prog w4 = .ok (.int .i64 (card S2)) w4 ∧ (Instr.lookup 28 (.map (some mb2)) (.int .i64 x) false).run Tryd.prog w4 = .ok (.int .i64 (oneAt S2 x)) w4 :=
              fun la4 w4 h => ⟨h.box.cell 0, h.map.len _, h.map.look x hw⟩
            have cHas : ∀ (la4 : Option Nat) (w4 : World), RunIn wb.heap.size a la4 m ib mb2 cnt2 wb w4 S2 S2 → Calls Tryd.prog 14 #[.pointer (some ⟨a, 0, none⟩), .int .i64 x] w4 fun e w' => e = .returned (.bool (inS S2 x)) ∧ ∃ la', RunIn wb.heap.size a la' m ib mb2 cnt2 wb w' S2 S2 :=
              fun la4 w4 h => by rw [← hI]; exact h.has x
            have cCount := hRun2.drew.count
            have hk0 := KEEP _ _ hRun2
            have hk0d := KEEP _ _ hRun2.drew
            have hgt2 := one_gt (S := S2) (x := x)
            clear hI hlt2
            generalize card S2 = cc at KEEP cCount hk0 hk0d
            generalize oneAt S2 x = c2 at KEEP hk0 hk0d hgt2
            generalize inS S2 x = b2 at cHas hgt2
            refine wpIn_wide.2 ?_
            go_region_held3 (fun w' => w'.cell? ⟨ib, 0, none⟩ = some (.map (some mb2)) ∧ (Builtin.len_ #[28] 3 #[.map (some mb2)]).run Tryd.prog w' = .ok (.int .i64 cc) w' ∧ (Instr.lookup 28 (.map (some mb2)) (.int .i64 x) false).run Tryd.prog w' = .ok (.int .i64 c2) w')
              (first | exact hk6 | exact hk5 | exact hk0d | exact hk0)
              (first
                | (go_at_call 14; refine (cHas _ _ h5).mono ?_; rintro e w6 ⟨rfl, la6, h6⟩; have hk6 := KEEP _ _ h6)
                | (go_at_call 13; refine cCount.mono ?_; rintro e w5 ⟨rfl, h5⟩; have hk5 := KEEP _ _ h5))
            all_goals
              clear hk0 hk0d hk5 hk6 KEEP cHas cCount hRun2 h5
              gi_wp2_with fail
              go_roundw
              case rel => exact ⟨k + 1, la6, mb2, cnt2, S2, by omega, by go_num, by omega, h6⟩
              case measure => simp [intOf]; omega
          · have cP := hRun.drop x
            rw [hbS] at cP
            have hgt := one_gt (S := S) (x := x)
            have HLK : ∀ (la4 : Option Nat) (w4 : World) (S4 : Nat → Bool), RunIn wb.heap.size a la4 m ib mb cnt wb w4 S4 S → (Instr.lookup 28 (.map (some mb)) (.int .i64 x) false).run Tryd.prog w4 = .ok (.int .i64 (oneAt S x)) w4 := fun _ _ _ h => h.map.look x hw
            clear hbS
            generalize oneAt S x = cx at hgt HLK
            generalize inS S x = bx at hgt cP
            gi_wp2_with fail
            refine ⟨trivial, fun h => (by cases h), ?_⟩
            refine (callsIn_wide.2 cP).mono ?_
            rintro e w4 ⟨rfl, la2, hRun4⟩
            clear cP hX hc hRun
            have hX4 : w4.cell? ⟨ib, 0, none⟩ = some (.map (some mb)) := hRun4.box.cell 0
            have hlk4 := HLK _ _ _ hRun4
            obtain ⟨w5, hst, hRun2⟩ := hRun4.delete hltS x hw 0
            clear hltS hRun4 HLK
            gi_wp2_with fail
            clear hst hX4 hlk4 hgt
            obtain ⟨S2, hS2⟩ : ∃ S2, S2 = dropS S x := ⟨_, rfl⟩
            rw [← hS2] at hRun2
            clear hS2
            obtain ⟨mb2, rfl⟩ : ∃ mb2, mb2 = mb := ⟨_, rfl⟩
            obtain ⟨cnt2, rfl⟩ : ∃ cnt2, cnt2 = cnt := ⟨_, rfl⟩
            have hlt2 := set_lt hRun2.one
            have hI := has_in (x := x) hlt2
            have KEEP : ∀ (la4 : Option Nat) (w4 : World), RunIn wb.heap.size a la4 m ib mb2 cnt2 wb w4 S2 S2 → w4.cell? ⟨ib, 0, none⟩ = some (.map (some mb2)) ∧ (Builtin.len_ #[28] 3 #[.map (some mb2)]).run Tryd.prog w4 = .ok (.int .i64 (card S2)) w4 ∧ (Instr.lookup 28 (.map (some mb2)) (.int .i64 x) false).run Tryd.prog w4 = .ok (.int .i64 (oneAt S2 x)) w4 :=
              fun la4 w4 h => ⟨h.box.cell 0, h.map.len _, h.map.look x hw⟩
            have cHas : ∀ (la4 : Option Nat) (w4 : World), RunIn wb.heap.size a la4 m ib mb2 cnt2 wb w4 S2 S2 → Calls Tryd.prog 14 #[.pointer (some ⟨a, 0, none⟩), .int .i64 x] w4 fun e w' => e = .returned (.bool (inS S2 x)) ∧ ∃ la', RunIn wb.heap.size a la' m ib mb2 cnt2 wb w' S2 S2 :=
              fun la4 w4 h => by rw [← hI]; exact h.has x
            have cCount := hRun2.drew.count
            have hk0 := KEEP _ _ hRun2
            have hk0d := KEEP _ _ hRun2.drew
            have hgt2 := one_gt (S := S2) (x := x)
            clear hI hlt2
            generalize card S2 = cc at KEEP cCount hk0 hk0d
            generalize oneAt S2 x = c2 at KEEP hk0 hk0d hgt2
            generalize inS S2 x = b2 at cHas hgt2
            refine wpIn_wide.2 ?_
            go_region_held3 (fun w' => w'.cell? ⟨ib, 0, none⟩ = some (.map (some mb2)) ∧ (Builtin.len_ #[28] 3 #[.map (some mb2)]).run Tryd.prog w' = .ok (.int .i64 cc) w' ∧ (Instr.lookup 28 (.map (some mb2)) (.int .i64 x) false).run Tryd.prog w' = .ok (.int .i64 c2) w')
              (first | exact hk6 | exact hk5 | exact hk0d | exact hk0)
              (first
                | (go_at_call 14; refine (cHas _ _ h5).mono ?_; rintro e w6 ⟨rfl, la6, h6⟩; have hk6 := KEEP _ _ h6)
                | (go_at_call 13; refine cCount.mono ?_; rintro e w5 ⟨rfl, h5⟩; have hk5 := KEEP _ _ h5))
            all_goals
              clear hk0 hk0d hk5 hk6 KEEP cHas cCount hRun2 h5
              gi_wp2_with fail
              go_roundw
              case rel => exact ⟨k + 1, la6, mb2, cnt2, S2, by omega, by go_num, by omega, h6⟩
              case measure => simp [intOf]; omega
        · have tok := hv
          clear tok
          rcases x_cases x m with hx | ⟨hx, hx2⟩ | ⟨hx, hx2⟩
          · have hm0 : may m x = false := by simp [may]; omega
            have hS2 : putS m S x = S := by funext j; simp [putS, hm0]
            have cP := hRun.put x
            rw [hm0, Bool.false_and, hS2] at cP
            clear hbS hltS hm0 hS2
            gi_wp2_with fail
            refine ⟨trivial, fun h => (by cases h), ?_⟩
            refine (callsIn_wide.2 cP).mono ?_
            rintro e w4 ⟨rfl, la2, hRun2⟩
            clear cP hX hc hRun
            gi_wp2_with fail
            obtain ⟨S2, rfl⟩ : ∃ S2, S2 = S := ⟨_, rfl⟩
            obtain ⟨mb2, rfl⟩ : ∃ mb2, mb2 = mb := ⟨_, rfl⟩
            obtain ⟨cnt2, rfl⟩ : ∃ cnt2, cnt2 = cnt := ⟨_, rfl⟩
            have hlt2 := set_lt hRun2.one
            have hI := has_in (x := x) hlt2
            have KEEP : ∀ (la4 : Option Nat) (w4 : World), RunIn wb.heap.size a la4 m ib mb2 cnt2 wb w4 S2 S2 → w4.cell? ⟨ib, 0, none⟩ = some (.map (some mb2)) ∧ (Builtin.len_ #[28] 3 #[.map (some mb2)]).run Tryd.prog w4 = .ok (.int .i64 (card S2)) w4 ∧ (Instr.lookup 28 (.map (some mb2)) (.int .i64 x) false).run Tryd.prog w4 = .ok (.int .i64 (oneAt S2 x)) w4 :=
              fun la4 w4 h => ⟨h.box.cell 0, h.map.len _, h.map.look x hw⟩
            have cHas : ∀ (la4 : Option Nat) (w4 : World), RunIn wb.heap.size a la4 m ib mb2 cnt2 wb w4 S2 S2 → Calls Tryd.prog 14 #[.pointer (some ⟨a, 0, none⟩), .int .i64 x] w4 fun e w' => e = .returned (.bool (inS S2 x)) ∧ ∃ la', RunIn wb.heap.size a la' m ib mb2 cnt2 wb w' S2 S2 :=
              fun la4 w4 h => by rw [← hI]; exact h.has x
            have cCount := hRun2.drew.count
            have hk0 := KEEP _ _ hRun2
            have hk0d := KEEP _ _ hRun2.drew
            have hgt2 := one_gt (S := S2) (x := x)
            clear hI hlt2
            generalize card S2 = cc at KEEP cCount hk0 hk0d
            generalize oneAt S2 x = c2 at KEEP hk0 hk0d hgt2
            generalize inS S2 x = b2 at cHas hgt2
            refine wpIn_wide.2 ?_
            go_region_held3 (fun w' => w'.cell? ⟨ib, 0, none⟩ = some (.map (some mb2)) ∧ (Builtin.len_ #[28] 3 #[.map (some mb2)]).run Tryd.prog w' = .ok (.int .i64 cc) w' ∧ (Instr.lookup 28 (.map (some mb2)) (.int .i64 x) false).run Tryd.prog w' = .ok (.int .i64 c2) w')
              (first | exact hk6 | exact hk5 | exact hk0d | exact hk0)
              (first
                | (go_at_call 14; refine (cHas _ _ h5).mono ?_; rintro e w6 ⟨rfl, la6, h6⟩; have hk6 := KEEP _ _ h6)
                | (go_at_call 13; refine cCount.mono ?_; rintro e w5 ⟨rfl, h5⟩; have hk5 := KEEP _ _ h5))
            all_goals
              clear hk0 hk0d hk5 hk6 KEEP cHas cCount hRun2 h5
              gi_wp2_with fail
              go_roundw
              case rel => exact ⟨k + 1, la6, mb2, cnt2, S2, by omega, by go_num, by omega, h6⟩
              case measure => simp [intOf]; omega
          · have hm0 : may m x = false := by simp [may]; omega
            have hS2 : putS m S x = S := by funext j; simp [putS, hm0]
            have cP := hRun.put x
            rw [hm0, Bool.false_and, hS2] at cP
            clear hbS hltS hm0 hS2
            gi_wp2_with fail
            refine ⟨trivial, fun h => (by cases h), ?_⟩
            refine (callsIn_wide.2 cP).mono ?_
            rintro e w4 ⟨rfl, la2, hRun2⟩
            clear cP hX hc hRun
            gi_wp2_with fail
            obtain ⟨S2, rfl⟩ : ∃ S2, S2 = S := ⟨_, rfl⟩
            obtain ⟨mb2, rfl⟩ : ∃ mb2, mb2 = mb := ⟨_, rfl⟩
            obtain ⟨cnt2, rfl⟩ : ∃ cnt2, cnt2 = cnt := ⟨_, rfl⟩
            have hlt2 := set_lt hRun2.one
            have hI := has_in (x := x) hlt2
            have KEEP : ∀ (la4 : Option Nat) (w4 : World), RunIn wb.heap.size a la4 m ib mb2 cnt2 wb w4 S2 S2 → w4.cell? ⟨ib, 0, none⟩ = some (.map (some mb2)) ∧ (Builtin.len_ #[28] 3 #[.map (some mb2)]).run Tryd.prog w4 = .ok (.int .i64 (card S2)) w4 ∧ (Instr.lookup 28 (.map (some mb2)) (.int .i64 x) false).run Tryd.prog w4 = .ok (.int .i64 (oneAt S2 x)) w4 :=
              fun la4 w4 h => ⟨h.box.cell 0, h.map.len _, h.map.look x hw⟩
            have cHas : ∀ (la4 : Option Nat) (w4 : World), RunIn wb.heap.size a la4 m ib mb2 cnt2 wb w4 S2 S2 → Calls Tryd.prog 14 #[.pointer (some ⟨a, 0, none⟩), .int .i64 x] w4 fun e w' => e = .returned (.bool (inS S2 x)) ∧ ∃ la', RunIn wb.heap.size a la' m ib mb2 cnt2 wb w' S2 S2 :=
              fun la4 w4 h => by rw [← hI]; exact h.has x
            have cCount := hRun2.drew.count
            have hk0 := KEEP _ _ hRun2
            have hk0d := KEEP _ _ hRun2.drew
            have hgt2 := one_gt (S := S2) (x := x)
            clear hI hlt2
            generalize card S2 = cc at KEEP cCount hk0 hk0d
            generalize oneAt S2 x = c2 at KEEP hk0 hk0d hgt2
            generalize inS S2 x = b2 at cHas hgt2
            refine wpIn_wide.2 ?_
            go_region_held3 (fun w' => w'.cell? ⟨ib, 0, none⟩ = some (.map (some mb2)) ∧ (Builtin.len_ #[28] 3 #[.map (some mb2)]).run Tryd.prog w' = .ok (.int .i64 cc) w' ∧ (Instr.lookup 28 (.map (some mb2)) (.int .i64 x) false).run Tryd.prog w' = .ok (.int .i64 c2) w')
              (first | exact hk6 | exact hk5 | exact hk0d | exact hk0)
              (first
                | (go_at_call 14; refine (cHas _ _ h5).mono ?_; rintro e w6 ⟨rfl, la6, h6⟩; have hk6 := KEEP _ _ h6)
                | (go_at_call 13; refine cCount.mono ?_; rintro e w5 ⟨rfl, h5⟩; have hk5 := KEEP _ _ h5))
            all_goals
              clear hk0 hk0d hk5 hk6 KEEP cHas cCount hRun2 h5
              gi_wp2_with fail
              go_roundw
              case rel => exact ⟨k + 1, la6, mb2, cnt2, S2, by omega, by go_num, by omega, h6⟩
              case measure => simp [intOf]; omega
          · have hm1 : may m x = true := by simp [may]; omega
            have cP := hRun.put x
            rw [hm1, Bool.true_and] at hbS
            rw [hm1, Bool.true_and, hbS] at cP
            have hnil := one_nil (S := S) (x := x)
            have HLK : ∀ (la4 : Option Nat) (w4 : World) (S4 : Nat → Bool), RunIn wb.heap.size a la4 m ib mb cnt wb w4 S4 S → (Instr.lookup 28 (.map (some mb)) (.int .i64 x) false).run Tryd.prog w4 = .ok (.int .i64 (oneAt S x)) w4 := fun _ _ _ h => h.map.look x hw
            have HM : Hid (may m x = true) := hm1
            clear hbS hltS hm1
            generalize oneAt S x = cx at hnil HLK
            generalize inS S x = bx at hnil cP
            gi_wp2_with fail
            refine ⟨trivial, fun h => (by cases h), ?_⟩
            refine (callsIn_wide.2 cP).mono ?_
            rintro e w4 ⟨rfl, la2, hRun4⟩
            clear cP hX hc hRun
            have hX4 : w4.cell? ⟨ib, 0, none⟩ = some (.map (some mb)) := hRun4.box.cell 0
            have hlk4 := HLK _ _ _ hRun4
            obtain ⟨w5, hst, hRun2⟩ := hRun4.store (by omega) x hw HM.out
            clear HLK HM hRun4
            gi_wp2_with fail
            clear hst hX4 hlk4 hnil
            obtain ⟨S2, hS2⟩ : ∃ S2, S2 = putS m S x := ⟨_, rfl⟩
            rw [← hS2] at hRun2
            clear hS2
            obtain ⟨mb2, rfl⟩ : ∃ mb2, mb2 = mb := ⟨_, rfl⟩
            obtain ⟨cnt2, hcn⟩ : ∃ cnt2, cnt2 = cnt + 1 := ⟨_, rfl⟩
            rw [← hcn] at hRun2
            replace hcnt : cnt2 ≤ k + 1 := by omega
            clear hcn
            have hlt2 := set_lt hRun2.one
            have hI := has_in (x := x) hlt2
            have KEEP : ∀ (la4 : Option Nat) (w4 : World), RunIn wb.heap.size a la4 m ib mb2 cnt2 wb w4 S2 S2 → w4.cell? ⟨ib, 0, none⟩ = some (.map (some mb2)) ∧ (Builtin.len_ #[28] 3 #[.map (some mb2)]).run Tryd.prog w4 = .ok (.int .i64 (card S2)) w4 ∧ (Instr.lookup 28 (.map (some mb2)) (.int .i64 x) false).run Tryd.prog w4 = .ok (.int .i64 (oneAt S2 x)) w4 :=
              fun la4 w4 h => ⟨h.box.cell 0, h.map.len _, h.map.look x hw⟩
            have cHas : ∀ (la4 : Option Nat) (w4 : World), RunIn wb.heap.size a la4 m ib mb2 cnt2 wb w4 S2 S2 → Calls Tryd.prog 14 #[.pointer (some ⟨a, 0, none⟩), .int .i64 x] w4 fun e w' => e = .returned (.bool (inS S2 x)) ∧ ∃ la', RunIn wb.heap.size a la' m ib mb2 cnt2 wb w' S2 S2 :=
              fun la4 w4 h => by rw [← hI]; exact h.has x
            have cCount := hRun2.drew.count
            have hk0 := KEEP _ _ hRun2
            have hk0d := KEEP _ _ hRun2.drew
            have hgt2 := one_gt (S := S2) (x := x)
            clear hI hlt2
            generalize card S2 = cc at KEEP cCount hk0 hk0d
            generalize oneAt S2 x = c2 at KEEP hk0 hk0d hgt2
            generalize inS S2 x = b2 at cHas hgt2
            refine wpIn_wide.2 ?_
            go_region_held3 (fun w' => w'.cell? ⟨ib, 0, none⟩ = some (.map (some mb2)) ∧ (Builtin.len_ #[28] 3 #[.map (some mb2)]).run Tryd.prog w' = .ok (.int .i64 cc) w' ∧ (Instr.lookup 28 (.map (some mb2)) (.int .i64 x) false).run Tryd.prog w' = .ok (.int .i64 c2) w')
              (first | exact hk6 | exact hk5 | exact hk0d | exact hk0)
              (first
                | (go_at_call 14; refine (cHas _ _ h5).mono ?_; rintro e w6 ⟨rfl, la6, h6⟩; have hk6 := KEEP _ _ h6)
                | (go_at_call 13; refine cCount.mono ?_; rintro e w5 ⟨rfl, h5⟩; have hk5 := KEEP _ _ h5))
            all_goals
              clear hk0 hk0d hk5 hk6 KEEP cHas cCount hRun2 h5
              gi_wp2_with fail
              go_roundw
              case rel => exact ⟨k + 1, la6, mb2, cnt2, S2, by omega, by go_num, by omega, h6⟩
              case measure => simp [intOf]; omega
      · have d1 : (ds.length : Int) ≤ (k : Int) := by omega
        have ho : (bits .and .u8 0 1 == 1) = false := by decide
        rcases x_cases x m with hx | ⟨hx, hx2⟩ | ⟨hx, hx2⟩
        · have hm0 : may m x = false := by simp [may]; omega
          have hS2 : putS m S x = S := by funext j; simp [putS, hm0]
          have cP := hRun.put x
          rw [hm0, Bool.false_and, hS2] at cP
          clear hbS hltS hm0 hS2
          gi_wp2_with fail
          refine ⟨trivial, fun h => (by cases h), ?_⟩
          refine (callsIn_wide.2 cP).mono ?_
          rintro e w4 ⟨rfl, la2, hRun2⟩
          clear cP hX hc hRun
          gi_wp2_with fail
          obtain ⟨S2, rfl⟩ : ∃ S2, S2 = S := ⟨_, rfl⟩
          obtain ⟨mb2, rfl⟩ : ∃ mb2, mb2 = mb := ⟨_, rfl⟩
          obtain ⟨cnt2, rfl⟩ : ∃ cnt2, cnt2 = cnt := ⟨_, rfl⟩
          have hlt2 := set_lt hRun2.one
          have hI := has_in (x := x) hlt2
          have KEEP : ∀ (la4 : Option Nat) (w4 : World), RunIn wb.heap.size a la4 m ib mb2 cnt2 wb w4 S2 S2 → w4.cell? ⟨ib, 0, none⟩ = some (.map (some mb2)) ∧ (Builtin.len_ #[28] 3 #[.map (some mb2)]).run Tryd.prog w4 = .ok (.int .i64 (card S2)) w4 ∧ (Instr.lookup 28 (.map (some mb2)) (.int .i64 x) false).run Tryd.prog w4 = .ok (.int .i64 (oneAt S2 x)) w4 :=
            fun la4 w4 h => ⟨h.box.cell 0, h.map.len _, h.map.look x hw⟩
          have cHas : ∀ (la4 : Option Nat) (w4 : World), RunIn wb.heap.size a la4 m ib mb2 cnt2 wb w4 S2 S2 → Calls Tryd.prog 14 #[.pointer (some ⟨a, 0, none⟩), .int .i64 x] w4 fun e w' => e = .returned (.bool (inS S2 x)) ∧ ∃ la', RunIn wb.heap.size a la' m ib mb2 cnt2 wb w' S2 S2 :=
            fun la4 w4 h => by rw [← hI]; exact h.has x
          have cCount := hRun2.drew.count
          have hk0 := KEEP _ _ hRun2
          have hk0d := KEEP _ _ hRun2.drew
          have hgt2 := one_gt (S := S2) (x := x)
          clear hI hlt2
          generalize card S2 = cc at KEEP cCount hk0 hk0d
          generalize oneAt S2 x = c2 at KEEP hk0 hk0d hgt2
          generalize inS S2 x = b2 at cHas hgt2
          refine wpIn_wide.2 ?_
          go_region_held3 (fun w' => w'.cell? ⟨ib, 0, none⟩ = some (.map (some mb2)) ∧ (Builtin.len_ #[28] 3 #[.map (some mb2)]).run Tryd.prog w' = .ok (.int .i64 cc) w' ∧ (Instr.lookup 28 (.map (some mb2)) (.int .i64 x) false).run Tryd.prog w' = .ok (.int .i64 c2) w')
            (first | exact hk6 | exact hk5 | exact hk0d | exact hk0)
            (first
              | (go_at_call 14; refine (cHas _ _ h5).mono ?_; rintro e w6 ⟨rfl, la6, h6⟩; have hk6 := KEEP _ _ h6)
              | (go_at_call 13; refine cCount.mono ?_; rintro e w5 ⟨rfl, h5⟩; have hk5 := KEEP _ _ h5))
          all_goals
            clear hk0 hk0d hk5 hk6 KEEP cHas cCount hRun2 h5
            gi_wp2_with fail
            go_roundw
            case rel => exact ⟨k + 1, la6, mb2, cnt2, S2, by omega, by go_num, by omega, h6⟩
            case measure => simp [intOf]; omega
        · have hm0 : may m x = false := by simp [may]; omega
          have hS2 : putS m S x = S := by funext j; simp [putS, hm0]
          have cP := hRun.put x
          rw [hm0, Bool.false_and, hS2] at cP
          clear hbS hltS hm0 hS2
          gi_wp2_with fail
          refine ⟨trivial, fun h => (by cases h), ?_⟩
          refine (callsIn_wide.2 cP).mono ?_
          rintro e w4 ⟨rfl, la2, hRun2⟩
          clear cP hX hc hRun
          gi_wp2_with fail
          obtain ⟨S2, rfl⟩ : ∃ S2, S2 = S := ⟨_, rfl⟩
          obtain ⟨mb2, rfl⟩ : ∃ mb2, mb2 = mb := ⟨_, rfl⟩
          obtain ⟨cnt2, rfl⟩ : ∃ cnt2, cnt2 = cnt := ⟨_, rfl⟩
          have hlt2 := set_lt hRun2.one
          have hI := has_in (x := x) hlt2
          have KEEP : ∀ (la4 : Option Nat) (w4 : World), RunIn wb.heap.size a la4 m ib mb2 cnt2 wb w4 S2 S2 → w4.cell? ⟨ib, 0, none⟩ = some (.map (some mb2)) ∧ (Builtin.len_ #[28] 3 #[.map (some mb2)]).run Tryd.prog w4 = .ok (.int .i64 (card S2)) w4 ∧ (Instr.lookup 28 (.map (some mb2)) (.int .i64 x) false).run Tryd.prog w4 = .ok (.int .i64 (oneAt S2 x)) w4 :=
            fun la4 w4 h => ⟨h.box.cell 0, h.map.len _, h.map.look x hw⟩
          have cHas : ∀ (la4 : Option Nat) (w4 : World), RunIn wb.heap.size a la4 m ib mb2 cnt2 wb w4 S2 S2 → Calls Tryd.prog 14 #[.pointer (some ⟨a, 0, none⟩), .int .i64 x] w4 fun e w' => e = .returned (.bool (inS S2 x)) ∧ ∃ la', RunIn wb.heap.size a la' m ib mb2 cnt2 wb w' S2 S2 :=
            fun la4 w4 h => by rw [← hI]; exact h.has x
          have cCount := hRun2.drew.count
          have hk0 := KEEP _ _ hRun2
          have hk0d := KEEP _ _ hRun2.drew
          have hgt2 := one_gt (S := S2) (x := x)
          clear hI hlt2
          generalize card S2 = cc at KEEP cCount hk0 hk0d
          generalize oneAt S2 x = c2 at KEEP hk0 hk0d hgt2
          generalize inS S2 x = b2 at cHas hgt2
          refine wpIn_wide.2 ?_
          go_region_held3 (fun w' => w'.cell? ⟨ib, 0, none⟩ = some (.map (some mb2)) ∧ (Builtin.len_ #[28] 3 #[.map (some mb2)]).run Tryd.prog w' = .ok (.int .i64 cc) w' ∧ (Instr.lookup 28 (.map (some mb2)) (.int .i64 x) false).run Tryd.prog w' = .ok (.int .i64 c2) w')
            (first | exact hk6 | exact hk5 | exact hk0d | exact hk0)
            (first
              | (go_at_call 14; refine (cHas _ _ h5).mono ?_; rintro e w6 ⟨rfl, la6, h6⟩; have hk6 := KEEP _ _ h6)
              | (go_at_call 13; refine cCount.mono ?_; rintro e w5 ⟨rfl, h5⟩; have hk5 := KEEP _ _ h5))
          all_goals
            clear hk0 hk0d hk5 hk6 KEEP cHas cCount hRun2 h5
            gi_wp2_with fail
            go_roundw
            case rel => exact ⟨k + 1, la6, mb2, cnt2, S2, by omega, by go_num, by omega, h6⟩
            case measure => simp [intOf]; omega
        · have hm1 : may m x = true := by simp [may]; omega
          have cP := hRun.put x
          rw [hm1, Bool.true_and] at hbS
          rw [hm1, Bool.true_and, hbS] at cP
          have hnil := one_nil (S := S) (x := x)
          have HLK : ∀ (la4 : Option Nat) (w4 : World) (S4 : Nat → Bool), RunIn wb.heap.size a la4 m ib mb cnt wb w4 S4 S → (Instr.lookup 28 (.map (some mb)) (.int .i64 x) false).run Tryd.prog w4 = .ok (.int .i64 (oneAt S x)) w4 := fun _ _ _ h => h.map.look x hw
          have HM : Hid (may m x = true) := hm1
          clear hbS hltS hm1
          generalize oneAt S x = cx at hnil HLK
          generalize inS S x = bx at hnil cP
          gi_wp2_with fail
          refine ⟨trivial, fun h => (by cases h), ?_⟩
          refine (callsIn_wide.2 cP).mono ?_
          rintro e w4 ⟨rfl, la2, hRun4⟩
          clear cP hX hc hRun
          have hX4 : w4.cell? ⟨ib, 0, none⟩ = some (.map (some mb)) := hRun4.box.cell 0
          have hlk4 := HLK _ _ _ hRun4
          obtain ⟨w5, hst, hRun2⟩ := hRun4.store (by omega) x hw HM.out
          clear HLK HM hRun4
          gi_wp2_with fail
          clear hst hX4 hlk4 hnil
          obtain ⟨S2, hS2⟩ : ∃ S2, S2 = putS m S x := ⟨_, rfl⟩
          rw [← hS2] at hRun2
          clear hS2
          obtain ⟨mb2, rfl⟩ : ∃ mb2, mb2 = mb := ⟨_, rfl⟩
          obtain ⟨cnt2, hcn⟩ : ∃ cnt2, cnt2 = cnt + 1 := ⟨_, rfl⟩
          rw [← hcn] at hRun2
          replace hcnt : cnt2 ≤ k + 1 := by omega
          clear hcn
          have hlt2 := set_lt hRun2.one
          have hI := has_in (x := x) hlt2
          have KEEP : ∀ (la4 : Option Nat) (w4 : World), RunIn wb.heap.size a la4 m ib mb2 cnt2 wb w4 S2 S2 → w4.cell? ⟨ib, 0, none⟩ = some (.map (some mb2)) ∧ (Builtin.len_ #[28] 3 #[.map (some mb2)]).run Tryd.prog w4 = .ok (.int .i64 (card S2)) w4 ∧ (Instr.lookup 28 (.map (some mb2)) (.int .i64 x) false).run Tryd.prog w4 = .ok (.int .i64 (oneAt S2 x)) w4 :=
            fun la4 w4 h => ⟨h.box.cell 0, h.map.len _, h.map.look x hw⟩
          have cHas : ∀ (la4 : Option Nat) (w4 : World), RunIn wb.heap.size a la4 m ib mb2 cnt2 wb w4 S2 S2 → Calls Tryd.prog 14 #[.pointer (some ⟨a, 0, none⟩), .int .i64 x] w4 fun e w' => e = .returned (.bool (inS S2 x)) ∧ ∃ la', RunIn wb.heap.size a la' m ib mb2 cnt2 wb w' S2 S2 :=
            fun la4 w4 h => by rw [← hI]; exact h.has x
          have cCount := hRun2.drew.count
          have hk0 := KEEP _ _ hRun2
          have hk0d := KEEP _ _ hRun2.drew
          have hgt2 := one_gt (S := S2) (x := x)
          clear hI hlt2
          generalize card S2 = cc at KEEP cCount hk0 hk0d
          generalize oneAt S2 x = c2 at KEEP hk0 hk0d hgt2
          generalize inS S2 x = b2 at cHas hgt2
          refine wpIn_wide.2 ?_
          go_region_held3 (fun w' => w'.cell? ⟨ib, 0, none⟩ = some (.map (some mb2)) ∧ (Builtin.len_ #[28] 3 #[.map (some mb2)]).run Tryd.prog w' = .ok (.int .i64 cc) w' ∧ (Instr.lookup 28 (.map (some mb2)) (.int .i64 x) false).run Tryd.prog w' = .ok (.int .i64 c2) w')
            (first | exact hk6 | exact hk5 | exact hk0d | exact hk0)
            (first
              | (go_at_call 14; refine (cHas _ _ h5).mono ?_; rintro e w6 ⟨rfl, la6, h6⟩; have hk6 := KEEP _ _ h6)
              | (go_at_call 13; refine cCount.mono ?_; rintro e w5 ⟨rfl, h5⟩; have hk5 := KEEP _ _ h5))
          all_goals
            clear hk0 hk0d hk5 hk6 KEEP cHas cCount hRun2 h5
            gi_wp2_with fail
            go_roundw
            case rel => exact ⟨k + 1, la6, mb2, cnt2, S2, by omega, by go_num, by omega, h6⟩
            case measure => simp [intOf]; omega
    · obtain rfl : k = zs.length := by omega
      gi_wp2_with fail
      refine ⟨trivial, fun h => (by cases h), ?_⟩
      refine (callsIn_wide.2 (all_any a _)).mono ?_
      rintro e w' ⟨rfl, rfl⟩
      have hbs := hRun.below.size
      have hlt6 := hRun.one.lt
      have hib := hRun.box.lt
      have hml := hRun.mlt
      have hgb := hTb.lt
      have hnn : ∀ (W : World) (o : Obj), W.grownBy (W.alloc o) none := fun W o => World.grownBy_alloc W o none
      have hTx := ((hRun.far (n0 := wr.heap.size) (hnn wr (.cells #[.int .i64 (-1)] 3)) hbs hml (fun r e => (by cases e))).far (n0 := wr.heap.size) (hnn _ (.cells #[.int .i64 0] 3)) hbs hml (fun r e => (by cases e))).far (n0 := wr.heap.size) (hnn _ (.cells #[.pointer (some ⟨a, 0, none⟩)] 26)) hbs hml (fun r e => (by cases e))
      have hLB : Blk (((wr.alloc (.cells #[.int .i64 (-1)] 3)).alloc (.cells #[.int .i64 0] 3)).alloc (.cells #[.pointer (some ⟨a, 0, none⟩)] 26)) wr.heap.size #[.int .i64 (-1)] 3 := ((Blk.new wr _ _).alloc _).alloc _
      have hKB : Blk (((wr.alloc (.cells #[.int .i64 (-1)] 3)).alloc (.cells #[.int .i64 0] 3)).alloc (.cells #[.pointer (some ⟨a, 0, none⟩)] 26)) (wr.heap.size + 1) #[.int .i64 0] 3 := by
        have := (Blk.new (wr.alloc (.cells #[.int .i64 (-1)] 3)) #[.int .i64 0] 3).alloc (.cells #[.pointer (some ⟨a, 0, none⟩)] 26)
        simpa using this
      have hx : (((wr.alloc (.cells #[.int .i64 (-1)] 3)).alloc (.cells #[.int .i64 0] 3)).alloc (.cells #[.pointer (some ⟨a, 0, none⟩)] 26)).cell? ⟨wr.heap.size + 1 + 1, 0, none⟩ = some (.pointer (some ⟨a, 0, none⟩)) := by
        have := (Blk.new ((wr.alloc (.cells #[.int .i64 (-1)] 3)).alloc (.cells #[.int .i64 0] 3)) #[.pointer (some ⟨a, 0, none⟩)] 26).cell 0
        simpa using this
      have hs6 : (((wr.alloc (.cells #[.int .i64 (-1)] 3)).alloc (.cells #[.int .i64 0] 3)).alloc (.cells #[.pointer (some ⟨a, 0, none⟩)] 26)).heap.size = wr.heap.size + 3 := by simp
      have hT6 : TabAt (((wr.alloc (.cells #[.int .i64 (-1)] 3)).alloc (.cells #[.int .i64 0] 3)).alloc (.cells #[.pointer (some ⟨a, 0, none⟩)] 26)) := fun j hj => (hTx.below.cell (p := ⟨0, j, none⟩) hTb.lt).trans (hTb j hj)
      gi_wp2_with fail
      generalize ((wr.alloc (.cells #[.int .i64 (-1)] 3)).alloc (.cells #[.int .i64 0] 3)).alloc (.cells #[.pointer (some ⟨a, 0, none⟩)] 26) = W6 at *
      clear hRun hnn
      generalize wr.heap.size = s0 at *
      refine wpIn_rangeFunc_ownF rfl (by omega) (gf := 32) (lb := #[.pointer (some ⟨s0 + 1 + 1, 0, none⟩)]) rfl trivial (enters_of Tryd.func32 (by kernel_rfl) rfl)
        (all_stopsF (N - 1) a la (s0 + 1 + 1) m S W6 hTx.one hT6 hx) KpSet.trans (fun W l o o' hl _ _ _ => KpSet.putObj (n0 := W6.heap.size) (by omega) (fun l hl => by have := hlt6.2 l hl; omega) (by omega) (by omega) W l o' hl) (Below.refl _ _) (fun _ => rfl)
        (fun (pre : List (Fin 4096)) W => RunIn wb.heap.size a la m ib mb cnt wb W S S ∧ Blk W s0 #[.int .i64 (lastI (pre.map Fin.val))] 3 ∧ Blk W (s0 + 1) #[.int .i64 (pre.length : Int)] 3)
        (fun _ (pre : List (Fin 4096)) _ => ∃ (q : List (Fin 4096)) (x : Fin 4096), pre = q ++ [x] ∧ ((x.val : Int) ≤ lastI (q.map Fin.val) ∨ S x.val = false))
        (fun pre W W' row hs hg hr => ⟨hs.1.far hg (n0 := W6.heap.size) (by omega) (by omega) hr, hs.2.1.kept hg (fun r e => (hr r e).2), hs.2.2.kept hg (fun r e => (hr r e).2)⟩)
        (fun _ _ _ _ _ hs _ _ => hs)
        ⟨hTx, hLB, hKB⟩ ?a1 ?assign ?body ?done ?stop
      case assign =>
        intro l0 x W K hK
        gi_wp2
        exact hK
      case body =>
        rintro l0 pre x W ⟨hI, hLW, hKW⟩ hlen
        have hX2 : W.cell? ⟨ib, 0, none⟩ = some (.map (some mb)) := hI.box.cell 0
        have hxw : (Lit.int .i64 ((x.val : Nat) : Int)).wf = true := WalkArith.wf_i64 (by have := x.isLt; omega)
        have hlk := hI.map.look _ hxw
        have hnil := one_nil (S := S) (x := ((x.val : Nat) : Int))
        rw [inS_nat] at hnil
        have hcL := hLW.cell 0
        have hcK := hKW.cell 0
        have hzL := hLW.free 0
        have hzK := hKW.free 0
        simp only [List.getElem?_toArray, List.getElem?_cons_zero] at hcL hcK
        have hRW : W.cell? ⟨w.heap.size, 0, none⟩ = some (.bool false) := (hI.below.cell (p := ⟨w.heap.size, 0, none⟩) hR.lt).trans (hR.cell 0)
        have hZW : W.frozen? ⟨w.heap.size, 0, none⟩ = false := (hI.below.frozen (p := ⟨w.heap.size, 0, none⟩) hR.lt).trans (hR.free 0)
        have hp0 : (pre.length : Int) ≤ 4096 := by omega
        obtain ⟨xn, hxn⟩ : ∃ xn, xn = x.val := ⟨_, rfl⟩
        rw [← hxn] at hlk hnil hxw ⊢
        have HXN : Hid (xn = x.val) := hxn
        clear hxn
        obtain ⟨L, hL⟩ : ∃ L, L = lastI (pre.map Fin.val) := ⟨_, rfl⟩
        rw [← hL] at hcL
        have HL : Hid (L = lastI (pre.map Fin.val)) := hL
        clear hL
        have hLW2 := hLW
        clear hLW
        generalize oneAt S (xn : Int) = cx at hlk hnil
        by_cases hx1 : (xn : Int) ≤ L
        · clear hnil
          gi_wp2
          exact ⟨KeepsOthers.setCell _ _ _, pre, x, rfl, .inl (by rw [← HXN.out, ← HL.out]; exact hx1)⟩
        · have hx1' : decide ((xn : Int) ≤ L) = false := by simpa using hx1
          cases hSx : S xn with
          | false =>
            rw [hSx, Bool.not_false] at hnil
            have HS : Hid (S xn = false) := hSx
            clear hSx
            gi_wp2
            exact ⟨KeepsOthers.setCell _ _ _, pre, x, rfl, .inr (by rw [← HXN.out]; exact HS.out)⟩
          | true =>
            rw [hSx, Bool.not_true] at hnil
            clear hSx
            have hne : ∀ v, (W.setCell ⟨s0, 0, none⟩ v).cell? ⟨s0 + 1, 0, none⟩ = some (.int .i64 (pre.length : Int)) := fun v => cell_setBlock hcK (by simp)
            gi_wp2
            refine ⟨(KeepsOthers.setCell _ _ _).trans (KeepsOthers.setCell _ _ _), KpSet.trans (KpSet.cellFar _ _ _ (by omega) (fun e => by have := hlt6.2 _ e; omega) (by omega) (by omega)) (KpSet.cellFar _ _ _ (by omega) (fun e => by have := hlt6.2 _ e; omega) (by omega) (by omega)), ?_, ?_, ?_⟩
            · have hB2 := (hI.beside s0 (.int .i64 (xn : Int)) (by omega) (by omega) (fun e => by have := hlt6.2 _ e; omega) (by omega) (by omega)).beside (s0 + 1) (.int .i64 ((pre.length : Int) + 1)) (by omega) (by omega) (fun e => by have := hlt6.2 _ e; omega) (by omega) (by omega)
              rw [hsb] at hB2
              exact hB2
            · refine Blk.is (((hLW2.setAt 0 _)).setOther _ _ (by simp)) ?_
              rw [List.map_append, List.map_cons, List.map_nil, lastI_snoc, ← HXN.out]
              simp
            · refine Blk.is ((hKW.setOther _ _ (by simp)).setAt 0 _) ?_
              simp
      case done =>
        rintro D xs W hD hxs ⟨hI, hLW, hKW⟩ hK
        have hlen : xs.length = card S := by
          rw [← elems_card S m hI.one.1 (set_lt hI.one), ← hxs, List.length_map]
        rw [hlen] at hKW
        have hX2 : W.cell? ⟨ib, 0, none⟩ = some (.map (some mb)) := hI.box.cell 0
        have hml2 := hI.map.len 3
        have hcK := hKW.cell 0
        simp only [List.getElem?_toArray, List.getElem?_cons_zero] at hcK
        have cLen := len_any a la m S W hI.one
        clear hlen hxs hLW
        generalize card S = cc at *
        gi_wp2_with fail
        refine ⟨trivial, fun h => (by cases h), ?_⟩
        refine (callsIn_wide.2 cLen).mono ?_
        rintro e w8 ⟨rfl, rfl⟩
        have hDl : D < W.heap.size := (Array.getElem?_eq_some_iff.mp hK).1
        have hR8 : W.cell? ⟨w.heap.size, 0, none⟩ = some (.bool false) := (hI.below.cell (p := ⟨w.heap.size, 0, none⟩) hR.lt).trans (hR.cell 0)
        have hZ8 : W.frozen? ⟨w.heap.size, 0, none⟩ = false := (hI.below.frozen (p := ⟨w.heap.size, 0, none⟩) hR.lt).trans (hR.free 0)
        have hB8 := hI.below
        clear hI hKW cLen hml2 hX2 hcK
        gi_wp2_with fail
        have hK9 := (KeepsOthers.setCell W ⟨w.heap.size, 0, none⟩ (.bool true)).same D _ hK rfl
        have hR9 : (W.setCell ⟨w.heap.size, 0, none⟩ (.bool true)).cell? ⟨w.heap.size, 0, none⟩ = some (.bool true) := World.cell?_setCell_same _ _ _ hR8
        have hBb9 := (hBb.trans (hB8.mono (by omega))).setCell (p := ⟨w.heap.size, 0, none⟩) (Nat.le_refl _) (.bool true)
        generalize W.setCell ⟨w.heap.size, 0, none⟩ (.bool true) = V at *
        have hDD : w.heap.size < D := by omega
        refine ⟨by simp, .inl ⟨D, _, rfl, run_takeDeferred hK9, ?_⟩⟩
        have hRF : (V.putObj D (.deferred none)).cell? ⟨w.heap.size, 0, none⟩ = some (.bool true) := by
          exact (World.cell?_of_block (w := V) (World.putObj_heap_other (by simp; omega))).trans hR9
        have hBF : Below w.heap.size w (V.putObj D (.deferred none)) :=
          ⟨hBb9.os, hBb9.tape, hBb9.output, by have := hBb9.size; simp; omega, fun k hk => by rw [World.putObj_heap_other (by omega), hBb9.block k hk]⟩
        generalize V.putObj D (.deferred none) = V2 at *
        refine ⟨.bool true, ?_, rfl, hBF⟩
        simp [results, Tryd.f3, go_sem, hRF]
      case stop =>
        rintro D c pre W hD ⟨i, j, hj, hpre⟩ ⟨q, x, e1, e2⟩ hK
        exfalso
        rw [e1, elems_next hj, List.map_append] at hpre
        obtain ⟨h4, h5⟩ := List.append_inj' hpre rfl
        have h6 : x.val = j := by simpa using h5
        rw [h4, h6] at e2
        rcases e2 with e2 | e2
        · have := lastI_elems S i
          have := hj.1
          omega
        · rw [hj.2.1] at e2; cases e2
end Go.Proofs.YtbahichdoafliaaDoor
