/- ConfigEdges: the loop, by itself; at this seat's numbers. -/
import Derived.Test.YtaoankajpknncaaDoorCfU
namespace Go.Proofs.YtaoankajpknncaaDoor
open Go Go.RowKit
set_option linter.unusedSimpArgs false
set_option linter.unusedVariables false
attribute [local go_sem] Oper.semAt_some

/-- What stands while the six numbers are gone through. -/
structure EdI (w : World) (m : Cfg) (k bc bl bh bs : Nat) (xs : Array Value) (wr : World) : Prop where
  cfg : ∃ x, Blk wr bc (m.put k x).arr 23
  low : Blk wr bl lowCells 32
  high : Blk wr bh highCells 32
  row : Blk wr bs xs 3
  below : Below w.heap.size w wr
def firstLoop : Code → Option Code
  | .loop c => some c
  | .seq a b => match firstLoop a with
    | some c => some c
    | none => firstLoop b
  | .block _ c => firstLoop c
  | .scope c => firstLoop c
  | .cond _ a b => match firstLoop a with
    | some c => some c
    | none => firstLoop b
  | _ => none
noncomputable def edBody : Code := (Tryd.f4.body.bind firstLoop).getD .skip

set_option maxRecDepth 100000 in
set_option maxHeartbeats 8000000 in
theorem edge_round (w : World) (m : Cfg) (k bc bs : Nat) (hk : k < 10) (lo hi : Int) (hlo : lowB k = lo) (hhi : highB k = hi) (hmay : ∀ x, (m.put k x).may = inB x lo hi) (xs : Array Value) (hsz : w.heap.size ≤ bc) (hbs : bc + 2 < bs) (hxi : ∀ n, n < 6 → ∃ x : Int, xs[n]? = some (.int .i64 x)) (n : Nat) (hn : n ≤ 6) (s0 s1 s2 s3 s4 s5 s6 s12 s14 s15 s16 s17 s18 s19 s20 s21 s22 s23 s24 s25 s26 s27 s28 s29 s30 s31 s32 s33 s34 s35 s36 s37 s38 s39 s40 s41 s42 s43 s44 s45 s46 s47 s48 s49 s50 s51 s52 s53 s54 s55 s56 s57 s58 s59 s60 s61 s62 u13 u66 u67 u68 u69 u70 u71 u72 u73 u74 u75 u76 u77 u78 u79 u80 u81 u82 u83 u84 u85 u86 u87 u88 : Value) (wr : World) (hI : EdI w m k bc (bc + 1) (bc + 1 + 1) bs xs wr) (Q0 : Exit → Act → World → Prop)
    (hQn : n < 6 → ∀ w6, EdI w m k bc (bc + 1) (bc + 1 + 1) bs xs w6 → ∀ v65 : Value, v65 = .int .i64 ((n + 1 : Nat) : Int) → ∀ u13 u66 u67 u68 u69 u70 u71 u72 u73 u74 u75 u76 u77 u78 u79 u80 u81 u82 u83 u84 u85 u86 u87 u88 : Value, Q0 .normal ⟨#[s0, s1, s2, s3, s4, s5, s6, .pointer (some ⟨bc, 0, none⟩), .pointer (some ⟨bc + 1, 0, none⟩), .pointer (some ⟨bc + 1 + 1, 0, none⟩), .int .i64 (k : Int), .pointer (some ⟨bc, offB k, none⟩), s12, u13, s14, s15, s16, s17, s18, s19, s20, s21, s22, s23, s24, s25, s26, s27, s28, s29, s30, s31, s32, s33, s34, s35, s36, s37, s38, s39, s40, s41, s42, s43, s44, s45, s46, s47, s48, s49, s50, s51, s52, s53, s54, s55, s56, s57, s58, s59, s60, s61, s62, .slice (some ⟨bs, 0, none⟩) 6 6, .int .i64 6, v65, u66, u67, u68, u69, u70, u71, u72, u73, u74, u75, u76, u77, u78, u79, u80, u81, u82, u83, u84, u85, u86, u87, u88], []⟩ w6)
    (hQe : n = 6 → ∀ u13 u66 u67 u68 u69 u70 u71 u72 u73 u74 u75 u76 u77 u78 u79 u80 u81 u82 u83 u84 u85 u86 u87 u88 : Value, Q0 (.exit 0) ⟨#[s0, s1, s2, s3, s4, s5, s6, .pointer (some ⟨bc, 0, none⟩), .pointer (some ⟨bc + 1, 0, none⟩), .pointer (some ⟨bc + 1 + 1, 0, none⟩), .int .i64 (k : Int), .pointer (some ⟨bc, offB k, none⟩), s12, u13, s14, s15, s16, s17, s18, s19, s20, s21, s22, s23, s24, s25, s26, s27, s28, s29, s30, s31, s32, s33, s34, s35, s36, s37, s38, s39, s40, s41, s42, s43, s44, s45, s46, s47, s48, s49, s50, s51, s52, s53, s54, s55, s56, s57, s58, s59, s60, s61, s62, .slice (some ⟨bs, 0, none⟩) 6 6, .int .i64 6, .int .i64 (n : Int), u66, u67, u68, u69, u70, u71, u72, u73, u74, u75, u76, u77, u78, u79, u80, u81, u82, u83, u84, u85, u86, u87, u88], []⟩ wr) :
    Code.wp Tryd.prog edBody Q0 ⟨#[s0, s1, s2, s3, s4, s5, s6, .pointer (some ⟨bc, 0, none⟩), .pointer (some ⟨bc + 1, 0, none⟩), .pointer (some ⟨bc + 1 + 1, 0, none⟩), .int .i64 (k : Int), .pointer (some ⟨bc, offB k, none⟩), s12, u13, s14, s15, s16, s17, s18, s19, s20, s21, s22, s23, s24, s25, s26, s27, s28, s29, s30, s31, s32, s33, s34, s35, s36, s37, s38, s39, s40, s41, s42, s43, s44, s45, s46, s47, s48, s49, s50, s51, s52, s53, s54, s55, s56, s57, s58, s59, s60, s61, s62, .slice (some ⟨bs, 0, none⟩) 6 6, .int .i64 6, .int .i64 (n : Int), u66, u67, u68, u69, u70, u71, u72, u73, u74, u75, u76, u77, u78, u79, u80, u81, u82, u83, u84, u85, u86, u87, u88], []⟩ wr := by
  conv => arg 2; whnf
  have HQN := Lib.hid hQn
  have HQE := Lib.hid hQe
  have HSZ := Lib.hid hsz
  have hkI : (k : Int) < 10 := by omega
  have hk0 : (0 : Int) ≤ (k : Int) := by omega
  have HDH := Lib.hid (And.intro hlo hhi)
  have HMAY := Lib.hid hmay
  have HXI := Lib.hid hxi
  clear hQn hQe hlo hhi hmay hxi hsz
  by_cases hlt : n < 6
  · have hltI : (n : Int) < 6 := by omega
    obtain ⟨x, hx⟩ := HXI.out n hlt
    have hcx := (hI.row.cell n).trans hx
    clear hx
    obtain ⟨x0, hb⟩ := hI.cfg
    have hsz := HSZ.out
    have hb2 : Blk (wr.setCell ⟨bc, offB k, none⟩ (.int .i64 x)) bc (m.put k x).arr 23 := (hb.setAt (offB k) (.int .i64 x)).is (by rw [← Cfg.put_arr _ k hk, Cfg.put_put _ k hk])
    have g0 := (hb.cell (offB k)).trans (Cfg.put_off _ k hk)
    have y0 := hb.free (offB k)
    have hT : Turn (fun j => j = bc) wr (wr.setCell ⟨bc, offB k, none⟩ (.int .i64 x)) := (Turn.refl (fun j => j = bc) wr).set _ _ (.inr rfl)
    have hl2 := hI.low.turn hT (by omega)
    have hh2 := hI.high.turn hT (by omega)
    have hr2 := hI.row.turn hT (by omega)
    have hB2 := hI.below.trans (hT.below w.heap.size hI.below.size (fun j hj e => by omega))
    obtain ⟨hlo, hhi⟩ := HDH.out
    have cK := check_any (m.put k x) (wr.setCell ⟨bc, offB k, none⟩ (.int .i64 x)).drew
    have hmc := HMAY.out x
    have hkp : ∀ w6, Below (wr.setCell ⟨bc, offB k, none⟩ (.int .i64 x)).drew.heap.size (wr.setCell ⟨bc, offB k, none⟩ (.int .i64 x)).drew w6 → EdI w m k bc (bc + 1) (bc + 1 + 1) bs xs w6 ∧ Blk w6 bc (m.put k x).arr 23 := fun w6 hB6 => by
      have t := Turn.ofBelow hB6
      have q1 := hb2.drew.turn t (fun h => absurd hb2.lt (Nat.not_lt.2 h))
      exact ⟨⟨⟨x, q1⟩, hl2.drew.turn t (fun h => absurd hl2.lt (Nat.not_lt.2 h)), hh2.drew.turn t (fun h => absurd hh2.lt (Nat.not_lt.2 h)), hr2.drew.turn t (fun h => absurd hr2.lt (Nat.not_lt.2 h)), Below.on hB2.drew (Nat.le_refl _) hB6⟩, q1⟩
    have hlk := low_at k hk
    have hhk := high_at k hk
    rw [hlo] at hlk
    rw [hhi] at hhk
    clear hI hb hb2 hT hl2 hh2 hr2 hB2 hlo hhi hsz
    generalize m.put k x = c1 at *
    have hkeep : ∀ w6, Below (wr.setCell ⟨bc, offB k, none⟩ (.int .i64 x)).drew.heap.size (wr.setCell ⟨bc, offB k, none⟩ (.int .i64 x)).drew w6 → (w6.cell? ⟨bc, 0, none⟩ = some (.int .i64 c1.e) ∧ w6.cell? ⟨bc, 1, none⟩ = some (.bool c1.k) ∧ w6.cell? ⟨bc, 2, none⟩ = some (.int .i64 c1.p) ∧ w6.cell? ⟨bc, 3, none⟩ = some (.int .i64 c1.t) ∧ w6.cell? ⟨bc, 4, none⟩ = some (.int .i64 c1.r) ∧ w6.cell? ⟨bc, 5, none⟩ = some (.int .i64 c1.s) ∧ w6.cell? ⟨bc, 6, none⟩ = some (.int .i64 c1.g) ∧ w6.cell? ⟨bc, 7, none⟩ = some (.int .i64 c1.f) ∧ w6.cell? ⟨bc, 8, none⟩ = some (.int .i64 c1.m) ∧ w6.cell? ⟨bc, 9, none⟩ = some (.int .i64 c1.l) ∧ w6.cell? ⟨bc, 10, none⟩ = some (.int .i64 c1.b) ∧ w6.cell? ⟨bc + 1, k, none⟩ = some (.int .i64 lo) ∧ w6.cell? ⟨bc + 1 + 1, k, none⟩ = some (.int .i64 hi)) := fun w6 hB6 => by
      obtain ⟨hE, hb⟩ := hkp w6 hB6
      exact ⟨(hb.cell 0).trans rfl, (hb.cell 1).trans rfl, (hb.cell 2).trans rfl, (hb.cell 3).trans rfl, (hb.cell 4).trans rfl, (hb.cell 5).trans rfl, (hb.cell 6).trans rfl, (hb.cell 7).trans rfl, (hb.cell 8).trans rfl, (hb.cell 9).trans rfl, (hb.cell 10).trans rfl, (hE.low.cell k).trans hlk, (hE.high.cell k).trans hhk⟩
    have hst := hkeep _ (Below.refl _ _)
    have HST := Lib.hid (And.intro hst hkeep)
    have HE := Lib.hid (fun w6 hB6 => (hkp w6 hB6).1)
    clear hkp hlk hhk hst hkeep
    by_cases h1 : lo ≤ x
    · by_cases h2 : x ≤ hi
      · skip
        rw [show c1.may = true by rw [hmc]; simp [inB, h1, h2], show chkV true = 0 from rfl] at cK
        clear hmc
        have HCK := Lib.hid cK
        clear cK
        go_wp2_with fail
        have cK := HCK.out
        obtain ⟨hst, hkeep⟩ := HST.out
        clear HCK HST g0 y0 hcx
        refine edge_in bc k hkI hk0 x lo hi h1 h2 c1 _ _ _ _ _ _ _ _ _ _ _ _ _ _ _ _ _ _ _ _ _ _ _ _ _ _ _ _ _ _ _ _ _ _ _ _ _ _ _ _ _ _ _ _ _ _ _ _ _ _ _ _ _ _ _ _ _ _ _ _ _ _ _ _ _ _ _ _ _ _ _ _ _ _ _ _ _ _ _ _ _ _ _ _ _ hst hkeep cK _ ?_
        intro w6 hB6 y72 y73 y74 y75 y76 y77 y78 y79 y80 y81 y82 y83 y84 y85 y86
        have hE := HE.out w6 hB6
        clear cK hB6 hst hkeep HE
        have HE := Lib.hid hE
        clear hE
        go_wp2_with fail
        exact HQN.out hlt w6 HE.out _ (by go_num) _ _ _ _ _ _ _ _ _ _ _ _ _ _ _ _ _ _ _ _ _ _ _ _
      · skip
        rw [show c1.may = false by rw [hmc]; simp [inB, h2], show chkV false = 11 from rfl] at cK
        clear hmc
        have HCK := Lib.hid cK
        clear cK
        go_wp2_with fail
        have cK := HCK.out
        obtain ⟨hst, hkeep⟩ := HST.out
        clear HCK HST g0 y0 hcx
        refine edge_over bc k hkI hk0 x lo hi h1 (Int.not_le.2 h2) c1 _ _ _ _ _ _ _ _ _ _ _ _ _ _ _ _ _ _ _ _ _ _ _ _ _ _ _ _ _ _ _ _ _ _ _ _ _ _ _ _ _ _ _ _ _ _ _ _ _ _ _ _ _ _ _ _ _ _ _ _ _ _ _ _ _ _ _ _ _ _ _ _ _ _ _ _ _ _ _ _ _ _ _ _ _ hst hkeep cK _ ?_
        intro w6 hB6 y72 y73 y74 y75 y76 y77 y78 y79 y80 y81 y82 y83 y84 y85 y86
        have hE := HE.out w6 hB6
        clear cK hB6 hst hkeep HE
        have HE := Lib.hid hE
        clear hE
        go_wp2_with fail
        exact HQN.out hlt w6 HE.out _ (by go_num) _ _ _ _ _ _ _ _ _ _ _ _ _ _ _ _ _ _ _ _ _ _ _ _
    · skip
      rw [show c1.may = false by rw [hmc]; simp [inB, h1], show chkV false = 11 from rfl] at cK
      clear hmc
      have HCK := Lib.hid cK
      clear cK
      go_wp2_with fail
      have cK := HCK.out
      obtain ⟨hst, hkeep⟩ := HST.out
      clear HCK HST g0 y0 hcx
      refine edge_under bc k hkI hk0 x lo hi (Int.not_le.2 h1) c1 _ _ _ _ _ _ _ _ _ _ _ _ _ _ _ _ _ _ _ _ _ _ _ _ _ _ _ _ _ _ _ _ _ _ _ _ _ _ _ _ _ _ _ _ _ _ _ _ _ _ _ _ _ _ _ _ _ _ _ _ _ _ _ _ _ _ _ _ _ _ _ _ _ _ _ _ _ _ _ _ _ _ _ _ _ hst hkeep cK _ ?_
      intro w6 hB6 y72 y73 y74 y75 y76 y77 y78 y79 y80 y81 y82 y83 y84 y85 y86
      have hE := HE.out w6 hB6
      clear cK hB6 hst hkeep HE
      have HE := Lib.hid hE
      clear hE
      go_wp2_with fail
      exact HQN.out hlt w6 HE.out _ (by go_num) _ _ _ _ _ _ _ _ _ _ _ _ _ _ _ _ _ _ _ _ _ _ _ _
  · obtain rfl : n = 6 := by omega
    have hN : ¬ ((6 : Nat) : Int) < 6 := by omega
    clear hI hlt hn
    go_wp2_with fail
    exact HQE.out (by trivial) _ _ _ _ _ _ _ _ _ _ _ _ _ _ _ _ _ _ _ _ _ _ _ _

def EdL (w : World) (m : Cfg) (k bc bs : Nat) (xs : Array Value) (s0 s1 s2 s3 s4 s5 s6 s12 s14 s15 s16 s17 s18 s19 s20 s21 s22 s23 s24 s25 s26 s27 s28 s29 s30 s31 s32 s33 s34 s35 s36 s37 s38 s39 s40 s41 s42 s43 s44 s45 s46 s47 s48 s49 s50 s51 s52 s53 s54 s55 s56 s57 s58 s59 s60 s61 s62 : Value) (a : Act) (wr : World) : Prop :=
  ∃ n : Nat, ∃ u13 u66 u67 u68 u69 u70 u71 u72 u73 u74 u75 u76 u77 u78 u79 u80 u81 u82 u83 u84 u85 u86 u87 u88 : Value, n ≤ 6 ∧ EdI w m k bc (bc + 1) (bc + 1 + 1) bs xs wr ∧ a = ⟨#[s0, s1, s2, s3, s4, s5, s6, .pointer (some ⟨bc, 0, none⟩), .pointer (some ⟨bc + 1, 0, none⟩), .pointer (some ⟨bc + 1 + 1, 0, none⟩), .int .i64 (k : Int), .pointer (some ⟨bc, offB k, none⟩), s12, u13, s14, s15, s16, s17, s18, s19, s20, s21, s22, s23, s24, s25, s26, s27, s28, s29, s30, s31, s32, s33, s34, s35, s36, s37, s38, s39, s40, s41, s42, s43, s44, s45, s46, s47, s48, s49, s50, s51, s52, s53, s54, s55, s56, s57, s58, s59, s60, s61, s62, .slice (some ⟨bs, 0, none⟩) 6 6, .int .i64 6, .int .i64 (n : Int), u66, u67, u68, u69, u70, u71, u72, u73, u74, u75, u76, u77, u78, u79, u80, u81, u82, u83, u84, u85, u86, u87, u88], []⟩
set_option maxRecDepth 100000 in
set_option maxHeartbeats 8000000 in
theorem edge_loop (w : World) (m : Cfg) (k bc bs : Nat) (hk : k < 10) (lo hi : Int) (hlo : lowB k = lo) (hhi : highB k = hi) (hmay : ∀ x, (m.put k x).may = inB x lo hi) (xs : Array Value) (hsz : w.heap.size ≤ bc) (hbs : bc + 2 < bs) (hxi : ∀ n, n < 6 → ∃ x : Int, xs[n]? = some (.int .i64 x)) (s0 s1 s2 s3 s4 s5 s6 s12 s14 s15 s16 s17 s18 s19 s20 s21 s22 s23 s24 s25 s26 s27 s28 s29 s30 s31 s32 s33 s34 s35 s36 s37 s38 s39 s40 s41 s42 s43 s44 s45 s46 s47 s48 s49 s50 s51 s52 s53 s54 s55 s56 s57 s58 s59 s60 s61 s62 u13 u66 u67 u68 u69 u70 u71 u72 u73 u74 u75 u76 u77 u78 u79 u80 u81 u82 u83 u84 u85 u86 u87 u88 : Value) (wr : World) (hI : EdI w m k bc (bc + 1) (bc + 1 + 1) bs xs wr) (Q : Exit → Act → World → Prop)
    (hQ : ∀ w6, Below w.heap.size w w6 → ∀ v65 u13 u66 u67 u68 u69 u70 u71 u72 u73 u74 u75 u76 u77 u78 u79 u80 u81 u82 u83 u84 u85 u86 u87 u88 : Value, Q (.exit 0) ⟨#[s0, s1, s2, s3, s4, s5, s6, .pointer (some ⟨bc, 0, none⟩), .pointer (some ⟨bc + 1, 0, none⟩), .pointer (some ⟨bc + 1 + 1, 0, none⟩), .int .i64 (k : Int), .pointer (some ⟨bc, offB k, none⟩), s12, u13, s14, s15, s16, s17, s18, s19, s20, s21, s22, s23, s24, s25, s26, s27, s28, s29, s30, s31, s32, s33, s34, s35, s36, s37, s38, s39, s40, s41, s42, s43, s44, s45, s46, s47, s48, s49, s50, s51, s52, s53, s54, s55, s56, s57, s58, s59, s60, s61, s62, .slice (some ⟨bs, 0, none⟩) 6 6, .int .i64 6, v65, u66, u67, u68, u69, u70, u71, u72, u73, u74, u75, u76, u77, u78, u79, u80, u81, u82, u83, u84, u85, u86, u87, u88], []⟩ w6) :
    Code.wp Tryd.prog (Code.loop edBody) Q ⟨#[s0, s1, s2, s3, s4, s5, s6, .pointer (some ⟨bc, 0, none⟩), .pointer (some ⟨bc + 1, 0, none⟩), .pointer (some ⟨bc + 1 + 1, 0, none⟩), .int .i64 (k : Int), .pointer (some ⟨bc, offB k, none⟩), s12, u13, s14, s15, s16, s17, s18, s19, s20, s21, s22, s23, s24, s25, s26, s27, s28, s29, s30, s31, s32, s33, s34, s35, s36, s37, s38, s39, s40, s41, s42, s43, s44, s45, s46, s47, s48, s49, s50, s51, s52, s53, s54, s55, s56, s57, s58, s59, s60, s61, s62, .slice (some ⟨bs, 0, none⟩) 6 6, .int .i64 6, .int .i64 0, u66, u67, u68, u69, u70, u71, u72, u73, u74, u75, u76, u77, u78, u79, u80, u81, u82, u83, u84, u85, u86, u87, u88], []⟩ wr := by
  refine wp_loop (EdL w m k bc bs xs s0 s1 s2 s3 s4 s5 s6 s12 s14 s15 s16 s17 s18 s19 s20 s21 s22 s23 s24 s25 s26 s27 s28 s29 s30 s31 s32 s33 s34 s35 s36 s37 s38 s39 s40 s41 s42 s43 s44 s45 s46 s47 s48 s49 s50 s51 s52 s53 s54 s55 s56 s57 s58 s59 s60 s61 s62) (fun a _ => 6 - (intOf (a.tmps.getD 65 undef)).toNat) ⟨0, u13, u66, u67, u68, u69, u70, u71, u72, u73, u74, u75, u76, u77, u78, u79, u80, u81, u82, u83, u84, u85, u86, u87, u88, by decide, hI, rfl⟩ ?_
  rintro a w1 ⟨n, u13, u66, u67, u68, u69, u70, u71, u72, u73, u74, u75, u76, u77, u78, u79, u80, u81, u82, u83, u84, u85, u86, u87, u88, hn, hI1, rfl⟩
  refine edge_round w m k bc bs hk lo hi hlo hhi hmay xs hsz hbs hxi n hn s0 s1 s2 s3 s4 s5 s6 s12 s14 s15 s16 s17 s18 s19 s20 s21 s22 s23 s24 s25 s26 s27 s28 s29 s30 s31 s32 s33 s34 s35 s36 s37 s38 s39 s40 s41 s42 s43 s44 s45 s46 s47 s48 s49 s50 s51 s52 s53 s54 s55 s56 s57 s58 s59 s60 s61 s62 u13 u66 u67 u68 u69 u70 u71 u72 u73 u74 u75 u76 u77 u78 u79 u80 u81 u82 u83 u84 u85 u86 u87 u88 w1 hI1 _ ?_ ?_
  · rintro hlt w6 h6 _ rfl z13 z66 z67 z68 z69 z70 z71 z72 z73 z74 z75 z76 z77 z78 z79 z80 z81 z82 z83 z84 z85 z86 z87 z88
    refine ⟨⟨n + 1, z13, z66, z67, z68, z69, z70, z71, z72, z73, z74, z75, z76, z77, z78, z79, z80, z81, z82, z83, z84, z85, z86, z87, z88, by omega, h6, rfl⟩, ?_⟩
    show 6 - ((n + 1 : Nat) : Int).toNat < 6 - (n : Int).toNat
    omega
  · rintro rfl z13 z66 z67 z68 z69 z70 z71 z72 z73 z74 z75 z76 z77 z78 z79 z80 z81 z82 z83 z84 z85 z86 z87 z88
    exact hQ w1 hI1.below _ z13 z66 z67 z68 z69 z70 z71 z72 z73 z74 z75 z76 z77 z78 z79 z80 z81 z82 z83 z84 z85 z86 z87 z88
end Go.Proofs.YtaoankajpknncaaDoor
