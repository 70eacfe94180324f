/- ThreadApart, walked, at this seat's numbers. -/
import Derived.Test.YtfipflghnhfcjaaThP
namespace Go.Proofs.Ytfipflghnhfcjaa
open Go Go.RowKit Go.Shelf
set_option linter.unusedSimpArgs false
set_option linter.unusedVariables false
attribute [local go_sem] Oper.semAt_some

def AprA (B ta tb tc len : Nat) (wb : World) (v35 : Value) (wr : World) : Prop :=
  ∃ (i : Nat) (f : Nat → Int) (st : List Int), i ≤ len ∧ v35 = .int .i64 (i : Int) ∧ Tri B ta tb tc f (fun _ => 0) f st [] st wb wr
def AprB (B ta tb tc len : Nat) (f : Nat → Int) (st : List Int) (wb : World) (v50 : Value) (wr : World) : Prop :=
  ∃ (i : Nat) (g : Nat → Int) (su : List Int), i ≤ len ∧ v50 = .int .i64 (i : Int) ∧ Tri B ta tb tc f g f st su st wb wr
def AprC (B ta tb tc : Nat) (f g : Nat → Int) (st su : List Int) (wb : World) (v64 : Value) (wr : World) : Prop :=
  ∃ i : Nat, i ≤ 3 ∧ v64 = .int .i64 (i : Int) ∧ Tri B ta tb tc f g f st su st wb wr
def AprD (B ta tb tc : Nat) (f g : Nat → Int) (su : List Int) (wb : World) (n : Nat) (wr : World) : Prop :=
  ∃ st : List Int, st.length = n ∧ Tri B ta tb tc f g f st su st wb wr

/-- How deep the stack is that a thread's cell shows. -/
def lenW (t : Nat) (w : World) : Nat := match w.cell? ⟨t, 3, none⟩ with
  | some (.slice _ n _) => n
  | _ => 0
theorem Tri.lenW {B ta tb tc : Nat} {fa fb fc : Nat → Int} {sa sb sc : List Int} {wb wr : World} (h : Tri B ta tb tc fa fb fc sa sb sc wb wr) : lenW ta wr = sa.length := by
  obtain ⟨X, Y, Z, rfl, e2, e3, h1, _⟩ := h.ex
  have c := h1.c3
  unfold Go.Proofs.Ytfipflghnhfcjaa.lenW
  rw [c]
  rcases h1.stk.is with ⟨e, e2⟩ | ⟨g, cap, cur, e, _⟩
  · rw [e, e2]; rfl
  · rw [e]
def AprE (B ta tb tc : Nat) (f g : Nat → Int) (su : List Int) (wb : World) (wr : World) : Prop :=
  ∃ st : List Int, Tri B ta tb tc f g f st su st wb wr

set_option maxRecDepth 100000 in
set_option maxHeartbeats 8000000 in
theorem apart_true (a0 : Option Addr) (len cap : Nat) (Q : Nat → Nat → Int) (a1 : Option Addr) (len1 cap1 : Nat) (Q1 : Nat → Nat → Int) (w : World) (hl0 : len ≤ 9223372036854775807) (hl1 : len1 ≤ 9223372036854775807) (hZ : TripAt w a0 len Q) (hZ1 : TripAt w a1 len1 Q1) :
    Calls Try.prog 6 #[.slice a0 len cap, .slice a1 len1 cap1] w fun e w' => e = .returned (.bool true) ∧ Below w.heap.size w w' := by
  have HZ := Lib.hid hZ
  have HZ1 := Lib.hid hZ1
  clear hZ hZ1
  have hf := thfit_true w
  go_enter Try.func6, Try.ntmps6
  go_wp2_with fail
  refine hf.mono ?_
  rintro e w1 ⟨rfl, hB⟩
  clear hf
  by_cases hbig : 80 < wrap64 ((len : Int) + (len1 : Int))
  · go_wp2_with fail
    go_ret
    exact ⟨rfl, hB⟩
  go_wp2_with fail
  refine (thNew 3 3 (by decide) (by decide) w1).mono ?_
  rintro e w2 ⟨X, rfl, hX, dX, hB2⟩
  go_wp2_with fail
  refine (thNew 3 3 (by decide) (by decide) w2).mono ?_
  rintro e w3 ⟨Y, rfl, hY, dY, hB3⟩
  go_wp2_with fail
  refine (thNew 3 3 (by decide) (by decide) w3).mono ?_
  rintro e w4 ⟨Z, rfl, hZ, dZ, hB4⟩
  have hs1 := hB.size
  have hs2 := hB2.size
  have hs3 := hB3.size
  have hT4 : Tri w.heap.size X.t Y.t Z.t (fun _ => 0) (fun _ => 0) (fun _ => 0) [] [] [] w w4 := tri_new (((hB.trans (hB2.mono hs1)).trans (hB3.mono (by omega))).trans (hB4.mono (by omega))) (Nat.le_refl _) ((hX.below hB3).below hB4) (hY.below hB4) hZ w2.heap.size w3.heap.size (by omega) hs3
    (fun k hk => ⟨by have := dX k hk; omega, hX.lt k hk⟩) (fun k hk => ⟨dY k hk, hY.lt k hk⟩) dZ
  clear hX hY hZ dX dY dZ hB2 hB3 hB4 hB hs1 hs2 hs3
  generalize X.t = ta at *
  generalize Y.t = tb at *
  generalize Z.t = tc at *
  go_wp2_with fail
  go_loopw [35] (fun v35 wr => AprA w.heap.size ta tb tc len w v35 wr) (fun v35 _ => len - (intOf v35).toNat)
  case atStart => exact ⟨0, _, [], Nat.zero_le _, rfl, hT4⟩
  case round =>
    clear hT4
    obtain ⟨i, f, st, hi, rfl, h1⟩ := hrel
    have hi0 : (0 : Int) ≤ (i : Int) := by omega
    by_cases hlt : i < len
    · have hi1 : (i : Int) < (len : Int) := by omega
      obtain ⟨bk, off, rfl, hbk, hcs⟩ := HZ.out i hlt
      have hc0 := (h1.below.cell (p := ⟨bk, off + i * 3, none⟩) hbk).trans (hcs 0 (by decide)).1
      have hc1 := (h1.below.cell (p := ⟨bk, off + i * 3 + 1, none⟩) hbk).trans (hcs 1 (by decide)).1
      have hc2 := (h1.below.cell (p := ⟨bk, off + i * 3 + 2, none⟩) hbk).trans (hcs 2 (by decide)).1
      generalize Q i 0 = kd at *
      generalize Q i 1 = id at *
      generalize Q i 2 = rd at *
      obtain ⟨a, ha, hae⟩ := i64_and_mask kd 3 (by decide)
      replace hae : bits .and .i64 kd 3 = (a : Int) := hae
      obtain ⟨b, hb, hbe⟩ := i64_and_mask id 3 (by decide)
      replace hbe : bits .and .i64 id 3 = (b : Int) := hbe
      have hbx := Blk.new wr #[.int .i64 kd, .int .i64 id, .int .i64 rd] 42
      have c1 := Tri.firstBox h1 (.cells #[.int .i64 kd, .int .i64 id, .int .i64 rd] 42) (fun F hN => do_any hN kd id rd a b ha hb hae hbe)
      have hbx0 := hbx.cell 0
      have hbx1 := hbx.cell 1
      have hbx2 := hbx.cell 2
      clear hcs h1
      go_wp2_with fail
      refine c1.mono ?_
      rintro e w5 ⟨rfl, h5, hk5⟩
      have hbx5 : Blk w5 wr.heap.size #[.int .i64 kd, .int .i64 id, .int .i64 rd] 42 := hk5.trans hbx
      have hb50 := hbx5.cell 0
      have hb51 := hbx5.cell 1
      have hb52 := hbx5.cell 2
      have c2 := Tri.first h5.rot.rot (fun F hN => do_any hN kd id rd a b ha hb hae hbe)
      clear c1 hbx hbx0 hbx1 hbx2 hc0 hc1 hc2 hk5 hbx5 h5
      go_wp2_with fail
      refine c2.mono ?_
      rintro e w6 ⟨rfl, h6⟩
      have h7 := h6.rot
      clear c2 hb50 hb51 hb52 h6
      go_wp2_with fail
      go_roundw
      case rel => exact ⟨i + 1, _, _, hlt, by go_num, h7⟩
      case measure => simp [intOf]; omega
    · have hi1 : ¬ (i : Int) < (len : Int) := by omega
      clear hlt hi hi0
      go_wp2_with fail
      go_loopw [50] (fun v50 wr => AprB w.heap.size ta tb tc len1 f st w v50 wr) (fun v50 _ => len1 - (intOf v50).toNat)
      case atStart => exact ⟨0, _, [], Nat.zero_le _, rfl, h1⟩
      case round =>
        clear h1
        obtain ⟨j, g, su, hj, rfl, h1⟩ := hrel
        have hj0 : (0 : Int) ≤ (j : Int) := by omega
        by_cases hlt : j < len1
        · have hj1 : (j : Int) < (len1 : Int) := by omega
          obtain ⟨bk, off, rfl, hbk, hcs⟩ := HZ1.out j hlt
          have hc0 := (h1.below.cell (p := ⟨bk, off + j * 3, none⟩) hbk).trans (hcs 0 (by decide)).1
          have hc1 := (h1.below.cell (p := ⟨bk, off + j * 3 + 1, none⟩) hbk).trans (hcs 1 (by decide)).1
          have hc2 := (h1.below.cell (p := ⟨bk, off + j * 3 + 2, none⟩) hbk).trans (hcs 2 (by decide)).1
          generalize Q1 j 0 = kd at *
          generalize Q1 j 1 = id at *
          generalize Q1 j 2 = rd at *
          obtain ⟨a, ha, hae⟩ := i64_and_mask kd 3 (by decide)
          replace hae : bits .and .i64 kd 3 = (a : Int) := hae
          obtain ⟨b, hb, hbe⟩ := i64_and_mask id 3 (by decide)
          replace hbe : bits .and .i64 id 3 = (b : Int) := hbe
          have h3 := h1.alloc (.cells #[.int .i64 kd, .int .i64 id, .int .i64 rd] 42)
          have hbx := Blk.new wr #[.int .i64 kd, .int .i64 id, .int .i64 rd] 42
          have c1 := Tri.first h3.rot (fun F hN => do_any hN kd id rd a b ha hb hae hbe)
          have hbx0 := hbx.cell 0
          have hbx1 := hbx.cell 1
          have hbx2 := hbx.cell 2
          clear hcs h1 h3
          go_wp2_with fail
          refine c1.mono ?_
          rintro e w5 ⟨rfl, h5⟩
          have h7 := h5.rot.rot
          clear c1 hbx hbx0 hbx1 hbx2 hc0 hc1 hc2 h5
          go_wp2_with fail
          go_roundw
          case rel => exact ⟨j + 1, _, _, hlt, by go_num, h7⟩
          case measure => simp [intOf]; omega
        · have hj1 : ¬ (j : Int) < (len1 : Int) := by omega
          have cD1 := Tri.read (R := fun e => e = .returned (.int .i64 (st.length : Int))) h1 (fun hN => hN.depth.mono fun e w' ⟨he, hw⟩ => ⟨he, hw ▸ Below.refl _ _⟩)
          clear hlt hj hj0
          go_wp2_with fail
          refine cD1.mono ?_
          rintro e w5 ⟨rfl, h5⟩
          clear cD1 h1
          have cD2 := Tri.read (R := fun e => e = .returned (.int .i64 (st.length : Int))) h5.rot.rot (fun hN => hN.depth.mono fun e w' ⟨he, hw⟩ => ⟨he, hw ▸ Below.refl _ _⟩)
          go_wp2_with fail
          refine cD2.mono ?_
          rintro e w6 ⟨rfl, h6⟩
          have h7 := h6.rot
          clear cD2 h5 h6
          go_wp2_with fail
          go_loopw [64] (fun v64 wr => AprC w.heap.size ta tb tc f g st su w v64 wr) (fun v64 _ => 3 - (intOf v64).toNat)
          case atStart => exact ⟨0, by omega, rfl, h7⟩
          case round =>
            clear h7
            obtain ⟨p, hp, rfl, h1⟩ := hrel
            have hp0 : (0 : Int) ≤ (p : Int) := by omega
            by_cases hlt : p < 3
            · have hp1 : (p : Int) < 3 := by omega
              have cR1 := Tri.read (R := fun e => e = .returned (.tuple #[.int .i64 (f p), .int .i64 0])) h1 (fun hN => hN.reg p (p : Int) rfl hp1 (f p) rfl)
              go_wp2_with fail
              refine cR1.mono ?_
              rintro e w8 ⟨rfl, h8⟩
              clear cR1 h1
              have cR2 := Tri.read (R := fun e => e = .returned (.tuple #[.int .i64 (f p), .int .i64 0])) h8.rot.rot (fun hN => hN.reg p (p : Int) rfl hp1 (f p) rfl)
              go_wp2_with fail
              refine cR2.mono ?_
              rintro e w9 ⟨rfl, h9⟩
              have h10 := h9.rot
              clear cR2 h8 h9
              go_wp2_with fail
              go_roundw
              case rel => exact ⟨p + 1, hlt, by go_num, h10⟩
              case measure => simp [intOf]; omega
            · have hp3 : ¬ (p : Int) < 3 := by omega
              clear hlt hp hp0
              have h11 := h1
              clear h1
              go_wp2_with fail
              go_loopw [83] (fun v83 wr => AprE w.heap.size ta tb tc f g su w wr) (fun v83 wr => lenW ta wr)
              case atStart => exact ⟨st, h11⟩
              case round =>
                clear h11
                obtain ⟨sv, h1⟩ := hrel
                have hm1 := h1.lenW
                have cD1 := Tri.read (R := fun e => e = .returned (.int .i64 (sv.length : Int))) h1 (fun hN => hN.depth.mono fun e w' ⟨he, hw⟩ => ⟨he, hw ▸ Below.refl _ _⟩)
                rcases List.eq_nil_or_concat sv with rfl | ⟨q, y, rfl⟩
                · have cD2 : Calls Try.prog 22 #[.pointer (some ⟨ta, 0, none⟩)] wr fun e w' => e = .returned (.int .i64 0) ∧ Tri w.heap.size ta tb tc f g f [] su [] w w' := cD1
                  clear cD1 h1
                  go_wp2_with fail
                  refine cD2.mono ?_
                  rintro e w12 ⟨rfl, h12⟩
                  clear cD2
                  have cD3 := Tri.read (R := fun e => e = .returned (.int .i64 0)) h12.rot.rot (fun hN => hN.depth.mono fun e w' ⟨he, hw⟩ => ⟨he, hw ▸ Below.refl _ _⟩)
                  go_wp2_with fail
                  refine cD3.mono ?_
                  rintro e w13 ⟨rfl, h13⟩
                  have hbl := h13.below
                  clear cD3 h12 h13
                  go_wp2_with fail
                  go_ret
                  exact ⟨rfl, hbl⟩
                · rw [List.concat_eq_append] at h1 cD1 hm1
                  have hpos : (0 : Int) < (((q ++ [y]).length : Nat) : Int) := by rw [List.length_append, List.length_singleton]; omega
                  have HM1 := Lib.hid hm1
                  clear hm1
                  generalize (((q ++ [y]).length : Nat) : Int) = dn at *
                  go_wp2_with fail
                  refine cD1.mono ?_
                  rintro e w12 ⟨rfl, h12⟩
                  clear cD1 h1
                  have cP1 := Tri.first (R := fun e => e = .returned (.tuple #[.int .i64 y, .int .i64 0])) h12 (fun F hN => hN.pop)
                  go_wp2_with fail
                  refine cP1.mono ?_
                  rintro e w13 ⟨rfl, h13⟩
                  clear cP1 h12
                  have cP2 := Tri.first (R := fun e => e = .returned (.tuple #[.int .i64 y, .int .i64 0])) h13.rot.rot (fun F hN => hN.pop)
                  go_wp2_with fail
                  refine cP2.mono ?_
                  rintro e w14 ⟨rfl, h14⟩
                  have h15 := h14.rot
                  have hm2 := h15.lenW
                  have HM2 := Lib.hid hm2
                  clear cP2 h13 h14 hm2
                  go_wp2_with fail
                  go_roundw
                  case rel =>
                    exact ⟨q, h15⟩
                  case measure => rw [HM1.out, HM2.out, List.length_append]; simp
end Go.Proofs.Ytfipflghnhfcjaa
