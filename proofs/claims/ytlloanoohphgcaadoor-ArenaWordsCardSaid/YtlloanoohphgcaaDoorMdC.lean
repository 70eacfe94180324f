/- free and nth of the law's model, at this seat's numbers. -/
import Derived.Test.YtlloanoohphgcaaDoorMdB
namespace Go.Proofs.YtlloanoohphgcaaDoor
open Go Go.RowKit Go.Shelf Go.MuLone Go.RwLone Go.Maps
set_option linter.unusedSimpArgs false
set_option linter.unusedVariables false

theorem page_cell {w : World} {g : Nat} {cur : Array Value} {s : ArS} (hb : Blk w g cur 3) (hc : ∀ k, k < s.P → cur[k]? = some (.int .i64 (s.cls k))) {p : Nat} (hp : p < s.P) : w.cell? ⟨g, p, none⟩ = some (.int .i64 (s.cls p)) := (hb.cell p).trans (hc p hp)

set_option maxHeartbeats 1000000 in
theorem mfree_any {w : World} {Y : MdB} {s : ArS} (h : MdAt w Y s) :
    Calls Tryd.prog 23 #[.pointer (some ⟨Y.m, 0, none⟩)] w fun e w' => e = .returned (.int .i64 ((freeTo s s.P : Nat) : Int)) ∧ w = w' := by
  have h0 := h.c0
  have hp64 := h.fits.p64
  have hl := h.pages.lenRun 3
  have hpg := h.pages
  have hcl := h.fits.cl
  generalize Y.v = v at *
  rcases hpg with ⟨rfl, hP⟩ | ⟨g, cp, cur, rfl, hbk, hsz, hcs⟩
  · rw [hP]
    clear hl
    go_enter Tryd.func23, Tryd.ntmps23
    go_wp2_with fail
    go_loopw [3, 11] (fun v3 v11 wx => v3 = .int .i64 0 ∧ v11 = .int .i64 0 ∧ w = wx) (fun _ _ _ => 0)
    case atStart => exact ⟨rfl, rfl, rfl⟩
    case round =>
      obtain ⟨rfl, rfl, rfl⟩ := hrel
      go_wp2_with fail
      go_ret
      exact ⟨rfl, rfl⟩
  · clear hl
    go_enter Tryd.func23, Tryd.ntmps23
    go_wp2_with fail
    clear h0
    go_loopw [3, 11] (fun v3 v11 wx => ∃ p : Nat, p ≤ s.P ∧ v3 = .int .i64 ((freeTo s p : Nat) : Int) ∧ v11 = .int .i64 (p : Int) ∧ w = wx) (fun _ v11 _ => s.P - (intOf v11).toNat)
    case atStart => exact ⟨0, Nat.zero_le _, rfl, rfl, rfl⟩
    case round =>
      obtain ⟨p, hp, rfl, rfl, rfl⟩ := hrel
      by_cases hlt : p < s.P
      · have h0 : w.cell? ⟨g, p, none⟩ = some (.int .i64 (s.cls p)) := page_cell hbk hcs hlt
        have hfl := freeTo_le s p
        have hfs := freeTo_succ s p
        have hc := hcl p hlt
        by_cases hm : s.cls p = -1
        · rw [hm] at h0
          rw [if_pos hm] at hfs
          have HF := Lib.hid hfs
          clear hfs hm hc
          go_wp2_with fail
          go_roundw
          case rel => exact ⟨p + 1, by omega, by rw [HF.out]; go_num, by go_num, trivial⟩
          case measure => simp [intOf]; omega
        · have hge : ¬ s.cls p < 0 := by
            rcases hc with e | e
            · exact absurd e hm
            · rcases okC_cases e with e | e | e <;> omega
          rw [if_neg hm] at hfs
          have HF := Lib.hid hfs
          clear hfs hm hc
          go_wp2_with fail
          go_roundw
          case rel => exact ⟨p + 1, by omega, by rw [HF.out]; go_num, by go_num, trivial⟩
          case measure => simp [intOf]; omega
      · obtain rfl : p = s.P := by omega
        go_wp2_with fail
        go_ret
        exact ⟨rfl, rfl⟩

/-- Between two rounds of nth. -/
def NthRel (w : World) (P : Nat) (v5 v6 : Value) (wr : World) : Prop :=
  ∃ (r : Nat) (l : List Nat), 1 ≤ r ∧ r ≤ 32 * P + 1 ∧ v6 = .int .i64 (r : Int) ∧ l.length ≤ r ∧ RefsIn w.heap.size wr v5 l ∧ Below w.heap.size w wr ∧ ∀ j, j ∈ l → j ≤ 2048

set_option maxRecDepth 100000 in
set_option maxHeartbeats 2000000 in
theorem nth_any {w : World} {Y : MdB} {s : ArS} (h : MdAt w Y s) (n : Int) :
    Calls Tryd.prog 16 #[.pointer (some ⟨Y.m, 0, none⟩), .int .i64 n] w fun e w' => ∃ r : Nat, r ≤ 2048 ∧ e = .returned (.int .i64 (r : Int)) ∧ Below w.heap.size w w' := by
  have hp64 := h.fits.p64
  have hH := Lib.hid h
  go_enter Tryd.func16, Tryd.ntmps16
  go_wp2_with fail
  go_loopw [5, 6] (fun v5 v6 wr => NthRel w s.P v5 v6 wr) (fun _ v6 _ => 32 * s.P + 1 - (intOf v6).toNat)
  case atStart => exact ⟨1, [], Nat.le_refl _, by omega, rfl, Nat.zero_le _, RefsIn.nil _ _, Below.refl _ _, fun j hj => by cases hj⟩
  case round =>
    clear h
    obtain ⟨r, l, hr1, hr2, rfl, hl, hR, hB, hle⟩ := hrel
    have h := hH.out.below hB
    have h0 := h.c0
    have h1 := h.c1
    have hlr := h.pages.lenRun 3
    have hp0 : (0 : Int) ≤ (s.P : Int) := by omega
    have hp65 : (s.P : Int) ≤ 64 := by omega
    have hpg := Lib.hid h
    generalize Y.v = v at *
    generalize hM : Y.m = m at *
    generalize hYt : Y.t = t at *
    have hmap : MapM wr t s := hYt ▸ h.map
    clear h
    by_cases hlt : r ≤ 32 * s.P
    · have hltI : (r : Int) ≤ 32 * (s.P : Int) := by omega
      have hwf : (Lit.int .i64 (r : Int)).wf = true := wf_of (by omega) (by omega)
      have HL := Lib.hid hle
      clear hle
      cases hS : s.S r with
      | false =>
        have hb : inS s.S (r : Int) = false := by rw [inS_nat]; exact hS
        have HB := Lib.hid hb
        have HS := Lib.hid hS
        clear hb hS
        go_wp2_with (at_lookup; refine wpList_lookM rfl _ _ rfl hmap _ hwf false HB.out rfl rfl ?_; intro c)
        go_roundw
        case rel => exact ⟨r + 1, l, by omega, by omega, by go_num, by omega, hR, hB, HL.out⟩
        case measure => simp [intOf]; omega
      | true =>
        have hb : inS s.S (r : Int) = true := by rw [inS_nat]; exact hS
        have HB := Lib.hid hb
        have HS := Lib.hid hS
        clear hb hS
        go_wp2_with (first | (at_lookup; refine wpList_lookM rfl _ _ rfl hmap _ hwf true HB.out rfl rfl ?_; intro c) | (at_builtin; refine wpList_pushR rfl _ _ rfl (hR.alloc (.cells #[.int .i64 (r : Int)] 30)) (by simp; have := hB.size; omega) (by omega) wr.heap.size 1 r ((Blk.new wr _ _).cell 0) rfl rfl ?_; intro v' w2 hR2 hT2))
        go_roundw
        case rel => exact ⟨r + 1, l ++ [r], by omega, by omega, by go_num, by simp; omega, hR2, (hB.alloc hB.size _).trans (hT2.below _ (by simp; have := hB.size; omega) (fun k hk e => by have := (hR.own e).1; omega)), fun j hj => by
          rcases List.mem_append.1 hj with x | x
          · exact HL.out j x
          · simp at x; omega⟩
        case measure => simp [intOf]; omega
    · have hltI : ¬ (r : Int) ≤ 32 * (s.P : Int) := by omega
      have hlr2 := hR.lenRun 3
      have hl0 : (0 : Int) ≤ (l.length : Int) := by omega
      by_cases hl1 : l = []
      · subst hl1
        have hlz : (([] : List Nat).length : Int) = 0 := rfl
        rw [hlz] at hlr2
        clear hl hl0 hlz
        go_wp2_with fail
        go_ret
        exact ⟨0, Nat.zero_le _, rfl, hB⟩
      · have hLp : 0 < l.length := List.length_pos_iff.2 hl1
        obtain ⟨t', ht, hte⟩ := i64_and_mask n 65535 (by decide)
        replace hte : bits .and .i64 n 65535 = (t' : Int) := hte
        have hmod : t' % l.length < l.length := Nat.mod_lt _ hLp
        have hcast : (t' : Int) % (l.length : Int) = ((t' % l.length : Nat) : Int) := (Int.natCast_emod _ _).symm
        have hcast2 : (t' : Int).tmod (l.length : Int) = ((t' % l.length : Nat) : Int) := by rw [Int.tmod_eq_emod_of_nonneg (by omega), hcast]
        rcases hR.is with ⟨_, e⟩ | ⟨g, cp, cur, rfl, hg2, hbl, hcp, hat⟩
        · exact absurd e hl1
        have hcell := hat _ hmod
        have hmem := List.getElem_mem hmod
        obtain ⟨q, hq⟩ : ∃ q, l[t' % l.length] = q := ⟨_, rfl⟩
        rw [hq] at hcell hmem
        have hqle := hle q hmem
        have hm1 : ((t' % l.length : Nat) : Int) < (l.length : Int) := by omega
        have hm0 : (0 : Int) ≤ ((t' % l.length : Nat) : Int) := by omega
        have hLn : ¬ (l.length : Int) = 0 := by omega
        clear hq hmod hat hbl hcp hmem hle
        generalize t' % l.length = k at *
        have hlz : ((l.length : Int) == 0) = false := by simpa using hLn
        go_wp2_with fail
        go_ret
        exact ⟨q, hqle, rfl, hB⟩
end Go.Proofs.YtlloanoohphgcaaDoor
