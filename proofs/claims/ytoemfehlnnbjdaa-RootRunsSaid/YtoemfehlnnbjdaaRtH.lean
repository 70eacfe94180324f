/- Calls on a table whose outcome isn't asked; RootGlobals, walked; at this seat's numbers. -/
import Derived.Test.YtoemfehlnnbjdaaRtG
import Derived.Test.YtoemfehlnnbjdaaArgsU
namespace Go.Proofs.Ytoemfehlnnbjdaa
open Go Go.RowKit Go.Shelf
set_option linter.unusedSimpArgs false
set_option linter.unusedVariables false
attribute [local go_sem] Oper.semAt_some

section
variable {B t N : Nat} {F : Nat → Prop} {regs stk : Int} {gl : List Int} {th : Nat → Option TM} {wb wr w' : World}
theorem RtIn.spawnAny (h : RtIn B F t N regs stk gl th wb wr) (i : Nat) (hi : i < N) (x : Int) (hx : x = i) : Calls Try.prog 11 #[.pointer (some ⟨t, 0, none⟩), .int .i64 x] wr fun e w' =>
    ∃ z, e = .returned (.int .i64 z) ∧ (∃ th', (∃ m, th' i = some m) ∧ RtIn B F t N regs stk gl th' wb w') ∧ Keep F wr w' := by
  cases e : th i with
  | none =>
    refine (h.spawn i hi e x hx).mono ?_
    rintro e w1 ⟨rfl, ⟨u, h1⟩, hk⟩
    exact ⟨_, rfl, ⟨_, ⟨_, updT_at _ _ _⟩, h1⟩, hk⟩
  | some m =>
    subst hx
    refine (h.spawnNo (i : Int) (.inr (by rw [atI_nat, e]; rfl))).mono ?_
    rintro e w1 ⟨rfl, rfl⟩
    exact ⟨_, rfl, ⟨_, ⟨m, e⟩, h⟩, ⟨Nat.le_refl _, fun _ _ => rfl⟩⟩
theorem RtIn.exitAny (h : RtIn B F t N regs stk gl th wb wr) (i : Nat) (x : Int) (hx : x = i) : Calls Try.prog 12 #[.pointer (some ⟨t, 0, none⟩), .int .i64 x] wr fun e w' =>
    ∃ z, e = .returned (.int .i64 z) ∧ (∃ th', RtIn B F t N regs stk gl th' wb w') ∧ Keep F wr w' := by
  cases e : th i with
  | none =>
    subst hx
    refine (h.exitNo (i : Int) (by rw [atI_nat, e]; rfl)).mono ?_
    rintro e w1 ⟨rfl, rfl⟩
    exact ⟨_, rfl, ⟨_, h⟩, ⟨Nat.le_refl _, fun _ _ => rfl⟩⟩
  | some m =>
    refine (h.exit i e x hx).mono ?_
    rintro e w1 ⟨rfl, h1, hk⟩
    exact ⟨_, rfl, ⟨_, h1⟩, hk⟩
theorem Keep.blk {F : Nat → Prop} {w w' : World} (h : Keep F w w') {b : Nat} {cs : Array Value} {T : TypeId} (hb : Blk w b cs T) (hF : F b) : Blk w' b cs T := (h.block b hF).trans hb
end

/-- A table beside a row of what its globals are. -/
structure GlRel (B t G go : Nat) (gl : List Int) (wb wr : World) : Prop where
  ex : ∃ th, RtIn B (fun k => k = go) t 4 2 2 gl th wb wr
  own : Blk wr go (refV gl) 31
  len : gl.length = G
  low : B ≤ go
def GlA (B t G go len : Nat) (wb : World) (v : Value) (wr : World) : Prop := ∃ (i : Nat) (gl : List Int), i ≤ len ∧ v = .int .i64 (i : Int) ∧ GlRel B t G go gl wb wr
def GlB (B t G go : Nat) (gl : List Int) (wb : World) (v : Value) (wr : World) : Prop := ∃ (i : Nat), i ≤ 6 ∧ v = .int .i64 (i : Int) ∧ GlRel B t G go gl wb wr
theorem GlRel.alloc {B t G go : Nat} {gl : List Int} {wb wr : World} (h : GlRel B t G go gl wb wr) (o : Obj) : GlRel B t G go gl wb (wr.alloc o) := by
  obtain ⟨th, h1⟩ := h.ex
  exact ⟨⟨th, h1.alloc o⟩, h.own.alloc o, h.len, h.low⟩

set_option maxRecDepth 100000 in
set_option maxHeartbeats 8000000 in
theorem globals_true (n : Int) (a0 : Option Addr) (len cap : Nat) (Q : Nat → Nat → Int) (w : World) (_ : len ≤ 9223372036854775807) (hZ : QuadAt w a0 len Q) :
    Calls Try.prog 7 #[.int .i64 n, .slice a0 len cap] w fun e w' => e = .returned (.bool true) ∧ Below w.heap.size w w' := by
  have HZ := Lib.hid hZ
  clear hZ
  have hf := rtfit_true w
  obtain ⟨G, hG3, hGe⟩ := i64_and_mask n 3 (by decide)
  replace hGe : bits .and .i64 n 3 = (G : Int) := hGe
  have hmk := make_refZ G (by omega)
  have hG0 : (0 : Int) ≤ (G : Int) := by omega
  go_enter Try.func7, Try.ntmps7
  go_wp2_with fail
  refine hf.mono ?_
  rintro e w1 ⟨rfl, hB⟩
  clear hf
  by_cases hbig : 60 < (len : Int)
  · go_wp2_with fail
    go_ret
    exact ⟨rfl, hB⟩
  go_wp2_with fail
  refine (config_any 3 n 3 G (by omega) hG3 rfl hGe w1).mono ?_
  rintro e w2 ⟨rfl, hB2⟩
  have hB2' := hB.trans (hB2.mono hB.size)
  clear hB hB2
  have hBc := Blk.new w2 #[.int .i64 0, .bool false, .int .i64 0, .int .i64 ((1 + 3 : Nat) : Int), .int .i64 2, .int .i64 2, .int .i64 (G : Int), .int .i64 0, .int .i64 0, .int .i64 0, .int .i64 0] 25
  have hB3 := hB2'.alloc hB2'.size (.cells #[.int .i64 0, .bool false, .int .i64 0, .int .i64 ((1 + 3 : Nat) : Int), .int .i64 2, .int .i64 2, .int .i64 (G : Int), .int .i64 0, .int .i64 0, .int .i64 0, .int .i64 0] 25)
  have hs3 : (w2.alloc (.cells #[.int .i64 0, .bool false, .int .i64 0, .int .i64 ((1 + 3 : Nat) : Int), .int .i64 2, .int .i64 2, .int .i64 (G : Int), .int .i64 0, .int .i64 0, .int .i64 0, .int .i64 0] 25)).heap.size = w2.heap.size + 1 := by simp
  have cN := rtIn_new (B := w.heap.size) (F := fun k => k = w2.heap.size) (wb := w) (wr := w2.alloc (.cells #[.int .i64 0, .bool false, .int .i64 0, .int .i64 ((1 + 3 : Nat) : Int), .int .i64 2, .int .i64 2, .int .i64 (G : Int), .int .i64 0, .int .i64 0, .int .i64 0, .int .i64 0] 25)) (1 + 3) G 2 2 (by omega) (by omega) (by decide) (by decide) (fun k hk => by have e2 : k = w2.heap.size := hk; omega) hB3 (Nat.le_refl _)
  have HS3 := Lib.hid hs3
  clear hs3
  go_wp2_with fail
  refine cN.mono ?_
  rintro e w3 ⟨t, rfl, h3, hk3⟩
  have hc3 := (hk3.blk hBc rfl).cell 6
  simp only [List.getElem?_toArray, List.getElem?_cons_succ, List.getElem?_cons_zero] at hc3
  clear cN hBc hB3
  go_wp2_with fail
  have h4 := h3.add (F' := fun k => k = w3.heap.size) ((Below.refl _ w3).alloc (Nat.le_refl _) (.cells (refV (List.replicate G 0)) 31)) (fun k hk => .inr ⟨Nat.le_of_eq hk.symm, by rw [hk]; simp⟩)
  have hrel0 : GlRel w.heap.size t G w3.heap.size (List.replicate G 0) w (w3.alloc (.cells (refV (List.replicate G 0)) 31)) := ⟨⟨_, h4⟩, Blk.new w3 _ _, by simp, h3.size⟩
  clear h3 h4 hc3 hk3 hmk HS3 hB2'
  generalize w3.heap.size = go at *
  generalize w3.alloc (.cells (refV (List.replicate G 0)) 31) = W0 at *
  generalize w2.heap.size = bc at *
  go_loopw [30] (fun v30 wr => GlA w.heap.size t G go len w v30 wr) (fun v30 _ => len - (intOf v30).toNat)
  case atStart => exact ⟨0, _, Nat.zero_le _, rfl, hrel0⟩
  case round =>
    clear hrel0
    obtain ⟨i, gl, hi, rfl, h1⟩ := hrel
    have hi0 : (0 : Int) ≤ (i : Int) := by omega
    by_cases hlt : i < len
    · have hi1 : (i : Int) < (len : Int) := by omega
      obtain ⟨th, hR⟩ := h1.ex
      obtain ⟨bk, off, rfl, hbk, hcs⟩ := HZ.out i hlt
      have hc0 := (hR.below.cell (p := ⟨bk, off + i * 4, none⟩) hbk).trans (hcs 0 (by decide)).1
      have hc1 := (hR.below.cell (p := ⟨bk, off + i * 4 + 1, none⟩) hbk).trans (hcs 1 (by decide)).1
      have hc2 := (hR.below.cell (p := ⟨bk, off + i * 4 + 2, none⟩) hbk).trans (hcs 2 (by decide)).1
      have hc3 := (hR.below.cell (p := ⟨bk, off + i * 4 + 3, none⟩) hbk).trans (hcs 3 (by decide)).1
      generalize Q i 0 = kd at *
      generalize Q i 1 = id at *
      generalize Q i 2 = kk at *
      generalize Q i 3 = rd at *
      obtain ⟨a, ha, hae⟩ := i64_and_mask kd 3 (by decide)
      replace hae : bits .and .i64 kd 3 = (a : Int) := hae
      obtain ⟨b, hb, hbe⟩ := i64_and_mask id 3 (by decide)
      replace hbe : bits .and .i64 id 3 = (b : Int) := hbe
      have h2 := h1.alloc (.cells #[.int .i64 kd, .int .i64 id, .int .i64 kk, .int .i64 rd] 33)
      obtain ⟨th2, hR2⟩ := h2.ex
      have hgl := h2.len
      have hown := h2.own
      have hlow := h2.low
      have hbx := Blk.new wr #[.int .i64 kd, .int .i64 id, .int .i64 kk, .int .i64 rd] 33
      have hR3 := hR.add (F' := fun k => k = go ∨ k = wr.heap.size) ((Below.refl _ wr).alloc (Nat.le_refl _) (.cells #[.int .i64 kd, .int .i64 id, .int .i64 kk, .int .i64 rd] 33)) (fun k hk => by
        rcases hk with hk | hk
        · exact .inl hk
        · exact .inr ⟨Nat.le_of_eq hk.symm, by rw [hk]; simp⟩)
      clear hcs h1 hR h2
      by_cases ha0 : a = 0
      · subst ha0
        have hae2 : bits .and .i64 kd 3 = 0 := hae
        have cS := hR2.spawnAny b (by omega) (b : Int) rfl
        clear hae hbx hR3
        go_wp2_with fail
        refine cS.mono ?_
        rintro e w5 ⟨z, rfl, ⟨th3, _, h3⟩, hk⟩
        have h4 : GlRel w.heap.size t G go gl w w5 := ⟨⟨_, h3⟩, hk.blk hown rfl, hgl, hlow⟩
        clear cS h3 hk hown hR2
        go_wp2_with fail
        go_roundw
        case rel => exact ⟨i + 1, gl, hlt, by go_num, h4⟩
        case measure => simp [intOf]; omega
      · by_cases ha1 : a = 1
        · subst ha1
          have hae2 : bits .and .i64 kd 3 = 1 := hae
          have cS := hR2.exitAny b (b : Int) rfl
          clear hae ha0 hbx hR3
          go_wp2_with fail
          refine cS.mono ?_
          rintro e w5 ⟨z, rfl, ⟨th3, h3⟩, hk⟩
          have h4 : GlRel w.heap.size t G go gl w w5 := ⟨⟨_, h3⟩, hk.blk hown rfl, hgl, hlow⟩
          clear cS h3 hk hown hR2
          go_wp2_with fail
          go_roundw
          case rel => exact ⟨i + 1, gl, hlt, by go_num, h4⟩
          case measure => simp [intOf]; omega
        · have hae2 : (bits .and .i64 kd 3 == 0) = false := by rw [hae]; simp; omega
          have hae3 : (bits .and .i64 kd 3 == 1) = false := by rw [hae]; simp; omega
          clear hae ha0 ha1 ha
          by_cases hin : 0 ≤ kk ∧ kk < (G : Int)
          · obtain ⟨k, rfl⟩ : ∃ k : Nat, kk = (k : Int) := ⟨kk.toNat, by omega⟩
            have hk1 : (k : Int) < (G : Int) := hin.2
            have hk0 : (0 : Int) ≤ (k : Int) := hin.1
            have hkl : k < gl.length := by omega
            have cS := hR3.setGlobal k hkl (k : Int) rd rfl
            clear hin
            go_wp2_with fail
            refine cS.mono ?_
            rintro e w5 ⟨rfl, h3, hk⟩
            have hown5 := hk.blk hown (.inl rfl)
            have hbx5 := hk.blk hbx (.inr rfl)
            have ck : w5.cell? ⟨go, k, none⟩ = some (.int .i64 (gl.getD k 0)) := by rw [hown5.cell k]; simp [refV, List.getD, hkl]
            have fk := hown5.free k
            have d2 := hbx5.cell 2
            have d3 := hbx5.cell 3
            simp only [List.getElem?_toArray, List.getElem?_cons_succ, List.getElem?_cons_zero] at d2 d3
            have hT : Turn (fun j => j = go) w5 (w5.setCell ⟨go, k, none⟩ (.int .i64 rd)) := (Turn.refl _ w5).set _ _ (.inr rfl)
            have h5 := (h3.add (F' := fun j => j = go) (Below.refl _ _) (fun j hj => .inl (.inl hj))).turned hT (fun j e => ⟨e, (show j = go from e) ▸ hlow⟩)
            have h4 : GlRel w.heap.size t G go (gl.set k rd) w (w5.setCell ⟨go, k, none⟩ (.int .i64 rd)) := ⟨⟨_, h5⟩, (hown5.setAt k _).is (by simp [refV, List.map_set]), by simpa using hgl, hlow⟩
            generalize gl.getD k 0 = g0 at *
            clear cS h3 h5 hk hT hown hown5 hbx hbx5 hR2 hR3
            go_wp2_with fail
            go_roundw
            case rel => exact ⟨i + 1, _, hlt, by go_num, h4⟩
            case measure => simp [intOf]; omega
          · have cS := hR2.setGlobalNo kk (by rw [hgl]; exact hin) rd
            have h4 : GlRel w.heap.size t G go gl w _ := ⟨⟨_, hR2⟩, hown, hgl, hlow⟩
            clear hR2 hR3 hown hbx
            by_cases hk0 : 0 ≤ kk
            · have hk1 : ¬ kk < (G : Int) := fun h => hin ⟨hk0, h⟩
              clear hin
              go_wp2_with fail
              refine cS.mono ?_
              rintro e w5 ⟨rfl, rfl⟩
              clear cS
              go_wp2_with fail
              go_roundw
              case rel => exact ⟨i + 1, _, hlt, by go_num, h4⟩
              case measure => simp [intOf]; omega
            · clear hin
              go_wp2_with fail
              refine cS.mono ?_
              rintro e w5 ⟨rfl, rfl⟩
              clear cS
              go_wp2_with fail
              go_roundw
              case rel => exact ⟨i + 1, _, hlt, by go_num, h4⟩
              case measure => simp [intOf]; omega
    · have hi1 : ¬ (i : Int) < (len : Int) := by omega
      clear hlt hi hi0
      go_wp2_with fail
      go_loopw [78] (fun v78 wr => GlB w.heap.size t G go gl w v78 wr) (fun v78 _ => 6 - (intOf v78).toNat)
      case atStart => exact ⟨0, by omega, rfl, h1⟩
      case round =>
        clear h1
        obtain ⟨j, hj, rfl, h1⟩ := hrel
        have hj0 : (0 : Int) ≤ (j : Int) := by omega
        obtain ⟨th, hR⟩ := h1.ex
        have hgl := h1.len
        by_cases hlt : j < 6
        · have hj1 : (j : Int) < 6 := by omega
          by_cases hjG : j < G
          · have hjg : (j : Int) < (G : Int) := by omega
            have ck : wr.cell? ⟨go, j, none⟩ = some (.int .i64 (gl.getD j 0)) := by rw [h1.own.cell j]; simp [refV, List.getD, show j < gl.length by omega]
            have cS := hR.global j (by omega) (j : Int) (gl.getD j 0) rfl rfl
            generalize gl.getD j 0 = g0 at *
            clear hjG hR
            go_wp2_with fail
            refine cS.mono ?_
            rintro e w5 ⟨rfl, rfl⟩
            clear cS
            go_wp2_with fail
            go_roundw
            case rel => exact ⟨j + 1, hlt, by go_num, h1⟩
            case measure => simp [intOf]; omega
          · have hjg : ¬ (j : Int) < (G : Int) := by omega
            have hjg2 : (G : Int) ≤ (j : Int) := by omega
            have cS := hR.globalNo (j : Int) (by rw [hgl]; omega)
            clear hjG hR
            go_wp2_with fail
            refine cS.mono ?_
            rintro e w5 ⟨rfl, rfl⟩
            clear cS
            go_wp2_with fail
            go_roundw
            case rel => exact ⟨j + 1, hlt, by go_num, h1⟩
            case measure => simp [intOf]; omega
        · have hj1 : ¬ (j : Int) < 6 := by omega
          have cS := hR.globalNo (-1) (by omega)
          have hbl := hR.below
          clear hlt hj hj0 hR h1
          go_wp2_with fail
          refine cS.mono ?_
          rintro e w5 ⟨rfl, rfl⟩
          clear cS
          go_wp2_with fail
          go_ret
          exact ⟨rfl, hbl⟩
end Go.Proofs.Ytoemfehlnnbjdaa
