/- ArenaWords, walked (under way), at this seat's numbers. -/
import Derived.Test.YtlloanoohphgcaaDoorWdO
import Derived.Test.YtlloanoohphgcaaDoorArgsI
namespace Go.Proofs.YtlloanoohphgcaaDoor
open Go Go.RowKit Go.Shelf Go.MuLone Go.RwLone Go.Maps
set_option linter.unusedSimpArgs false
set_option linter.unusedVariables false

theorem Trio.drop {B : Nat} {X : ArB} {Y : MdB} {s : ArS} {b n : Nat} {D : DataW Unit} {wb wr : World} (h : TwoAt B X Y s s wb wr) (k : SaidAt B X Y b n D wr) : Trio B X Y s b n D wb wr := ⟨h, k⟩
/-- Between two calls. -/
def WdRel (B : Nat) (X : ArB) (Y : MdB) (b : Nat) (wb : World) (len : Nat) (v : Value) (wr : World) : Prop :=
  ∃ (i : Nat) (lo : Option Nat) (s : ArS) (n : Nat) (D : DataW Unit) (y : Nat), i ≤ len ∧ v = .int .i64 (i : Int) ∧ s.P = 4 ∧ Trio B (X.with lo) Y s b n D wb wr ∧ n ≤ 8 * i ∧ s.S y = false ∧ Said D s y 0
theorem giveI_off {s : ArS} {y : Nat} (h : s.S y = false) (r : Int) : (s.giveI r).S y = false := by
  cases hr : inS s.S r with
  | false => rw [giveI_no hr]; exact h
  | true =>
    have h0 : 0 ≤ r ∧ s.S r.toNat = true := by simpa [inS] using hr
    obtain ⟨n, rfl⟩ : ∃ n : Nat, r = n := ⟨r.toNat, by omega⟩
    rw [Int.toNat_natCast] at h0
    rw [giveI_nat h0.2]
    show dropN s.S n y = false
    simp [dropN, h]

theorem hasWd_far {s : ArS} {r : Nat} (hS : s.S r = true) {i : Int} (hi : i < 0 ∨ wordsOf (s.cls (pg r)) ≤ i) : hasWd s (r : Int) i = false := by
  unfold hasWd
  rw [inS_nat, hS, Int.toNat_natCast]
  simp
  omega
theorem wordI_no {s : ArS} {r i : Int} (h : hasWd s r i = false) : wordI s r i = 0 := by unfold wordI; rw [if_neg (by rw [h]; decide)]
theorem wordI_in {s : ArS} {r i : Int} (h : wordI s r i ≠ 0) : inS s.S r = true := by
  cases e : inS s.S r with
  | true => rfl
  | false => exact absurd (wordI_no (by unfold hasWd; rw [e]; rfl)) h
theorem Trio.put {B : Nat} {X : ArB} {Y : MdB} {s : ArS} {b n n' : Nat} {D D' : DataW Unit} {wb wr w' : World} (h : Trio B X Y s b n D wb wr) (hown : w'.ownsMap Tryd.prog 50 (plainElem Tryd.prog 3) b n' D') (hg : wr.grownBy w' (some b)) : Trio B X Y s b n' D' wb w' := by
  have hb : ∃ o : Obj, wr.heap[b]? = some o ∧ o.isCells = false := by
    obtain ⟨es, clock, hb, _⟩ := h.said.own
    exact ⟨_, hb, rfl⟩
  exact ⟨h.two.far hg (fun r e => by cases e; exact ⟨h.said.base, hb⟩) (fun r e => by cases e; exact h.said.y), ⟨hown, h.said.base, h.said.x, h.said.y⟩⟩
theorem Trio.setB {B : Nat} {X : ArB} {Y : MdB} {s : ArS} {b n : Nat} {D : DataW Unit} {wb wr : World} (h : Trio B X Y s b n D wb wr) (r i x : Int) (q : Bool) (hq : hasWd s r i = q) : Calls Tryd.prog 31 #[.pointer (some ⟨X.a, 0, none⟩), .int .i64 r, .int .i64 i, .int .i64 x] wr fun e w' =>
    e = .returned (.bool q) ∧ ∃ lo', Trio B (X.with lo') Y (s.setW r i x) b n D wb w' := (h.set r i x).mono fun _ _ ⟨he, lo', h1, _⟩ => ⟨by rw [he, hq], lo', h1⟩
/-- What is said so far of the words of the cell that was taken, or of none. -/
structure Half (s : ArS) (D : DataW Unit) (x y W k : Nat) (bq : Bool) : Prop where
  yes : bq = true → s.S x = true ∧ wN (s.cls (pg x)) = W ∧ Said D s x k
  no : bq = false → x = 0 ∧ s.S y = false ∧ Said D s y 0
section
variable {s : ArS} {D : DataW Unit} {x y W k : Nat} {bq : Bool}
theorem Half.has (h : Half s D x y W k bq) (hF : Fits s) (hk : k < W) : hasWd s (x : Int) (k : Int) = bq := by
  cases bq with
  | true =>
    obtain ⟨h1, h2, _⟩ := h.yes rfl
    exact hasWd_yes hF h1 (by omega)
  | false =>
    obtain ⟨rfl, _⟩ := h.no rfl
    exact hasWd_nil hF _
theorem Half.zero (h : Half s D x y W k true) (hF : Fits s) (hk : k < W) : wordI s (x : Int) (k : Int) = 0 := by
  obtain ⟨h1, h2, h3⟩ := h.yes rfl
  rw [wordI_yes hF h1 (by omega)]
  exact h3.zero h1 k (Nat.le_refl _) (by omega)
theorem Half.next (h : Half s D x y W k bq) (hM : IsMap D) (hF : Fits s) (hk : k < W) (hW : W ≤ 8) (v : Int) : Half (s.setW (x : Int) (k : Int) v) (D.put (pairLit (x : Int) (k : Int)) (.lit (.int .i64 v))) x y W (k + 1) bq := by
  cases bq with
  | true =>
    obtain ⟨h1, h2, h3⟩ := h.yes rfl
    refine ⟨fun _ => ⟨by rw [setW_S]; exact h1, by rw [setW_cls]; exact h2, ?_⟩, fun e => by cases e⟩
    rw [setW_yes hF h1 (by omega)]
    exact h3.set hM hF h1 (by omega) v
  | false =>
    obtain ⟨rfl, h2, h3⟩ := h.no rfl
    refine ⟨fun e => (by cases e), fun _ => ⟨rfl, by rw [setW_S]; exact h2, ?_⟩⟩
    rw [show (((0 : Nat) : Int)) = 0 from rfl, setW_nil hF]
    exact h3.nil hF (wf_of (by omega) (by omega)) _
theorem Half.done (h : Half s D x y W W bq) (hF : Fits s) : ∃ y', s.S y' = false ∧ Said D s y' 0 := by
  cases bq with
  | true =>
    obtain ⟨h1, h2, h3⟩ := h.yes rfl
    exact ⟨0, S_zero hF, h3.all (fun _ => by omega) 0 (S_zero hF)⟩
  | false => exact ⟨y, (h.no rfl).2⟩
theorem Half.first (hF : Fits s) (hy : s.S y = false) (hS : Said D s y 0) {c : Int} : Half (s.take c) D (seekF s c) y (wN c) 0 (decide (seekF s c ≠ 0)) := by
  by_cases h0 : seekF s c = 0
  · rw [h0, take_none h0]
    exact ⟨fun e => (by simp at e), fun _ => ⟨rfl, hy, hS⟩⟩
  · rw [decide_eq_true h0]
    refine ⟨fun _ => ⟨by rw [take_S h0]; simp, by rw [take_cls2 h0], hS.take hF hy h0⟩, fun e => by cases e⟩
end
/-- Between two words. -/
def WdIn (B : Nat) (X : ArB) (Y : MdB) (b : Nat) (wb : World) (i W x y : Nat) (bq : Bool) (v : Value) (wr : World) : Prop :=
  ∃ (k : Nat) (lo : Option Nat) (s : ArS) (n : Nat) (D : DataW Unit), k ≤ W ∧ v = .int .i64 (k : Int) ∧ s.P = 4 ∧ Trio B (X.with lo) Y s b n D wb wr ∧ n ≤ 8 * i + k ∧ Half s D x y W k bq
/-- While the model's map is gone through. -/
structure Reading (B : Nat) (X : ArB) (Y : MdB) (s : ArS) (b n : Nat) (D Dm : DataW Unit) (it : Nat) (wb wr : World) (left : Lit → Bool) (cnt : Nat) : Prop where
  trio : Trio B X Y s b n D wb wr
  rng : wr.ranges Tryd.prog 30 (plainElem Tryd.prog 3) Y.t it 4096 Dm left cnt
  far : B ≤ it
  xit : ¬ X.has it
  yit : ¬ Y.has it
  bit : it ≠ b
section
variable {B : Nat} {X : ArB} {Y : MdB} {s : ArS} {b n : Nat} {D Dm : DataW Unit} {it : Nat} {wb wr w' : World} {left left' : Lit → Bool} {cnt cnt' : Nat}
theorem Reading.ask (h : Reading B X Y s b n D Dm it wb wr left cnt) (hB : Below wr.heap.size wr w') : Reading B X Y s b n D Dm it wb w' left cnt :=
  ⟨h.trio.ask hB, h.rng.kept (row := none) ⟨hB.os, hB.tape, hB.output, hB.size, fun k hk _ => hB.block k hk⟩ (by simp) (by simp), h.far, h.xit, h.yit, h.bit⟩
theorem Reading.next (h : Reading B X Y s b n D Dm it wb wr left cnt) (hr : w'.ranges Tryd.prog 30 (plainElem Tryd.prog 3) Y.t it 4096 Dm left' cnt') (hg : wr.grownBy w' (some it)) : Reading B X Y s b n D Dm it wb w' left' cnt' := by
  have hi : ∃ o : Obj, wr.heap[it]? = some o ∧ o.isCells = false := by
    obtain ⟨_, _, _, _, _, _, _, _, _, hb, _⟩ := h.rng
    exact ⟨_, hb, rfl⟩
  refine ⟨⟨h.trio.two.far hg (fun r e => by cases e; exact ⟨h.far, hi⟩) (fun r e => by cases e; exact h.yit), h.trio.said.turn (M := fun k => k = it) ⟨hg.os, hg.tape, hg.output, hg.size, fun k hk hn => hg.block k hk (fun e => hn (Option.some.inj e))⟩ (fun e => h.bit e.symm) h.trio.said.x⟩, hr, h.far, h.xit, h.yit, h.bit⟩
theorem Reading.word (h : Reading B X Y s b n D Dm it wb wr left cnt) (r i v : Int) (hv : wordI s r i = v) : Calls Tryd.prog 30 #[.pointer (some ⟨X.a, 0, none⟩), .int .i64 r, .int .i64 i] wr fun e w' =>
    e = .returned (.int .i64 v) ∧ Reading B X Y s b n D Dm it wb w' left cnt := (h.trio.two.ar.word r i v hv).mono fun _ _ ⟨he, hB⟩ => ⟨he, h.ask hB⟩
theorem Reading.hasB (h : Reading B X Y s b n D Dm it wb wr left cnt) (r : Int) (q : Bool) (hq : inS s.S r = q) : Calls Tryd.prog 25 #[.pointer (some ⟨X.a, 0, none⟩), .int .i64 r] wr fun e w' =>
    e = .returned (.bool q) ∧ Reading B X Y s b n D Dm it wb w' left cnt := hq ▸ (h.trio.two.ar.has r).mono fun _ _ ⟨he, hB⟩ => ⟨he, h.ask hB⟩
theorem set_no {X : ArB} {s : ArS} {w : World} (h : ArAt w X s) (hT : TableAt w) (r i x : Int) (hw : hasWd s r i = false) :
    Calls Tryd.prog 31 #[.pointer (some ⟨X.a, 0, none⟩), .int .i64 r, .int .i64 i, .int .i64 x] w fun e w' => e = .returned (.bool false) ∧ Below w.heap.size w w' := by
  have cH := hasWord_any h hT r i
  rw [hw] at cH
  clear hw
  go_enter Tryd.func31, Tryd.ntmps31
  go_wp2_with fail
  refine cH.mono ?_
  rintro e w1 ⟨rfl, hB⟩
  clear cH
  go_wp2_with fail
  go_ret
  exact ⟨rfl, hB⟩
theorem Reading.setNo (h : Reading B X Y s b n D Dm it wb wr left cnt) (r i x : Int) (hw : hasWd s r i = false) : Calls Tryd.prog 31 #[.pointer (some ⟨X.a, 0, none⟩), .int .i64 r, .int .i64 i, .int .i64 x] wr fun e w' =>
    e = .returned (.bool false) ∧ Reading B X Y s b n D Dm it wb w' left cnt := (set_no h.trio.two.ar.at_ h.trio.two.ar.tabAt r i x hw).mono fun _ _ ⟨he, hB⟩ => ⟨he, h.ask hB⟩
theorem Reading.drew (h : Reading B X Y s b n D Dm it wb wr left cnt) : Reading B X Y s b n D Dm it wb wr.drew left cnt := h.ask (Below.refl _ wr).drew
/-- What the map says of a word. -/
theorem Reading.look (h : Reading B X Y s b n D Dm it wb wr left cnt) {y r j : Nat} (hy : s.S y = false) (hS : Said D s y 0) (hr : s.S r = true) (hj : j < wN (s.cls (pg r))) (v : Int) (hv : s.ws (r + j) = v) :
    (Instr.lookup 47 (.map (some b)) (.agg #[.int .i64 (r : Int), .int .i64 (j : Int)]) false).run Tryd.prog wr = .ok (.int .i64 v) wr := by
  have hF := h.trio.two.ar.at_.fits
  have wj := place_wf (hF.at_ r hr).2.2.1 hj
  obtain ⟨c, hrun, hat, _⟩ := h.trio.said.own.lookup_int keyPair Tryd.underlying47 Tryd.underlying3 (zeroInt _) (pair_lit (ref_wf hF hr).2 wj)
  rw [hS.at_ r j hr hj (fun e => by subst e; rw [hy] at hr; cases hr), hv] at hat
  cases hat
  exact hrun
theorem MapD.at_key {s : ArS} (hD : MapD Dm s) (hF : Fits s) {x c : Int} (hx : (Lit.int .i64 x).wf = true) (hat : ∀ z, Dm.atKey (.int .i64 x) z = .lit (.int .i64 c)) : ∃ r : Nat, x = r ∧ s.S r = true ∧ c = s.cls (pg r) := by
  have h := Maps.has_true_of_atKey hat
  rw [hD.has_ x hx] at h
  have h2 : 0 ≤ x ∧ s.S x.toNat = true := by simpa [inS] using h
  obtain ⟨r, rfl⟩ : ∃ r : Nat, x = r := ⟨x.toNat, by omega⟩
  have h3 : s.S r = true := by simpa using h2.2
  refine ⟨r, rfl, h3, ?_⟩
  have h4 := hD.at_ r h3 (.lit (.int .i64 0))
  rw [hat] at h4
  cases h4
  rfl
end
/-- Between two cells; between two words of one. -/
def RdRel (B : Nat) (X : ArB) (Y : MdB) (s : ArS) (b n : Nat) (D Dm : DataW Unit) (it : Nat) (wb wr : World) : Prop := ∃ left cnt, Reading B X Y s b n D Dm it wb wr left cnt
def RdIn (B : Nat) (X : ArB) (Y : MdB) (s : ArS) (b n : Nat) (D Dm : DataW Unit) (it W : Nat) (wb : World) (left : Lit → Bool) (cnt : Nat) (v : Value) (wr : World) : Prop := ∃ k : Nat, k ≤ W ∧ v = .int .i64 (k : Int) ∧ Reading B X Y s b n D Dm it wb wr left cnt

set_option maxRecDepth 100000 in
set_option maxHeartbeats 16000000 in
theorem words_true (a0 : Option Addr) (len cap : Nat) (K N : Nat → Int) (a1 : Option Addr) (zs : List Int) (cap1 : Nat) (w : World) (_ : len ≤ 9223372036854775807) (_ : zs.length ≤ 9223372036854775807) (hC : CallsAt w a0 len K N) (hZ : NumsAt w a1 zs) (hT : TableAt w) :
    Calls Tryd.prog 4 #[.slice a0 len cap, .slice a1 zs.length cap1] w fun e w' => e = .returned (.bool true) ∧ Below w.heap.size w w' := by
  have hg := hT.lt
  have hf := fit_true w hT
  have hmm := @run_makeMap Tryd.prog
  have HCA := Lib.hid hC
  have HZ := Lib.hid hZ
  clear hC hZ
  by_cases hbig : 60 < (len : Int)
  · go_enter Tryd.func4, Tryd.ntmps4
    go_wp2_with fail
    refine hf.mono ?_
    rintro e w1 ⟨rfl, hB⟩
    go_wp2_with fail
    go_ret
    exact ⟨rfl, hB⟩
  · have hlen : len ≤ 60 := by omega
    go_enter Tryd.func4, Tryd.ntmps4
    go_wp2_with fail
    refine hf.mono ?_
    rintro e w1 ⟨rfl, hB⟩
    go_wp2_with fail
    refine (new_in 4 4 (by decide) w.heap.size w _ hB (Nat.le_refl _) hT hg).mono ?_
    rintro e w2 ⟨X, rfl, h2, _, _⟩
    clear hf hB
    go_wp2_with fail
    refine (two_new (P := 4) (by omega) h2).mono ?_
    rintro e w3 ⟨Y, rfl, h3, _⟩
    clear h2
    have hX3 := h3.ar.at_.lt
    have hY3 := h3.md.lt
    have h4 := h3.alloc (.map #[] 0)
    have hD4 : SaidAt w.heap.size X Y w3.heap.size 0 (.map []) (w3.alloc (.map #[] 0)) := ⟨World.ownsMap_made w3 _ _ _, h3.ar.size, fun hx => by have := hX3 _ hx; omega, fun hy => by have := hY3 _ hy; omega⟩
    clear h3 hX3 hY3
    go_wp2_with fail
    generalize w3.alloc (.map #[] 0) = w4 at *
    generalize w3.heap.size = b at *
    go_loopw [30] (fun v30 wr => WdRel w.heap.size X Y b w len v30 wr) (fun v30 _ => len - (intOf v30).toNat)
    case atStart => exact ⟨0, X.lo, .new 4, 0, _, 0, Nat.zero_le _, rfl, rfl, ⟨h4, hD4⟩, by omega, rfl, Said.new 4⟩
    case round =>
      clear h4 hD4
      obtain ⟨i, lo, s, n, D, y, hi, rfl, hsP, h1, hn, hy, hS⟩ := hrel
      have HSP := Lib.hid hsP
      have HS := Lib.hid hS
      have HY := Lib.hid hy
      clear hsP hS hy
      by_cases hlt : i < len
      · obtain ⟨bk, off, rfl, hbk, hc0, hc1, hk0w, hk1w⟩ := HCA.out i hlt
        replace hc0 := (h1.two.ar.below.cell (p := ⟨bk, off + i * 2, none⟩) hbk).trans hc0
        replace hc1 := (h1.two.ar.below.cell (p := ⟨bk, off + i * 2 + 1, none⟩) hbk).trans hc1
        have i0 : 0 ≤ (i : Int) := by omega
        have i1 : (i : Int) < (len : Int) := by omega
        obtain ⟨q, hq3, hq⟩ := i64_and_mask (K i) 3 (by decide)
        replace hq : bits .and .i64 (K i) 3 = (q : Int) := hq
        have h2 := h1.alloc (.cells #[.int .i64 (K i), .int .i64 (N i)] 29)
        have hcx := Blk.new wr #[.int .i64 (K i), .int .i64 (N i)] 29
        clear h1
        by_cases hq4 : (q : Int) = 3
        · rw [hq4] at hq
          go_wp2_with fail
          refine (h2.nth (N i)).mono ?_
          rintro e w5 ⟨r, hr8, rfl, h5⟩
          clear h2 hc0 hc1 hcx
          have hwr : (Lit.int .i64 (r : Int)).wf = true := wf_of (by omega) (by omega)
          go_wp2_with fail
          refine (h5.giveM (r : Int) hwr).mono ?_
          rintro e w6 ⟨rfl, h6, d6⟩
          have hF5 := Lib.hid h5.two.ar.at_.fits
          clear h5
          go_wp2_with fail
          refine (h6.giveAS d6 (r : Int)).mono ?_
          rintro e w7 ⟨rfl, lo7, h7, d7⟩
          clear h6 d6
          go_wp2_with fail
          go_roundw
          case rel => exact ⟨i + 1, lo7, s.giveI (r : Int), n, D, y, by omega, by go_num, by rw [giveI_P]; exact HSP.out, ⟨h7, d7⟩, by omega, giveI_off HY.out _, HS.out.give hF5.out HY.out _⟩
          case measure => simp [intOf]; omega
        · have hqE : ((q : Int) == 3) = false := not_eqb hq4
          have hq2 : q ≤ 2 := by omega
          obtain ⟨W, hW⟩ : ∃ W, wN (q : Int) = W := ⟨_, rfl⟩
          have hWo : wordsOf (q : Int) = (W : Int) ∧ W ≤ 8 := by
            have : q = 0 ∨ q = 1 ∨ q = 2 := by omega
            rcases this with rfl | rfl | rfl
            · have : W = 2 := hW.symm; subst this; exact ⟨rfl, by omega⟩
            · have : W = 4 := hW.symm; subst this; exact ⟨rfl, by omega⟩
            · have : W = 8 := hW.symm; subst this; exact ⟨rfl, by omega⟩
          obtain ⟨hWo, hW8⟩ := hWo
          have hhf := Half.first (c := (q : Int)) h2.two.ar.at_.fits HY.out HS.out
          have hPt : (s.take (q : Int)).P = 4 := by rw [take_P]; exact HSP.out
          have HPt := Lib.hid hPt
          rw [hW] at hhf
          have cT := h2.takeA (q : Int)
          obtain ⟨x, hx⟩ : ∃ x, seekF s (q : Int) = x := ⟨_, rfl⟩
          rw [hx] at cT hhf
          obtain ⟨bq, hbq⟩ : ∃ bq, decide (x ≠ 0) = bq := ⟨_, rfl⟩
          rw [hbq] at cT hhf
          have HX := Lib.hid hx
          have HBQ := Lib.hid hbq
          have HHF := Lib.hid hhf
          have HW := Lib.hid hW
          have hbb : (bq != bq) = false := by simp
          have hxx : ((x : Int) != (x : Int)) = false := by simp
          have hi60 : (i : Int) ≤ 60 := by omega
          have hwx : (Lit.int .i64 (x : Int)).wf = true := by
            have : x ≤ 2048 := by rw [← hx]; exact seekF_le h2.two.ar.at_.fits _
            exact wf_of (by omega) (by omega)
          clear hx hbq hhf hW hPt hq3 hq4
          go_wp2_with fail
          refine cT.mono ?_
          rintro e w5 ⟨rfl, lo5, h5, d5, bx5⟩
          have hx5 := bx5 _ _ _ (by decide) hcx
          have hc5 := hx5.cell 0
          simp only [List.getElem?_toArray, List.getElem?_cons_zero] at hc5
          have cM := h5.takeMS d5 (q : Int)
          rw [HX.out, HBQ.out] at cM
          clear cT h2 hcx hc0 hc1
          go_wp2_with fail
          refine cM.mono ?_
          rintro e w6 ⟨rfl, h6, d6, bx6⟩
          have hx6 := bx6 _ _ _ (by decide) hx5
          have hc6 := hx6.cell 0
          simp only [List.getElem?_toArray, List.getElem?_cons_zero] at hc6
          have cW := wordsW (q : Int) W w6 h6.ar.tabAt hWo
          clear cM h5 d5 hx5 hc5 hx6
          go_wp2_with fail
          refine cW.mono ?_
          rintro e w' ⟨rfl, rfl⟩
          clear cW hc6
          go_wp2_with fail
          go_loopw [77] (fun v77 wx => WdIn w.heap.size X Y b w i W x y bq v77 wx) (fun v77 _ => W - (intOf v77).toNat)
          case atStart => exact ⟨0, lo5, s.take (q : Int), n, D, Nat.zero_le _, rfl, HPt.out, ⟨h6, d6⟩, by omega, HHF.out⟩
          case round =>
            clear h6 d6
            obtain ⟨k, lo, s, n, D, hk, rfl, hP, h1, hn, hh⟩ := hrel
            have HP := Lib.hid hP
            have HH := Lib.hid hh
            clear hP hh
            have hk0 : (0 : Int) ≤ (k : Int) := by omega
            have hk8 : (k : Int) ≤ 8 := by omega
            by_cases hkW : k < W
            · have hkl : (k : Int) < (W : Int) := by omega
              have hhas := HH.out.has h1.two.ar.at_.fits hkW
              have HHas := Lib.hid hhas
              have hIM := h1.said.own.isMap
              have hFt := Lib.hid h1.two.ar.at_.fits
              have hwk : (Lit.int .i64 (k : Int)).wf = true := wf_of (by omega) (by omega)
              have hnm : n < maxLen := by unfold maxLen; omega
              have hwp : (Lit.int .i64 ((i : Int) * 100 + (k : Int))).wf = true := wf_of (by omega) (by omega)
              clear hhas
              by_cases hz : i < zs.length
              · have hzI : (i : Int) < (zs.length : Int) := by omega
                obtain ⟨bk1, off1, rfl, hbk1, hcz, _⟩ := HZ.out i hz
                replace hcz := (h1.two.ar.below.cell (p := ⟨bk1, off1 + i, none⟩) hbk1).trans hcz
                generalize zs.getD i 0 = z at *
                cases bq
                · go_wp2_with fail
                  refine (h1.setB (x : Int) (k : Int) _ false HHas.out).mono ?_
                  rintro e w8 ⟨rfl, lo8, h8⟩
                  have hown := h8.said.own
                  go_wp2_with (at_mapUpdate; refine wpList_mapUpdate_own _ rfl _ _ _ 47 rfl 50 3 keyPair Tryd.underlying47 _ b n D rfl hown hnm _ _ _ rfl rfl (pair_lit hwx hwk) _ _ (plainElem_int Tryd.underlying3 (wf_xor _ _)) ?_; intro w9 hown9 hg9)
                  go_roundw
                  case rel => exact ⟨k + 1, lo8, _, n + 1, _, by omega, by go_num, by rw [setW_P]; exact HP.out, h8.put hown9 hg9, by omega, HH.out.next hIM hFt.out hkW hW8 _⟩
                  case measure => simp [intOf]; omega
                · have h0 := HH.out.zero hFt.out hkW
                  go_wp2_with fail
                  refine (h1.word (x : Int) (k : Int) 0 h0).mono ?_
                  rintro e w7 ⟨rfl, h7, hB7⟩
                  replace hcz := (hB7.cell (p := ⟨bk1, off1 + i, none⟩) (World.block_lt_of_cell? wr _ hcz)).trans hcz
                  clear h1 h0 hB7
                  go_wp2_with fail
                  refine (h7.setB (x : Int) (k : Int) _ true HHas.out).mono ?_
                  rintro e w8 ⟨rfl, lo8, h8⟩
                  have hown := h8.said.own
                  go_wp2_with (at_mapUpdate; refine wpList_mapUpdate_own _ rfl _ _ _ 47 rfl 50 3 keyPair Tryd.underlying47 _ b n D rfl hown hnm _ _ _ rfl rfl (pair_lit hwx hwk) _ _ (plainElem_int Tryd.underlying3 (wf_xor _ _)) ?_; intro w9 hown9 hg9)
                  go_roundw
                  case rel => exact ⟨k + 1, lo8, _, n + 1, _, by omega, by go_num, by rw [setW_P]; exact HP.out, h8.put hown9 hg9, by omega, HH.out.next hIM hFt.out hkW hW8 _⟩
                  case measure => simp [intOf]; omega
              · have hzE : ¬ (i : Int) < (zs.length : Int) := by omega
                cases bq
                · go_wp2_with fail
                  refine (h1.setB (x : Int) (k : Int) _ false HHas.out).mono ?_
                  rintro e w8 ⟨rfl, lo8, h8⟩
                  have hown := h8.said.own
                  go_wp2_with (at_mapUpdate; refine wpList_mapUpdate_own _ rfl _ _ _ 47 rfl 50 3 keyPair Tryd.underlying47 _ b n D rfl hown hnm _ _ _ rfl rfl (pair_lit hwx hwk) _ _ (plainElem_int Tryd.underlying3 hwp) ?_; intro w9 hown9 hg9)
                  go_roundw
                  case rel => exact ⟨k + 1, lo8, _, n + 1, _, by omega, by go_num, by rw [setW_P]; exact HP.out, h8.put hown9 hg9, by omega, HH.out.next hIM hFt.out hkW hW8 _⟩
                  case measure => simp [intOf]; omega
                · have h0 := HH.out.zero hFt.out hkW
                  go_wp2_with fail
                  refine (h1.word (x : Int) (k : Int) 0 h0).mono ?_
                  rintro e w7 ⟨rfl, h7, hB7⟩
                  clear h1 h0 hB7
                  go_wp2_with fail
                  refine (h7.setB (x : Int) (k : Int) _ true HHas.out).mono ?_
                  rintro e w8 ⟨rfl, lo8, h8⟩
                  have hown := h8.said.own
                  go_wp2_with (at_mapUpdate; refine wpList_mapUpdate_own _ rfl _ _ _ 47 rfl 50 3 keyPair Tryd.underlying47 _ b n D rfl hown hnm _ _ _ rfl rfl (pair_lit hwx hwk) _ _ (plainElem_int Tryd.underlying3 hwp) ?_; intro w9 hown9 hg9)
                  go_roundw
                  case rel => exact ⟨k + 1, lo8, _, n + 1, _, by omega, by go_num, by rw [setW_P]; exact HP.out, h8.put hown9 hg9, by omega, HH.out.next hIM hFt.out hkW hW8 _⟩
                  case measure => simp [intOf]; omega
            · obtain rfl : k = W := by omega
              obtain ⟨y', hy', hS'⟩ := HH.out.done h1.two.ar.at_.fits
              go_wp2_with fail
              go_roundw
              case rel => exact ⟨i + 1, lo, s, n, D, y', by omega, by go_num, HP.out, h1, by omega, hy', hS'⟩
              case measure => simp [intOf]; omega
      · obtain rfl : i = len := by omega
        have hm1 := h1.two.md.c1
        obtain ⟨Dm, hown, hDm⟩ := h1.two.md.map
        have hXlt := h1.two.ar.at_.lt
        have hYlt := h1.two.md.lt
        have hblt := h1.said.own.lt
        have hsB := h1.two.ar.size
        have hF := Lib.hid h1.two.ar.at_.fits
        have HDm := Lib.hid hDm
        clear hDm
        go_wp2_with (at_range; refine wpList_range_own _ rfl _ 42 rfl 30 3 keyRef Tryd.underlying42 _ Y.t 4096 _ rfl hown ?_; intro w0 hrg0 hg0 hs0)
        go_frame
        have hR0 : Reading w.heap.size (X.with lo) Y s b n D Dm wr.heap.size w w0 (Maps.has Dm) (Maps.size Dm) :=
          ⟨h1.ask ⟨hg0.os, hg0.tape, hg0.output, hg0.size, fun k hk => hg0.block k hk (by simp)⟩, hrg0, hsB, fun h => by have := hXlt _ h; omega, fun h => by have := hYlt _ h; omega, by omega⟩
        clear h1 hrg0 hg0 hs0 hown hm1 hXlt hYlt hblt
        generalize wr.heap.size = it at *
        go_loopw [17] (fun _ wx => RdRel w.heap.size (X.with lo) Y s b n D Dm it w wx) (fun _ wx => wx.rangeLeft Y.t it)
        case atStart => exact ⟨_, _, hR0⟩
        case round =>
          clear hR0
          obtain ⟨left, cnt, hR⟩ := hrel
          have hrg := hR.rng
          go_wp2_with (at_next; refine wpList_next_ranges_ii wr rfl _ rfl 30 3 .i64 .i64 keyRef Tryd.underlying30 Tryd.underlying3 Y.t it 4096 Dm left cnt rfl hrg ?_ ?_)
          · intro hc0 hl0
            have hbl := hR.trio.two.ar.below
            clear hR hrg
            go_wp2_with fail
            go_ret
            exact ⟨rfl, hbl⟩
          · intro x c w2 cnt1 hwx hwc hlx hat hrg1 hlt hg1 hs1 hen
            obtain ⟨r, rfl, hr, hcE⟩ := HDm.out.at_key hF.out hwx hat
            have hR1 := hR.next hrg1 hg1
            obtain ⟨_, hr2, hok, _⟩ := hF.out.at_ r hr
            have hr20 : (r : Int) ≤ 2048 := by have := hF.out.p64; omega
            have hr0 : (0 : Int) ≤ (r : Int) := by omega
            rw [← hcE] at hok
            obtain ⟨W, hW⟩ : ∃ W, wN c = W := ⟨_, rfl⟩
            have hWs : (2 : Int) * 2 ^ c.toNat = (W : Int) ∧ wordsOf c = (W : Int) ∧ W ≤ 8 := by
              rcases okC_cases hok with rfl | rfl | rfl
              · have : W = 2 := hW.symm; subst this; exact ⟨rfl, rfl, by omega⟩
              · have : W = 4 := hW.symm; subst this; exact ⟨rfl, rfl, by omega⟩
              · have : W = 8 := hW.symm; subst this; exact ⟨rfl, rfl, by omega⟩
            obtain ⟨hshl, hWo, hW8⟩ := hWs
            have hc0 : ¬ c < 0 := by rcases okC_cases hok with x | x | x <;> omega
            have hc2 : c ≤ 2 := by rcases okC_cases hok with x | x | x <;> omega
            have HRr := Lib.hid hr
            have HW := Lib.hid hW
            have HCE := Lib.hid hcE
            have HWo := Lib.hid hWo
            have HLt := Lib.hid (show cnt1 < cnt from hlt)
            have hle := hrg.left_eq
            have HLE := Lib.hid hle
            clear hW hcE hr hok hR hrg hrg1 hg1 hs1 hat hwx hwc hlx hr2 hWo hlt hle
            go_wp2_with fail
            clear hen
            go_loopw [128] (fun v128 wx => RdIn w.heap.size (X.with lo) Y s b n D Dm it W w (fun z => left z && !z.sameKey (.int .i64 (r : Int))) cnt1 v128 wx) (fun v128 _ => W - (intOf v128).toNat)
            case atStart => exact ⟨0, Nat.zero_le _, rfl, hR1⟩
            case round =>
              clear hR1
              obtain ⟨k, hk, rfl, hR2⟩ := hrel
              have hk0 : (0 : Int) ≤ (k : Int) := by omega
              have hk8 : (k : Int) ≤ 8 := by omega
              by_cases hkW : k < W
              · have hkl : (k : Int) < (W : Int) := by omega
                obtain ⟨v, hv⟩ : ∃ v, s.ws (r + k) = v := ⟨_, rfl⟩
                have hkc : k < wN (s.cls (pg r)) := by rw [← HCE.out, HW.out]; exact hkW
                have cW := hR2.drew.word (r : Int) (k : Int) v (by rw [wordI_yes hF.out HRr.out hkc]; exact hv)
                have hl1 := hR2.drew.look HY.out HS.out HRr.out hkc v hv
                have HV := Lib.hid hv
                have hvv : (v != v) = false := by simp
                clear hv hR2
                go_wp2_with fail
                go_region_held3 (fun W' => (Instr.lookup 47 (.map (some b)) (.agg #[.int .i64 (r : Int), .int .i64 (k : Int)]) false).run Tryd.prog W' = .ok (.int .i64 v) W')
                  (first | exact hl7 | exact hl1)
                  (first
                    | (go_at_call 30; refine cW.mono ?_; rintro e w7 ⟨rfl, hR7⟩; have hl7 := hR7.look HY.out HS.out HRr.out hkc v HV.out))
                all_goals
                  clear cW hl1 hl7
                  go_wp2_with fail
                  go_roundw
                  case rel => exact ⟨k + 1, by omega, by go_num, hR7⟩
                  case measure => simp [intOf]; omega
              · obtain rfl : k = W := by omega
                have n1 := hasWd_far HRr.out (i := (k : Int)) (.inr (by rw [← HCE.out, HWo.out]; omega))
                have n2 := hasWd_far HRr.out (i := -1) (.inl (by omega))
                have c1 := hR2.word (r : Int) (k : Int) 0 (wordI_no n1)
                have HN1 := Lib.hid n1
                have HN2 := Lib.hid n2
                clear n1 n2 hR2
                go_wp2_with fail
                refine c1.mono ?_
                rintro e w3 ⟨rfl, hR3⟩
                have c2 := hR3.word (r : Int) (-1) 0 (wordI_no HN2.out)
                clear c1 hR3
                go_wp2_with fail
                refine c2.mono ?_
                rintro e w4 ⟨rfl, hR4⟩
                have c3 := hR4.setNo (r : Int) (k : Int) 1 HN1.out
                clear c2 hR4
                go_wp2_with fail
                refine c3.mono ?_
                rintro e w5 ⟨rfl, hR5⟩
                obtain ⟨v, hv⟩ : ∃ v, wordI s ((r : Int) + 1) 0 = v := ⟨_, rfl⟩
                have c4 := hR5.word ((r : Int) + 1) 0 v hv
                have HV := Lib.hid hv
                clear c3 hR5 hv
                by_cases hv0 : v = 0
                · subst hv0
                  go_wp2_with fail
                  refine c4.mono ?_
                  rintro e w6 ⟨rfl, hR6⟩
                  clear c4
                  have hle := hR6.rng.left_eq
                  have HLE2 := Lib.hid hle
                  clear hle
                  go_wp2_with fail
                  go_roundw
                  case rel => exact ⟨_, _, hR6⟩
                  case measure => rw [HLE.out, HLE2.out]; exact HLt.out
                · have hv1 : (v != 0) = true := by simp [hv0]
                  go_wp2_with fail
                  refine c4.mono ?_
                  rintro e w6 ⟨rfl, hR6⟩
                  have c5 := hR6.hasB ((r : Int) + 1) true (wordI_in (by rw [HV.out]; exact hv0))
                  clear c4 hR6
                  go_wp2_with fail
                  refine c5.mono ?_
                  rintro e w7 ⟨rfl, hR7⟩
                  clear c5
                  have hle := hR7.rng.left_eq
                  have HLE2 := Lib.hid hle
                  clear hle
                  go_wp2_with fail
                  go_roundw
                  case rel => exact ⟨_, _, hR7⟩
                  case measure => rw [HLE.out, HLE2.out]; exact HLt.out
theorem words_frame (a0 : Option Addr) (len cap : Nat) (K N : Nat → Int) (a1 : Option Addr) (zs : List Int) (cap1 : Nat) (w : World) (h0 : len ≤ 9223372036854775807) (hz : zs.length ≤ 9223372036854775807) (hC : CallsAt w a0 len K N) (hZ : NumsAt w a1 zs) (hT : TableAt w) :
    Calls Tryd.prog 4 #[.slice a0 len cap, .slice a1 zs.length cap1] w fun e w' => e = .returned (.bool true) ∧ Below w.heap.size w w' := words_true a0 len cap K N a1 zs cap1 w h0 hz hC hZ hT
end Go.Proofs.YtlloanoohphgcaaDoor
