/- made: objects of deeds, and things that say the same; at this seat's numbers. Written by wip/gen/mkw.py. -/
import Derived.Test.YtoemfehlnnbjdaaDoorMkM
import Derived.Test.YtoemfehlnnbjdaaDoorArgsD
namespace Go.Proofs.YtoemfehlnnbjdaaDoor
open Go Go.RowKit Go.Shelf
set_option linter.unusedSimpArgs false
set_option linter.unusedVariables false
attribute [local go_sem] Oper.semAt_some

theorem PtrRow.lenRun {w : World} {v : Value} {l : List ThB} (h : PtrRow w v l) (ty : TypeId) (W : World) : (Builtin.len_ #[26] ty #[v]).run Tryd.prog W = .ok (.int .i64 (l.length : Int)) W := by
  rcases h.is with ⟨rfl, rfl⟩ | ⟨g, cap, cur, rfl, _⟩
  · kernel_rfl
  · simp [go_sem, Builtin.len_]
/-- append of a pointer. -/
theorem wpList_pushP {ops : Array Oper} {rest : List Oper} {o : Oper} {a : Act} {Q : Exit → Act → World → Prop} {v : Value} {l : List ThB} {w : World} (hgd : o.guard = none) (s x : Operand)
    (ho : o.op = .call { callee := .builtin .append, args := #[s, x], argTypes := #[26, 26] }) (h : PtrRow w v l) (hl : l.length ≤ 100000) (ad c : Nat) (b : ThB) (hr : w.cell? ⟨ad, 0, none⟩ = some (.pointer (some ⟨b.p, 0, none⟩)))
    (hs : a.eval s = v) (hx : a.eval x = .slice (some ⟨ad, 0, none⟩) 1 c) (hK : ∀ g n cap w', PtrRow w' (.slice (some ⟨g, 0, none⟩) n cap) (l ++ [b]) → Turn (fun k => v.ownBlock = some k) w w' → (v.ownBlock = some g ∨ w.heap.size ≤ g) → wpList Tryd.prog ops Q rest (a.put o.dst (.slice (some ⟨g, 0, none⟩) n cap)) w') : wpList Tryd.prog ops Q (o :: rest) a w := by
  obtain ⟨i0, hi, hz0, hz1, hz2⟩ := info_parts infoPtrM
  refine wpList_append_atM w hgd s x 26 ho 29 i0 (.pointer none) 1 8 Tryd.underlying26 hi hz0 hz1 hz2 rfl v l.length _ hs h ⟨ad, 0, none⟩ 1 c [.pointer (some ⟨b.p, 0, none⟩)] hx rfl (fun j u hj => by
    match j, hj with
    | 0, hj => simp at hj; subst hj; simpa [Addr.add] using hr) (fun u hu => by simp at hu; subst hu; rfl) (by decide) (by unfold maxLen; omega) (by omega) fun v' w' h2 h3 h4 => ?_
  have hR : PtrRow w' v' (l ++ [b]) := by
    unfold PtrRow
    rw [List.length_append, List.map_append]
    exact h2
  rcases hR.is with ⟨_, e⟩ | ⟨g, cap, cur, rfl, _⟩
  · simp at e
  · exact hK g _ cap w' hR (Turn.ofGrownM h3) (h4 g rfl)
/-- What 'made' leaves. -/
def MkPost (xa : Nat) (wb : World) (e : Ending) (w' : World) : Prop := ∃ X s l bs vo, X.a = xa ∧ e = .returned (.tuple #[vo, .bool true]) ∧ MkR wb.heap.size X s l l bs vo wb w' ∧ l.length ≤ 80
theorem below_drewN (w : World) (n : Nat) : Below w.heap.size w (w.drewN n) := ⟨rfl, rfl, rfl, Nat.le_refl _, fun _ _ => rfl⟩
def MkA (B xa len : Nat) (wb : World) (v6 v19 : Value) (wr : World) : Prop :=
  ∃ (i : Nat) (X : ArB) (s : ArS) (l : List Ob) (bs : List ThB), i ≤ len ∧ l.length ≤ i ∧ v19 = .int .i64 (i : Int) ∧ X.a = xa ∧ MkR B X s l l bs v6 wb wr

set_option maxRecDepth 100000 in
set_option maxHeartbeats 16000000 in
theorem made_any {X0 : ArB} {s0 : ArS} {wb w : World} (hA0 : ArIn wb.heap.size X0 s0 wb w) (a0 : Option Addr) (len cap : Nat) (Q : Nat → Nat → Int) (hlen : len ≤ 80) (hZ : DeedsAt wb a0 len Q) :
    Calls Tryd.prog 9 #[.pointer (some ⟨X0.a, 0, none⟩), .slice a0 len cap] w fun e w' =>
      MkPost X0.a wb e w' := by
  have HZ := Lib.hid hZ
  clear hZ
  obtain ⟨xa, hxa⟩ : ∃ xa, xa = X0.a := ⟨_, rfl⟩
  have HXA := Lib.hid hxa
  rw [← hxa]
  have hrel0 : MkR wb.heap.size X0 s0 [] [] [] (.slice none 0 0) wb w := ⟨hA0, Objs.nil _, ⟨rfl, .inl ⟨rfl, rfl⟩⟩, rfl, fun i x b h => by simp at h, ⟨fun k e => (by cases e), fun b hb => (by cases hb)⟩, fun i j b c _ h => by simp at h⟩
  clear hA0 hxa
  go_enter Tryd.func9, Tryd.ntmps9
  go_wp2_with fail
  go_loopw [6, 19] (fun v6 v19 wr => MkA wb.heap.size xa len wb v6 v19 wr) (fun _ v19 _ => len - (intOf v19).toNat)
  case atStart => exact ⟨0, X0, s0, [], [], Nat.zero_le _, Nat.le_refl _, rfl, HXA.out.symm, hrel0⟩
  case round =>
    clear hrel0
    obtain ⟨i, X, s, l, bs, hi, hll, rfl, rfl, h1⟩ := hrel
    have hi0 : (0 : Int) ≤ (i : Int) := by omega
    by_cases hlt : i < len
    · have hi1 : (i : Int) < (len : Int) := by omega
      obtain ⟨bk, off, rfl, hbk, hcs⟩ := HZ.out i hlt
      have hc0 := (h1.ar.below.cell (p := ⟨bk, off + i * 4, none⟩) hbk).trans (hcs 0 (by decide)).1
      have hc1 := (h1.ar.below.cell (p := ⟨bk, off + i * 4 + 1, none⟩) hbk).trans (hcs 1 (by decide)).1
      have hc2 := (h1.ar.below.cell (p := ⟨bk, off + i * 4 + 2, none⟩) hbk).trans (hcs 2 (by decide)).1
      have hc3 := (h1.ar.below.cell (p := ⟨bk, off + i * 4 + 3, none⟩) hbk).trans (hcs 3 (by decide)).1
      generalize Q i 0 = kd at *
      generalize Q i 1 = id at *
      generalize Q i 2 = kk at *
      generalize Q i 3 = rd at *
      obtain ⟨a, ha, hae⟩ := i64_and_mask kd 3 (by decide)
      replace hae : bits .and .i64 kd 3 = (a : Int) := hae
      have h2 := h1.ask ((Below.refl _ wr).alloc (Nat.le_refl _) (.cells #[.int .i64 kd, .int .i64 id, .int .i64 kk, .int .i64 rd] 81))
      have hbx := Blk.new wr #[.int .i64 kd, .int .i64 id, .int .i64 kk, .int .i64 rd] 81
      have hln := h2.row.lenRun 3 (wr.alloc (.cells #[.int .i64 kd, .int .i64 id, .int .i64 kk, .int .i64 rd] 81))
      rw [h2.len] at hln
      have hll2 : l.length ≤ 80 := by omega
      have HLL := Lib.hid hll
      have hllI : (0 : Int) ≤ (l.length : Int) := by omega
      clear hcs h1 hll
      by_cases hfirst : a = 0
      · as_aux_lemma =>
          subst hfirst
          have hae2 : bits .and .i64 kd 3 = 0 := hae
          clear hae
          rcases newE_cases s id with hE | ⟨hk, hE⟩ | ⟨hk, hE⟩ | ⟨hk0, hk6, _, hE⟩
          · obtain ⟨hk0, hk6, hr0, hsk⟩ := newE_zero hE
            clear hsk
            obtain ⟨k, hk⟩ : ∃ k : Nat, id = (k : Int) := ⟨id.toNat, by omega⟩
            subst hk
            have cN := ceNewOk h2.ar (k : Int) _ rfl hE
            have hmk := make_refM k (by omega)
            have hob := h2.ob.new h2.ar.at_.fits hE
            have hok := h2.ob.keep h2.ar.at_.fits (k : Int)
            have hk7 : ¬ (6 : Int) < (k : Int) := by omega
            have hkn : ¬ (k : Int) < 0 := by omega
            clear hE
            generalize newR s (k : Int) = r at *
            have hrI : ((r : Int) == 0) = false := by simpa using hr0
            have hrI2 : ((r : Int) != 0) = true := by simpa using hr0
            go_wp2_with fail
            refine cN.mono ?_
            rintro e w5 ⟨rfl, lo', hA5, hS5⟩
            have h5 := h2.step hA5 hS5 hok
            have HXE := Lib.hid (show (X.with lo').a = X.a from rfl)
            have H5 := Lib.hid h5
            have HOB := Lib.hid hob
            clear cN hA5 hS5 h2 hbx hln h5 hob hok
            have hb5l : bs.length ≤ 100000 := by have := H5.out.len; omega
            have hB8 := (((Below.refl w5.heap.size w5).alloc (Nat.le_refl _) (.cells (row k fun _ => 0) 31)).alloc (by simp) (.cells #[.int .i64 (r : Int), .slice (some ⟨w5.heap.size, 0, none⟩) k k, .int .i64 0] 34)).alloc (by simp; omega) (.cells #[.pointer (some ⟨w5.heap.size + 1, 0, none⟩)] 29)
            have hg8 := ((Blk.new w5 (row k fun _ => 0) 31).alloc (.cells #[.int .i64 (r : Int), .slice (some ⟨w5.heap.size, 0, none⟩) k k, .int .i64 0] 34)).alloc (.cells #[.pointer (some ⟨w5.heap.size + 1, 0, none⟩)] 29)
            have hp8 := (Blk.new (w5.alloc (.cells (row k fun _ => 0) 31)) #[.int .i64 (r : Int), .slice (some ⟨w5.heap.size, 0, none⟩) k k, .int .i64 0] 34).alloc (.cells #[.pointer (some ⟨w5.heap.size + 1, 0, none⟩)] 29)
            have hq8 := (Blk.new ((w5.alloc (.cells (row k fun _ => 0) 31)).alloc (.cells #[.int .i64 (r : Int), .slice (some ⟨w5.heap.size, 0, none⟩) k k, .int .i64 0] 34)) #[.pointer (some ⟨w5.heap.size + 1, 0, none⟩)] 29).cell 0
            simp only [World.size_alloc] at hp8 hq8
            have HR := Lib.hid (And.intro (H5.out.ask hB8) (And.intro hg8 (And.intro hp8 hq8)))
            clear hB8 hg8 hp8 hq8
            go_wp2_with (at_builtin; refine wpList_pushP rfl _ _ rfl HR.out.1.row hb5l (w5.heap.size + 1 + 1) 1 ⟨w5.heap.size + 1, w5.heap.size⟩ HR.out.2.2.2 rfl rfl ?_; intro g6 n6 c6 w6 hR6 hT6 hN6; have H6 := Lib.hid (And.intro hR6 (And.intro hT6 hN6)); clear hR6 hT6 hN6)
            go_roundw
            case rel =>
              obtain ⟨hR6, hT6, hN6⟩ := H6.out
              obtain ⟨h8, hg8, hp8, hq8⟩ := HR.out
              have hbase := H5.out.ar.size
              have h8b : MkR wb.heap.size (X.with lo') (s.newS (k : Int)) (l ++ [⟨r, k, 0, fun _ => 0⟩]) l bs _ wb _ := ⟨h8.ar, HOB.out, h8.row, h8.len, h8.th, h8.low, h8.sep⟩
              have hF := h8b.push (x := ⟨r, k, 0, fun _ => 0⟩) (b := ⟨w5.heap.size + 1, w5.heap.size⟩) hR6 hT6 hN6 hp8 hg8 ⟨by show wb.heap.size ≤ w5.heap.size + 1; omega, hbase⟩ (fun c hc => by
                obtain ⟨j, hj⟩ := List.getElem?_of_mem hc
                obtain ⟨y, hy⟩ := H5.out.hitB hj
                have h9 := (H5.out.th j y c hy hj).1.lt
                have h10 := (H5.out.th j y c hy hj).2.lt
                exact ⟨by show w5.heap.size + 1 ≠ c.p; omega, by show w5.heap.size ≠ c.g; omega⟩)
              exact ⟨i + 1, _, _, _, _, hlt, by rw [List.length_append]; have := HLL.out; simp; omega, by go_num, HXE.out, hF⟩
            case measure => simp [intOf]; omega
          · have hk7 : ¬ (6 : Int) < id := by omega
            have cN := ceNew h2.ar id
            obtain ⟨hz, hnS⟩ := newE_not h2.ar.at_.fits (k := id) (by rw [hE]; decide)
            rw [hz, hnS, hE] at cN
            clear hz hnS hE
            go_wp2_with fail
            refine cN.mono ?_
            rintro e w5 ⟨rfl, lo', hA5, hS5⟩
            have HF := Lib.hid (h2.step hA5 hS5 h2.ob)
            have HXE := Lib.hid (show (X.with lo').a = X.a from rfl)
            clear cN hA5 hS5 h2 hbx hln
            go_wp2_with fail

            go_roundw
            case rel => exact ⟨i + 1, _, _, l, bs, hlt, by have := HLL.out; omega, by go_num, HXE.out, HF.out⟩
            case measure => simp [intOf]; omega
          · have hkn : ¬ id < 0 := by omega
            have cN := ceNew h2.ar id
            obtain ⟨hz, hnS⟩ := newE_not h2.ar.at_.fits (k := id) (by rw [hE]; decide)
            rw [hz, hnS, hE] at cN
            clear hz hnS hE
            go_wp2_with fail
            refine cN.mono ?_
            rintro e w5 ⟨rfl, lo', hA5, hS5⟩
            have HF := Lib.hid (h2.step hA5 hS5 h2.ob)
            have HXE := Lib.hid (show (X.with lo').a = X.a from rfl)
            clear cN hA5 hS5 h2 hbx hln
            go_wp2_with fail

            go_roundw
            case rel => exact ⟨i + 1, _, _, l, bs, hlt, by have := HLL.out; omega, by go_num, HXE.out, HF.out⟩
            case measure => simp [intOf]; omega
          · have hk7 : ¬ (6 : Int) < id := by omega
            have hkn : ¬ id < 0 := by omega
            have cN := ceNew h2.ar id
            obtain ⟨hz, hnS⟩ := newE_not h2.ar.at_.fits (k := id) (by rw [hE]; decide)
            rw [hz, hnS, hE] at cN
            clear hz hnS hE
            go_wp2_with fail
            refine cN.mono ?_
            rintro e w5 ⟨rfl, lo', hA5, hS5⟩
            have HF := Lib.hid (h2.step hA5 hS5 h2.ob)
            have HXE := Lib.hid (show (X.with lo').a = X.a from rfl)
            clear cN hA5 hS5 h2 hbx hln
            go_wp2_with fail

            go_roundw
            case rel => exact ⟨i + 1, _, _, l, bs, hlt, by have := HLL.out; omega, by go_num, HXE.out, HF.out⟩
            case measure => simp [intOf]; omega
      · have hae2 : (bits .and .i64 kd 3 == 0) = false := by rw [hae]; simp; omega
        by_cases hl0 : l.length = 0
        · as_aux_lemma =>
            have hln0 : ((l.length : Int) == 0) = true := by simp [hl0]
            clear hae hl0
            rcases newE_cases s id with hE | ⟨hk, hE⟩ | ⟨hk, hE⟩ | ⟨hk0, hk6, _, hE⟩
            · obtain ⟨hk0, hk6, hr0, hsk⟩ := newE_zero hE
              clear hsk
              obtain ⟨k, hk⟩ : ∃ k : Nat, id = (k : Int) := ⟨id.toNat, by omega⟩
              subst hk
              have cN := ceNewOk h2.ar (k : Int) _ rfl hE
              have hmk := make_refM k (by omega)
              have hob := h2.ob.new h2.ar.at_.fits hE
              have hok := h2.ob.keep h2.ar.at_.fits (k : Int)
              have hk7 : ¬ (6 : Int) < (k : Int) := by omega
              have hkn : ¬ (k : Int) < 0 := by omega
              clear hE
              generalize newR s (k : Int) = r at *
              have hrI : ((r : Int) == 0) = false := by simpa using hr0
              have hrI2 : ((r : Int) != 0) = true := by simpa using hr0
              go_wp2_with fail
              refine cN.mono ?_
              rintro e w5 ⟨rfl, lo', hA5, hS5⟩
              have h5 := h2.step hA5 hS5 hok
              have HXE := Lib.hid (show (X.with lo').a = X.a from rfl)
              have H5 := Lib.hid h5
              have HOB := Lib.hid hob
              clear cN hA5 hS5 h2 hbx hln h5 hob hok
              have hb5l : bs.length ≤ 100000 := by have := H5.out.len; omega
              have hB8 := (((Below.refl w5.heap.size w5).alloc (Nat.le_refl _) (.cells (row k fun _ => 0) 31)).alloc (by simp) (.cells #[.int .i64 (r : Int), .slice (some ⟨w5.heap.size, 0, none⟩) k k, .int .i64 0] 34)).alloc (by simp; omega) (.cells #[.pointer (some ⟨w5.heap.size + 1, 0, none⟩)] 29)
              have hg8 := ((Blk.new w5 (row k fun _ => 0) 31).alloc (.cells #[.int .i64 (r : Int), .slice (some ⟨w5.heap.size, 0, none⟩) k k, .int .i64 0] 34)).alloc (.cells #[.pointer (some ⟨w5.heap.size + 1, 0, none⟩)] 29)
              have hp8 := (Blk.new (w5.alloc (.cells (row k fun _ => 0) 31)) #[.int .i64 (r : Int), .slice (some ⟨w5.heap.size, 0, none⟩) k k, .int .i64 0] 34).alloc (.cells #[.pointer (some ⟨w5.heap.size + 1, 0, none⟩)] 29)
              have hq8 := (Blk.new ((w5.alloc (.cells (row k fun _ => 0) 31)).alloc (.cells #[.int .i64 (r : Int), .slice (some ⟨w5.heap.size, 0, none⟩) k k, .int .i64 0] 34)) #[.pointer (some ⟨w5.heap.size + 1, 0, none⟩)] 29).cell 0
              simp only [World.size_alloc] at hp8 hq8
              have HR := Lib.hid (And.intro (H5.out.ask hB8) (And.intro hg8 (And.intro hp8 hq8)))
              clear hB8 hg8 hp8 hq8
              go_wp2_with (at_builtin; refine wpList_pushP rfl _ _ rfl HR.out.1.row hb5l (w5.heap.size + 1 + 1) 1 ⟨w5.heap.size + 1, w5.heap.size⟩ HR.out.2.2.2 rfl rfl ?_; intro g6 n6 c6 w6 hR6 hT6 hN6; have H6 := Lib.hid (And.intro hR6 (And.intro hT6 hN6)); clear hR6 hT6 hN6)
              go_roundw
              case rel =>
                obtain ⟨hR6, hT6, hN6⟩ := H6.out
                obtain ⟨h8, hg8, hp8, hq8⟩ := HR.out
                have hbase := H5.out.ar.size
                have h8b : MkR wb.heap.size (X.with lo') (s.newS (k : Int)) (l ++ [⟨r, k, 0, fun _ => 0⟩]) l bs _ wb _ := ⟨h8.ar, HOB.out, h8.row, h8.len, h8.th, h8.low, h8.sep⟩
                have hF := h8b.push (x := ⟨r, k, 0, fun _ => 0⟩) (b := ⟨w5.heap.size + 1, w5.heap.size⟩) hR6 hT6 hN6 hp8 hg8 ⟨by show wb.heap.size ≤ w5.heap.size + 1; omega, hbase⟩ (fun c hc => by
                  obtain ⟨j, hj⟩ := List.getElem?_of_mem hc
                  obtain ⟨y, hy⟩ := H5.out.hitB hj
                  have h9 := (H5.out.th j y c hy hj).1.lt
                  have h10 := (H5.out.th j y c hy hj).2.lt
                  exact ⟨by show w5.heap.size + 1 ≠ c.p; omega, by show w5.heap.size ≠ c.g; omega⟩)
                exact ⟨i + 1, _, _, _, _, hlt, by rw [List.length_append]; have := HLL.out; simp; omega, by go_num, HXE.out, hF⟩
              case measure => simp [intOf]; omega
            · have hk7 : ¬ (6 : Int) < id := by omega
              have cN := ceNew h2.ar id
              obtain ⟨hz, hnS⟩ := newE_not h2.ar.at_.fits (k := id) (by rw [hE]; decide)
              rw [hz, hnS, hE] at cN
              clear hz hnS hE
              go_wp2_with fail
              refine cN.mono ?_
              rintro e w5 ⟨rfl, lo', hA5, hS5⟩
              have HF := Lib.hid (h2.step hA5 hS5 h2.ob)
              have HXE := Lib.hid (show (X.with lo').a = X.a from rfl)
              clear cN hA5 hS5 h2 hbx hln
              go_wp2_with fail

              go_roundw
              case rel => exact ⟨i + 1, _, _, l, bs, hlt, by have := HLL.out; omega, by go_num, HXE.out, HF.out⟩
              case measure => simp [intOf]; omega
            · have hkn : ¬ id < 0 := by omega
              have cN := ceNew h2.ar id
              obtain ⟨hz, hnS⟩ := newE_not h2.ar.at_.fits (k := id) (by rw [hE]; decide)
              rw [hz, hnS, hE] at cN
              clear hz hnS hE
              go_wp2_with fail
              refine cN.mono ?_
              rintro e w5 ⟨rfl, lo', hA5, hS5⟩
              have HF := Lib.hid (h2.step hA5 hS5 h2.ob)
              have HXE := Lib.hid (show (X.with lo').a = X.a from rfl)
              clear cN hA5 hS5 h2 hbx hln
              go_wp2_with fail

              go_roundw
              case rel => exact ⟨i + 1, _, _, l, bs, hlt, by have := HLL.out; omega, by go_num, HXE.out, HF.out⟩
              case measure => simp [intOf]; omega
            · have hk7 : ¬ (6 : Int) < id := by omega
              have hkn : ¬ id < 0 := by omega
              have cN := ceNew h2.ar id
              obtain ⟨hz, hnS⟩ := newE_not h2.ar.at_.fits (k := id) (by rw [hE]; decide)
              rw [hz, hnS, hE] at cN
              clear hz hnS hE
              go_wp2_with fail
              refine cN.mono ?_
              rintro e w5 ⟨rfl, lo', hA5, hS5⟩
              have HF := Lib.hid (h2.step hA5 hS5 h2.ob)
              have HXE := Lib.hid (show (X.with lo').a = X.a from rfl)
              clear cN hA5 hS5 h2 hbx hln
              go_wp2_with fail

              go_roundw
              case rel => exact ⟨i + 1, _, _, l, bs, hlt, by have := HLL.out; omega, by go_num, HXE.out, HF.out⟩
              case measure => simp [intOf]; omega
        · have hln0 : ((l.length : Int) == 0) = false := by simpa using hl0
          have hlpos : (0 : Int) < (l.length : Int) := by omega
          obtain ⟨ra, _, hrae⟩ := i64_and_mask id 65535 (by decide)
          replace hrae : bits .and .i64 id 65535 = (ra : Int) := hrae
          obtain ⟨rc, _, hrce⟩ := i64_and_mask rd 65535 (by decide)
          replace hrce : bits .and .i64 rd 65535 = (rc : Int) := hrce
          obtain ⟨t3, _, ht3e⟩ := i64_and_mask rd 3 (by decide)
          replace ht3e : bits .and .i64 rd 3 = (t3 : Int) := ht3e
          have hbl := h2.len
          have hbpos : 0 < bs.length := by omega
          have hrem : (ra : Int).tmod (bs.length : Int) = ((ra % bs.length : Nat) : Int) := by rw [Int.tmod_eq_emod_of_nonneg (by omega)]; rfl
          have hrem2 : (rc : Int).tmod (bs.length : Int) = ((rc % bs.length : Nat) : Int) := by rw [Int.tmod_eq_emod_of_nonneg (by omega)]; rfl
          have hixl : ra % bs.length < bs.length := Nat.mod_lt _ hbpos
          have hiyl : rc % bs.length < bs.length := Nat.mod_lt _ hbpos
          generalize ra % bs.length = ix at *
          generalize rc % bs.length = iy at *
          rcases h2.row.is with ⟨_, e2⟩ | ⟨g, cap, cur, hv6, hg, hcell⟩
          · exfalso
            rw [e2] at hbpos
            simp at hbpos
          · subst hv6
            have e1 := hcell ix hixl
            have e2 := hcell iy hiyl
            obtain ⟨x, hx⟩ : ∃ x, l[ix]? = some x := ⟨_, List.getElem?_eq_getElem (by omega)⟩
            obtain ⟨y, hy⟩ : ∃ y, l[iy]? = some y := ⟨_, List.getElem?_eq_getElem (by omega)⟩
            obtain ⟨b, hb⟩ := h2.hit hx
            obtain ⟨c, hc⟩ := h2.hit hy
            rw [show bs[ix] = b by rw [List.getElem?_eq_getElem hixl] at hb; exact Option.some.inj hb] at e1
            rw [show bs[iy] = c by rw [List.getElem?_eq_getElem hiyl] at hc; exact Option.some.inj hc] at e2
            have hixI : (ix : Int) < (bs.length : Int) := by omega
            have hiyI : (iy : Int) < (bs.length : Int) := by omega
            have hix0 : (0 : Int) ≤ (ix : Int) := by omega
            have hiy0 : (0 : Int) ≤ (iy : Int) := by omega
            have hbn0 : ((bs.length : Int) == 0) = false := beq_eq_false_iff_ne.2 (by omega)
            have HX := Lib.hid (And.intro hx hb)
            have hyc := (h2.th _ y c hy hc).1.cell 0
            have hxc := (h2.th _ x b hx hb).1.cell 0
            unfold thingV at hyc hxc
            simp only [List.getElem?_toArray, List.getElem?_cons_zero] at hyc hxc
            have hO := h2.ob.at_ _ x hx
            have HLB := Lib.hid hbl
            have d0 := hbx.cell 0
            have d1 := hbx.cell 1
            have d2 := hbx.cell 2
            have d3 := hbx.cell 3
            simp only [List.getElem?_toArray, List.getElem?_cons_succ, List.getElem?_cons_zero] at d0 d1 d2 d3
            have H2 := Lib.hid h2
            have HBX := Lib.hid hbx
            have HO := Lib.hid hO
            have hbnI : (0 : Int) ≤ (bs.length : Int) := by omega
            clear hbl hbpos hixl hiyl hx hb hy hc hcell hg hln hln0 hlpos hllI hll2 hl0 h2 hbx hO
            obtain ⟨to, hto⟩ : ∃ to : Int, to = (if 0 < t3 then (y.r : Int) else 0) := ⟨_, rfl⟩
            by_cases ht0 : 0 < t3
            · have ht0I : (0 : Int) < (t3 : Int) := by omega
              rw [if_pos ht0] at hto
              subst hto
              clear ht0
              have hS0 : (wr.alloc (.cells #[.int .i64 kd, .int .i64 id, .int .i64 kk, .int .i64 rd] 81)).cell? ⟨b.p, 0, none⟩ = some (.int .i64 (x.r : Int)) ∧ (wr.alloc (.cells #[.int .i64 kd, .int .i64 id, .int .i64 kk, .int .i64 rd] 81)).cell? ⟨wr.heap.size, 2, none⟩ = some (.int .i64 kk) := ⟨hxc, d2⟩
              have h2d := H2.out.ask (Below.refl _ _).drew
              have hfd := h2d.ar.at_.far HBX.out.drew (by decide) (by decide) (by decide) (by decide)
              have HFD := Lib.hid hfd
              by_cases ha1 : a = 1
              · as_aux_lemma =>
                  subst ha1
                  have hae3 : bits .and .i64 kd 3 = 1 := hae
                  clear hae hae2 hfirst
                  have cS := ceSetScalarOk h2d.ar HO.out kk
                  have hob := h2d.ob.setSc h2d.ar.at_.fits HX.out.1 kk
                  have H2D := Lib.hid h2d
                  have HOB := Lib.hid hob
                  clear h2d hob hfd
                  go_wp2_with fail
                  go_region_held3 (fun w' => w'.cell? ⟨b.p, 0, none⟩ = some (.int .i64 (x.r : Int)) ∧ w'.cell? ⟨wr.heap.size, 2, none⟩ = some (.int .i64 kk)) (first | exact hS0 | exact hS5)
                    (first
                      | (go_at_call 39; refine cS.mono ?_; rintro e w5 ⟨rfl, lo', hA5, hT5⟩; have h5 := H2D.out.step hA5 hT5 HOB.out; have hth5 := (h5.th _ x b HX.out.1 HX.out.2).1; have hbx5 := HBX.out.drew.turn hT5.turn HFD.out; have hS5 : w5.cell? ⟨b.p, 0, none⟩ = some (.int .i64 (x.r : Int)) ∧ w5.cell? ⟨wr.heap.size, 2, none⟩ = some (.int .i64 kk) := ⟨hth5.cell 0, hbx5.cell 2⟩))
                  have f2 := hth5.cell 2
                  have z2 := hth5.free 2
                  have g2 := hbx5.cell 2
                  unfold thingV at f2
                  simp only [List.getElem?_toArray, List.getElem?_cons_succ, List.getElem?_cons_zero] at f2 g2
                  have HF := Lib.hid (h5.storeV HX.out.1 HX.out.2 kk)
                  have HXE := Lib.hid (show (X.with lo').a = X.a from rfl)
                  clear cS hA5 hT5 h5 hth5 hbx5 hS0 hS5 hxc hyc e1 e2 d0 d1 d2 d3
                  go_wp2_with fail
                  go_roundw
                  case rel => exact ⟨i + 1, _, _, _, bs, hlt, by rw [List.length_set]; have := HLL.out; omega, by go_num, HXE.out, HF.out⟩
                  case measure => simp [intOf]; omega
              · have hae3 : (bits .and .i64 kd 3 == 1) = false := by rw [hae]; simp; omega
                clear hae hfirst
                by_cases hin : 0 ≤ kk ∧ kk < (x.k : Int)
                · as_aux_lemma =>
                    obtain ⟨j, hj⟩ : ∃ j : Nat, kk = (j : Int) := ⟨kk.toNat, by omega⟩
                    subst hj
                    have hj1 : (j : Int) < (x.k : Int) := hin.2
                    have hj0 : (0 : Int) ≤ (j : Int) := hin.1
                    have hjk : j < x.k := by omega
                    have cS := ceSetFieldOk h2d.ar HO.out j hjk (y.r : Int)
                    have hob := h2d.ob.setF h2d.ar.at_.fits HX.out.1 hjk (y.r : Int)
                    have H2D := Lib.hid h2d
                    have HOB := Lib.hid hob
                    have HJK := Lib.hid hjk
                    clear h2d hob hfd hin hjk
                    go_wp2_with fail
                    go_region_held3 (fun w' => w'.cell? ⟨b.p, 0, none⟩ = some (.int .i64 (x.r : Int)) ∧ w'.cell? ⟨wr.heap.size, 2, none⟩ = some (.int .i64 (j : Int))) (first | exact hS0 | exact hS5)
                      (first
                        | (go_at_call 36; refine cS.mono ?_; rintro e w5 ⟨rfl, lo', hA5, hT5⟩; have h5 := H2D.out.step hA5 hT5 HOB.out; have hth5 := (h5.th _ x b HX.out.1 HX.out.2).1; have hbx5 := HBX.out.drew.turn hT5.turn HFD.out; have hS5 : w5.cell? ⟨b.p, 0, none⟩ = some (.int .i64 (x.r : Int)) ∧ w5.cell? ⟨wr.heap.size, 2, none⟩ = some (.int .i64 (j : Int)) := ⟨hth5.cell 0, hbx5.cell 2⟩))
                    have f1 := hth5.cell 1
                    have g2 := hbx5.cell 2
                    have hrw := (h5.th _ x b HX.out.1 HX.out.2).2
                    have r0 := hrw.cell j
                    have z0 := hrw.free j
                    rw [row_get _ HJK.out] at r0
                    unfold thingV at f1
                    simp only [List.getElem?_toArray, List.getElem?_cons_succ, List.getElem?_cons_zero] at f1 g2
                    have HF := Lib.hid ((h5.storeF HX.out.1 HX.out.2 HJK.out (y.r : Int)).ask ((Below.refl _ _).drew.drew))
                    have HXE := Lib.hid (show (X.with lo').a = X.a from rfl)
                    have hS6 : w5.cell? ⟨b.p, 1, none⟩ = some (.slice (some ⟨b.g, 0, none⟩) x.k x.k) ∧ w5.cell? ⟨wr.heap.size, 2, none⟩ = some (.int .i64 (j : Int)) := ⟨f1, g2⟩
                    have hpg : b.p ≠ b.g := fun e => by rw [e] at hth5; exact blk_types hth5 hrw (by decide)
                    have hdg : wr.heap.size ≠ b.g := fun e => by rw [e] at hbx5; exact blk_types hbx5 hrw (by decide)
                    have hS7 : (w5.setCell ⟨b.g, j, none⟩ (.int .i64 (y.r : Int))).cell? ⟨b.p, 1, none⟩ = some (.slice (some ⟨b.g, 0, none⟩) x.k x.k) ∧ (w5.setCell ⟨b.g, j, none⟩ (.int .i64 (y.r : Int))).cell? ⟨wr.heap.size, 2, none⟩ = some (.int .i64 (j : Int)) := ⟨cell_setBlock f1 hpg, cell_setBlock g2 hdg⟩
                    clear cS hA5 hT5 hS0 hS5 hxc hyc e1 e2 d0 d1 d2 d3 hrw hth5 hbx5 hpg hdg
                    go_wp2_with fail
                    go_region_held3 (fun w' => w'.cell? ⟨b.p, 1, none⟩ = some (.slice (some ⟨b.g, 0, none⟩) x.k x.k) ∧ w'.cell? ⟨wr.heap.size, 2, none⟩ = some (.int .i64 (j : Int))) (first | exact hS6) (fail)
                    go_wp2_with fail
                    go_region_held3 (fun w' => w'.cell? ⟨b.p, 1, none⟩ = some (.slice (some ⟨b.g, 0, none⟩) x.k x.k) ∧ w'.cell? ⟨wr.heap.size, 2, none⟩ = some (.int .i64 (j : Int))) (first | exact hS6 | exact hS7) (fail)
                    go_wp2_with fail
                    go_roundw
                    case rel => exact ⟨i + 1, _, _, _, bs, hlt, by rw [List.length_set]; have := HLL.out; omega, by go_num, HXE.out, HF.out⟩
                    case measure => simp [intOf]; omega
                · as_aux_lemma =>
                    have cS := ceSetFieldNo h2d.ar HO.out kk (by omega) (y.r : Int)
                    have H2D := Lib.hid h2d
                    have HIN := Lib.hid hin
                    clear h2d hfd hin
                    go_wp2_with fail
                    go_region_held3 (fun w' => w'.cell? ⟨b.p, 0, none⟩ = some (.int .i64 (x.r : Int)) ∧ w'.cell? ⟨wr.heap.size, 2, none⟩ = some (.int .i64 kk)) (first | exact hS0 | exact hS5)
                      (first
                        | (go_at_call 36; refine cS.mono ?_; rintro e w5 ⟨rfl, lo', hA5, hT5⟩; have h5 := H2D.out.step hA5 hT5 H2D.out.ob; have hth5 := (h5.th _ x b HX.out.1 HX.out.2).1; have hbx5 := HBX.out.drew.turn hT5.turn HFD.out; have hS5 : w5.cell? ⟨b.p, 0, none⟩ = some (.int .i64 (x.r : Int)) ∧ w5.cell? ⟨wr.heap.size, 2, none⟩ = some (.int .i64 kk) := ⟨hth5.cell 0, hbx5.cell 2⟩))
                    have f1 := hth5.cell 1
                    have g2 := hbx5.cell 2
                    unfold thingV at f1
                    simp only [List.getElem?_toArray, List.getElem?_cons_succ, List.getElem?_cons_zero] at f1 g2
                    have hF := h5
                    have HXE := Lib.hid (show (X.with lo').a = X.a from rfl)
                    have hS6 : w5.cell? ⟨b.p, 1, none⟩ = some (.slice (some ⟨b.g, 0, none⟩) x.k x.k) ∧ w5.cell? ⟨wr.heap.size, 2, none⟩ = some (.int .i64 kk) := ⟨f1, g2⟩
                    clear cS hA5 hT5 hS0 hS5 hxc hyc e1 e2 d0 d1 d2 d3 hth5 hbx5
                    by_cases hneg : 0 ≤ kk
                    · have hk1 : ¬ kk < (x.k : Int) := fun h => HIN.out ⟨hneg, h⟩
                      have HF := Lib.hid (hF.ask ((Below.refl _ _).drew))
                      clear hF h5
                      go_wp2_with fail
                      go_region_held3 (fun w' => w'.cell? ⟨b.p, 1, none⟩ = some (.slice (some ⟨b.g, 0, none⟩) x.k x.k) ∧ w'.cell? ⟨wr.heap.size, 2, none⟩ = some (.int .i64 kk)) (first | exact hS6) (fail)
                      go_wp2_with fail
                      go_roundw
                      case rel => exact ⟨i + 1, _, _, l, bs, hlt, by have := HLL.out; omega, by go_num, HXE.out, HF.out⟩
                      case measure => simp [intOf]; omega
                    · have hk1 : kk < 0 := by omega
                      have hk2 : decide (0 ≤ kk) = false := decide_eq_false hneg
                      have HF := Lib.hid hF
                      clear hF h5
                      go_wp2_with fail
                      go_quiet (fail)
                      go_wp2_with fail
                      go_roundw
                      case rel => exact ⟨i + 1, _, _, l, bs, hlt, by have := HLL.out; omega, by go_num, HXE.out, HF.out.ask (below_drewN _ _)⟩
                      case measure => simp [intOf]; omega
            · have ht0I : ¬ (0 : Int) < (t3 : Int) := by omega
              rw [if_neg ht0] at hto
              subst hto
              clear ht0
              have hS0 : (wr.alloc (.cells #[.int .i64 kd, .int .i64 id, .int .i64 kk, .int .i64 rd] 81)).cell? ⟨b.p, 0, none⟩ = some (.int .i64 (x.r : Int)) ∧ (wr.alloc (.cells #[.int .i64 kd, .int .i64 id, .int .i64 kk, .int .i64 rd] 81)).cell? ⟨wr.heap.size, 2, none⟩ = some (.int .i64 kk) := ⟨hxc, d2⟩
              have h2d := H2.out.ask (Below.refl _ _).drew
              have hfd := h2d.ar.at_.far HBX.out.drew (by decide) (by decide) (by decide) (by decide)
              have HFD := Lib.hid hfd
              by_cases ha1 : a = 1
              · as_aux_lemma =>
                  subst ha1
                  have hae3 : bits .and .i64 kd 3 = 1 := hae
                  clear hae hae2 hfirst
                  have cS := ceSetScalarOk h2d.ar HO.out kk
                  have hob := h2d.ob.setSc h2d.ar.at_.fits HX.out.1 kk
                  have H2D := Lib.hid h2d
                  have HOB := Lib.hid hob
                  clear h2d hob hfd
                  go_wp2_with fail
                  go_region_held3 (fun w' => w'.cell? ⟨b.p, 0, none⟩ = some (.int .i64 (x.r : Int)) ∧ w'.cell? ⟨wr.heap.size, 2, none⟩ = some (.int .i64 kk)) (first | exact hS0 | exact hS5)
                    (first
                      | (go_at_call 39; refine cS.mono ?_; rintro e w5 ⟨rfl, lo', hA5, hT5⟩; have h5 := H2D.out.step hA5 hT5 HOB.out; have hth5 := (h5.th _ x b HX.out.1 HX.out.2).1; have hbx5 := HBX.out.drew.turn hT5.turn HFD.out; have hS5 : w5.cell? ⟨b.p, 0, none⟩ = some (.int .i64 (x.r : Int)) ∧ w5.cell? ⟨wr.heap.size, 2, none⟩ = some (.int .i64 kk) := ⟨hth5.cell 0, hbx5.cell 2⟩))
                  have f2 := hth5.cell 2
                  have z2 := hth5.free 2
                  have g2 := hbx5.cell 2
                  unfold thingV at f2
                  simp only [List.getElem?_toArray, List.getElem?_cons_succ, List.getElem?_cons_zero] at f2 g2
                  have HF := Lib.hid (h5.storeV HX.out.1 HX.out.2 kk)
                  have HXE := Lib.hid (show (X.with lo').a = X.a from rfl)
                  clear cS hA5 hT5 h5 hth5 hbx5 hS0 hS5 hxc hyc e1 e2 d0 d1 d2 d3
                  go_wp2_with fail
                  go_roundw
                  case rel => exact ⟨i + 1, _, _, _, bs, hlt, by rw [List.length_set]; have := HLL.out; omega, by go_num, HXE.out, HF.out⟩
                  case measure => simp [intOf]; omega
              · have hae3 : (bits .and .i64 kd 3 == 1) = false := by rw [hae]; simp; omega
                clear hae hfirst
                by_cases hin : 0 ≤ kk ∧ kk < (x.k : Int)
                · as_aux_lemma =>
                    obtain ⟨j, hj⟩ : ∃ j : Nat, kk = (j : Int) := ⟨kk.toNat, by omega⟩
                    subst hj
                    have hj1 : (j : Int) < (x.k : Int) := hin.2
                    have hj0 : (0 : Int) ≤ (j : Int) := hin.1
                    have hjk : j < x.k := by omega
                    have cS := ceSetFieldOk h2d.ar HO.out j hjk 0
                    have hob := h2d.ob.setF h2d.ar.at_.fits HX.out.1 hjk 0
                    have H2D := Lib.hid h2d
                    have HOB := Lib.hid hob
                    have HJK := Lib.hid hjk
                    clear h2d hob hfd hin hjk
                    go_wp2_with fail
                    go_region_held3 (fun w' => w'.cell? ⟨b.p, 0, none⟩ = some (.int .i64 (x.r : Int)) ∧ w'.cell? ⟨wr.heap.size, 2, none⟩ = some (.int .i64 (j : Int))) (first | exact hS0 | exact hS5)
                      (first
                        | (go_at_call 36; refine cS.mono ?_; rintro e w5 ⟨rfl, lo', hA5, hT5⟩; have h5 := H2D.out.step hA5 hT5 HOB.out; have hth5 := (h5.th _ x b HX.out.1 HX.out.2).1; have hbx5 := HBX.out.drew.turn hT5.turn HFD.out; have hS5 : w5.cell? ⟨b.p, 0, none⟩ = some (.int .i64 (x.r : Int)) ∧ w5.cell? ⟨wr.heap.size, 2, none⟩ = some (.int .i64 (j : Int)) := ⟨hth5.cell 0, hbx5.cell 2⟩))
                    have f1 := hth5.cell 1
                    have g2 := hbx5.cell 2
                    have hrw := (h5.th _ x b HX.out.1 HX.out.2).2
                    have r0 := hrw.cell j
                    have z0 := hrw.free j
                    rw [row_get _ HJK.out] at r0
                    unfold thingV at f1
                    simp only [List.getElem?_toArray, List.getElem?_cons_succ, List.getElem?_cons_zero] at f1 g2
                    have HF := Lib.hid ((h5.storeF HX.out.1 HX.out.2 HJK.out 0).ask ((Below.refl _ _).drew.drew))
                    have HXE := Lib.hid (show (X.with lo').a = X.a from rfl)
                    have hS6 : w5.cell? ⟨b.p, 1, none⟩ = some (.slice (some ⟨b.g, 0, none⟩) x.k x.k) ∧ w5.cell? ⟨wr.heap.size, 2, none⟩ = some (.int .i64 (j : Int)) := ⟨f1, g2⟩
                    have hpg : b.p ≠ b.g := fun e => by rw [e] at hth5; exact blk_types hth5 hrw (by decide)
                    have hdg : wr.heap.size ≠ b.g := fun e => by rw [e] at hbx5; exact blk_types hbx5 hrw (by decide)
                    have hS7 : (w5.setCell ⟨b.g, j, none⟩ (.int .i64 0)).cell? ⟨b.p, 1, none⟩ = some (.slice (some ⟨b.g, 0, none⟩) x.k x.k) ∧ (w5.setCell ⟨b.g, j, none⟩ (.int .i64 0)).cell? ⟨wr.heap.size, 2, none⟩ = some (.int .i64 (j : Int)) := ⟨cell_setBlock f1 hpg, cell_setBlock g2 hdg⟩
                    clear cS hA5 hT5 hS0 hS5 hxc hyc e1 e2 d0 d1 d2 d3 hrw hth5 hbx5 hpg hdg
                    go_wp2_with fail
                    go_region_held3 (fun w' => w'.cell? ⟨b.p, 1, none⟩ = some (.slice (some ⟨b.g, 0, none⟩) x.k x.k) ∧ w'.cell? ⟨wr.heap.size, 2, none⟩ = some (.int .i64 (j : Int))) (first | exact hS6) (fail)
                    go_wp2_with fail
                    go_region_held3 (fun w' => w'.cell? ⟨b.p, 1, none⟩ = some (.slice (some ⟨b.g, 0, none⟩) x.k x.k) ∧ w'.cell? ⟨wr.heap.size, 2, none⟩ = some (.int .i64 (j : Int))) (first | exact hS6 | exact hS7) (fail)
                    go_wp2_with fail
                    go_roundw
                    case rel => exact ⟨i + 1, _, _, _, bs, hlt, by rw [List.length_set]; have := HLL.out; omega, by go_num, HXE.out, HF.out⟩
                    case measure => simp [intOf]; omega
                · as_aux_lemma =>
                    have cS := ceSetFieldNo h2d.ar HO.out kk (by omega) 0
                    have H2D := Lib.hid h2d
                    have HIN := Lib.hid hin
                    clear h2d hfd hin
                    go_wp2_with fail
                    go_region_held3 (fun w' => w'.cell? ⟨b.p, 0, none⟩ = some (.int .i64 (x.r : Int)) ∧ w'.cell? ⟨wr.heap.size, 2, none⟩ = some (.int .i64 kk)) (first | exact hS0 | exact hS5)
                      (first
                        | (go_at_call 36; refine cS.mono ?_; rintro e w5 ⟨rfl, lo', hA5, hT5⟩; have h5 := H2D.out.step hA5 hT5 H2D.out.ob; have hth5 := (h5.th _ x b HX.out.1 HX.out.2).1; have hbx5 := HBX.out.drew.turn hT5.turn HFD.out; have hS5 : w5.cell? ⟨b.p, 0, none⟩ = some (.int .i64 (x.r : Int)) ∧ w5.cell? ⟨wr.heap.size, 2, none⟩ = some (.int .i64 kk) := ⟨hth5.cell 0, hbx5.cell 2⟩))
                    have f1 := hth5.cell 1
                    have g2 := hbx5.cell 2
                    unfold thingV at f1
                    simp only [List.getElem?_toArray, List.getElem?_cons_succ, List.getElem?_cons_zero] at f1 g2
                    have hF := h5
                    have HXE := Lib.hid (show (X.with lo').a = X.a from rfl)
                    have hS6 : w5.cell? ⟨b.p, 1, none⟩ = some (.slice (some ⟨b.g, 0, none⟩) x.k x.k) ∧ w5.cell? ⟨wr.heap.size, 2, none⟩ = some (.int .i64 kk) := ⟨f1, g2⟩
                    clear cS hA5 hT5 hS0 hS5 hxc hyc e1 e2 d0 d1 d2 d3 hth5 hbx5
                    by_cases hneg : 0 ≤ kk
                    · have hk1 : ¬ kk < (x.k : Int) := fun h => HIN.out ⟨hneg, h⟩
                      have HF := Lib.hid (hF.ask ((Below.refl _ _).drew))
                      clear hF h5
                      go_wp2_with fail
                      go_region_held3 (fun w' => w'.cell? ⟨b.p, 1, none⟩ = some (.slice (some ⟨b.g, 0, none⟩) x.k x.k) ∧ w'.cell? ⟨wr.heap.size, 2, none⟩ = some (.int .i64 kk)) (first | exact hS6) (fail)
                      go_wp2_with fail
                      go_roundw
                      case rel => exact ⟨i + 1, _, _, l, bs, hlt, by have := HLL.out; omega, by go_num, HXE.out, HF.out⟩
                      case measure => simp [intOf]; omega
                    · have hk1 : kk < 0 := by omega
                      have hk2 : decide (0 ≤ kk) = false := decide_eq_false hneg
                      have HF := Lib.hid hF
                      clear hF h5
                      go_wp2_with fail
                      go_quiet (fail)
                      go_wp2_with fail
                      go_roundw
                      case rel => exact ⟨i + 1, _, _, l, bs, hlt, by have := HLL.out; omega, by go_num, HXE.out, HF.out.ask (below_drewN _ _)⟩
                      case measure => simp [intOf]; omega
    · have hi1 : ¬ (i : Int) < (len : Int) := by omega
      have hll3 : l.length ≤ 80 := by omega
      clear hlt hi hi0
      go_wp2_with fail
      go_ret2
      exact ⟨X, s, l, bs, _, rfl, rfl, h1, hll3⟩
end Go.Proofs.YtoemfehlnnbjdaaDoor
