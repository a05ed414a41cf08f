import Derived.Shelf.Strings.BuilderRune
import Derived.Shelf.Small.Strs
import Derived.Ground.NamesProg
import Derived.Test.YtblnoekogdpolaaDoorProg
import Derived.Test.YtblnoekogdpolaaDoorJGo
import Derived.Test.YtblnoekogdpolaaDoorXNum
import Derived.Deep.QuietTactic
import Derived.BigQuiet
import Derived.WalkLawsBesides
import Derived.WalkSpells
namespace Go.Proofs.YtblnoekogdpolaaDoor
open Go.Shelf
def lays137_ren : Go.Shelf.Ren := ⟨fun | 137 => 101 | 217 => 116 | 266 => 132 | n => n, fun | 9 => 9 | 5 => 5 | 3 => 3 | n => n, fun | n => n⟩
theorem lays137 : Go.Proofs.Lays.n137 Tryd.prog lays137_ren := {
  mixed := by kernel_rfl
  f137 := Tryd.func101.trans (congrArg some (by kernel_rfl))
  f217 := Tryd.func116.trans (congrArg some (by kernel_rfl))
  f266 := Tryd.func132.trans (congrArg some (by kernel_rfl))
  t3 := Tryd.underlying3
  a3 := Tryd.isAgg3
  z3 := Tryd.sizeOf3
  v3 := Tryd.zeroValue3
  t5 := Tryd.underlying5
  a5 := Tryd.isAgg5
  z5 := Tryd.sizeOf5
  v5 := Tryd.zeroValue5
  t9 := Tryd.underlying9
  a9 := Tryd.isAgg9
  z9 := Tryd.sizeOf9
  v9 := Tryd.zeroValue9 }
end Go.Proofs.YtblnoekogdpolaaDoor
namespace Go.Proofs.YtblnoekogdpolaaDoor
open Go.RowKit Go.WideShapes Go.Joins
structure RIn (w : World) (b : Nat) (σ : RS) : Prop where
  ok : σ.ok
  sz : σ.s.size ≤ 16384
  blk : w.heap[b]? = some (.cells #[.string σ.s, .int .i64 (σ.i : Int), .int .i64 (σ.e : Int)] 59 (0, 0))
def rp (b : Nat) : Value := .pointer (some ⟨b, 0, none⟩)
theorem RIn.c0 {w : World} {b : Nat} {σ : RS} (h : RIn w b σ) : w.cell? ⟨b, 0, none⟩ = some (.string σ.s) := by rw [cell_of_block h.blk]; rfl
theorem RIn.c1 {w : World} {b : Nat} {σ : RS} (h : RIn w b σ) : w.cell? ⟨b, 1, none⟩ = some (.int .i64 (σ.i : Int)) := by rw [cell_of_block h.blk]; rfl
theorem RIn.c2 {w : World} {b : Nat} {σ : RS} (h : RIn w b σ) : w.cell? ⟨b, 2, none⟩ = some (.int .i64 (σ.e : Int)) := by rw [cell_of_block h.blk]; rfl
theorem RIn.fz {w : World} {b : Nat} {σ : RS} (h : RIn w b σ) (i : Nat) : w.frozen? ⟨b, i, none⟩ = false := unfrozen_of_block h.blk i
theorem RIn.lt {w : World} {b : Nat} {σ : RS} (h : RIn w b σ) : b < w.heap.size := World.block_lt_of_cell? _ _ h.c0
theorem RIn.le {w : World} {b : Nat} {σ : RS} (h : RIn w b σ) : σ.i ≤ σ.s.size := by
  have := h.ok
  cases σ with
  | live s i => exact this
  | dead s e => exact Nat.le_refl _
theorem RIn.at {w w' : World} {b : Nat} {σ : RS} (h : RIn w b σ) (hb : w'.heap[b]? = w.heap[b]?) : RIn w' b σ := ⟨h.ok, h.sz, hb.trans h.blk⟩
theorem RIn.keep {w w' : World} {b B : Nat} {σ : RS} (h : RIn w b σ) (hb : Below B w w') (hB : b < B) : RIn w' b σ := h.at (hb.block b hB)
theorem RIn.below {w w' : World} {b : Nat} {σ : RS} (h : RIn w b σ) (hb : Below w.heap.size w w') : RIn w' b σ := h.keep hb h.lt
theorem grown_set (w : World) (g i : Nat) (v : Value) : w.grownBy (w.setCell ⟨g, i, none⟩ v) (some g) :=
  ⟨rfl, rfl, rfl, by simp, fun k _ hn => Below.heap_setCell w ⟨g, i, none⟩ v k (fun e => hn (by rw [e]))⟩
theorem grown_trans {a b c : World} {r : Option Nat} (h1 : a.grownBy b r) (h2 : b.grownBy c r) : a.grownBy c r :=
  ⟨h2.os.trans h1.os, h2.tape.trans h1.tape, h2.output.trans h1.output, Nat.le_trans h1.size h2.size, fun k hk hn => (h2.block k (Nat.lt_of_lt_of_le hk h1.size) hn).trans (h1.block k hk hn)⟩
theorem grown_below {a b : World} (h : Below a.heap.size a b) (r : Option Nat) : a.grownBy b r := ⟨h.os, h.tape, h.output, h.size, fun k hk _ => h.block k hk⟩
theorem grown_refl (a : World) (r : Option Nat) : a.grownBy a r := ⟨rfl, rfl, rfl, Nat.le_refl _, fun _ _ _ => rfl⟩
theorem RIn.step {w : World} {b : Nat} {s : ByteArray} {i : Nat} (h : RIn w b (.live s i)) (hi : i < s.size) : RIn (w.setCell ⟨b, 1, none⟩ (.int .i64 ((i : Int) + 1))) b (.live s (i + 1)) := by
  refine ⟨show i + 1 ≤ s.size by omega, h.sz, ?_⟩
  rw [block_setCell h.blk]
  simp [RS.i, RS.s, RS.e]
def RS.refuse (k : Nat) : RS → RS
  | .live s i => .dead (cutS s i) k
  | .dead s e => .dead s e
theorem extract_cut (s : ByteArray) (i : Nat) : s.extract 0 i = cutS s i := by
  apply numsOf_inj
  rw [cutS_nums]
  unfold numsOf
  rw [← List.map_take]
  congr 1
  simp [ByteArray.data_extract, Array.toList_extract]
theorem str_at (s : ByteArray) (k : Nat) (h : k < s.size) (w : World) : (Instr.index 9 (.string s) (.int .i64 (k : Int))).run Tryd.prog w = .ok (.int .u8 ((numsOf s).getD k 0 : Nat)) w := by
  rw [run_index_string w 9 s .i64 k Tryd.underlying9, dif_pos ⟨by omega, by omega⟩]
  have h2 : k < (numsOf s).length := by rw [numsOf_len]; exact h
  rw [List.getD_eq_getElem?_getD, List.getElem?_eq_getElem h2]
  simp [numsOf, ByteArray.getElem_eq_getElem_data]
theorem below_dN {B : Nat} {a w : World} (h : Below B a w) (n : Nat) : Below B a (w.drewN n) := ⟨h.os, h.tape, h.output, h.size, h.block⟩
theorem refuse_any (b : Nat) (σ : RS) (k : Nat) (hk : k ≠ 0 ∧ k < 65536) (w : World) (h : RIn w b σ) : Calls Tryd.prog 62 #[rp b, .int .i64 (k : Int)] w fun e w' => e = .returned (.tuple #[]) ∧ RIn w' b (σ.refuse k) ∧ w.grownBy w' (some b) := by
  have c2 := h.c2
  cases σ with
  | dead s e =>
    simp only [RS.e, RS.refuse] at c2 ⊢
    have he : ((e : Int) == 0) = false := by
      have := h.ok.1
      simpa using fun x : (e : Int) = 0 => this (by omega)
    have HH : Hid (RIn w b (.dead s e)) := h
    clear h
    unfold rp
    go_enter Tryd.func62, Tryd.ntmps62
    go_wp2
    go_end0
    exact ⟨rfl, HH.out, grown_refl _ _⟩
  | live s i =>
    simp only [RS.e, RS.refuse] at c2 ⊢
    have hb := h.blk
    simp only [RS.i, RS.s, RS.e] at hb
    have hle := h.le
    simp only [RS.i, RS.s] at hle
    have hsz := h.sz
    simp only [RS.s] at hsz
    have f2 := h.fz 2
    have hb1 : (w.setCell ⟨b, 2, none⟩ (.int .i64 (k : Int))).heap[b]? = some (.cells #[.string s, .int .i64 (i : Int), .int .i64 (k : Int)] 59 (0, 0)) := by rw [block_setCell hb]; rfl
    have g1 := grown_set w b 2 (.int .i64 (k : Int))
    have HB : Hid _ := hb1
    have HG : Hid (w.grownBy (w.setCell ⟨b, 2, none⟩ (.int .i64 (k : Int))) (some b)) := g1
    clear h hb g1
    have hcut := extract_cut s i
    unfold rp
    go_enter Tryd.func62, Tryd.ntmps62
    go_wp2
    generalize w.setCell ⟨b, 2, none⟩ (.int .i64 (k : Int)) = w1 at *
    have c0 : w1.cell? ⟨b, 0, none⟩ = some (.string s) := by rw [cell_of_block hb1]; rfl
    have c1 : w1.cell? ⟨b, 1, none⟩ = some (.int .i64 (i : Int)) := by rw [cell_of_block hb1]; rfl
    have f0 := unfrozen_of_block hb1 0
    clear hb1 c2 f2
    have hiI : (i : Int) ≤ (s.size : Int) := by omega
    go_region
    go_end0
    have hb2 : ((w1.setCell ⟨b, 0, none⟩ (.string (cutS s i))).drew).heap[b]? = some (.cells #[.string (cutS s i), .int .i64 (i : Int), .int .i64 (k : Int)] 59 (0, 0)) := by
      show (w1.setCell ⟨b, 0, none⟩ (.string (cutS s i))).heap[b]? = _
      rw [block_setCell HB.out]; rfl
    have hcs := cutS_size s hle
    refine ⟨rfl, ⟨hk, ?_, ?_⟩, grown_trans HG.out ?_⟩
    · simp only [RS.s]; omega
    · rw [hb2]; simp only [RS.s, RS.i, RS.e, hcs]
    · exact grown_trans (grown_set w1 b 0 _) ⟨rfl, rfl, rfl, Nat.le_refl _, fun _ _ _ => rfl⟩
theorem idx_has (l : List UInt8) (c : UInt8) : 0 ≤ Lib.indexByte l c ↔ c ∈ l := by
  induction l with
  | nil => simp [Lib.indexByte]
  | cons x r ih =>
    simp only [Lib.indexByte, List.mem_cons]
    by_cases h : x = c
    · simp [h]
    · have hx : (x == c) = false := by simpa using h
      have hg := Lib.indexByte_ge r c
      simp only [hx, Bool.false_eq_true, if_false]
      have : ¬ c = x := fun e => h e.symm
      simp only [this, false_or, ← ih]
      by_cases h1 : Lib.indexByte r c = -1
      · simp [h1]
      · have h2 : (Lib.indexByte r c == -1) = false := by simpa using h1
        simp only [h2, Bool.false_eq_true, if_false]
        omega
def RS.has (σ : RS) (t : ByteArray) : Bool := decide (σ.i < σ.s.size ∧ (numsOf σ.s).getD σ.i 0 ∈ numsOf t)
def RS.next : RS → RS
  | .live s i => .live s (i + 1)
  | .dead s e => .dead s e
def RS.skip (σ : RS) (t : ByteArray) : RS := if σ.has t then σ.next else σ
theorem has_iff (s : ByteArray) (i : Nat) (t : ByteArray) : (RS.live s i).has t = true ↔ (i < s.size ∧ (numsOf s).getD i 0 ∈ numsOf t) := by simp [RS.has, RS.i, RS.s]
theorem has_dead (s : ByteArray) (e : Nat) (t : ByteArray) : (RS.dead s e).has t = false := by simp [RS.has, RS.i, RS.s]
theorem skip_any (b : Nat) (σ : RS) (t : ByteArray) (w : World) (h : RIn w b σ) : Calls Tryd.prog 82 #[rp b, .string t] w fun e w' => e = .returned (.bool (σ.has t)) ∧ RIn w' b (σ.skip t) ∧ w.grownBy w' (some b) := by
  have c0 := h.c0
  have c1 := h.c1
  have f1 := h.fz 1
  have hle := h.le
  have HR : Hid (RIn w b σ) := h
  by_cases hlt : σ.i < σ.s.size
  · -- a byte stands there: so the reader is under way
    cases σ with
    | dead s e => exact absurd hlt (Nat.lt_irrefl _)
    | live s i =>
      simp only [RS.i, RS.s] at c0 c1 hle hlt
      have hhas := has_iff s i t
      have hx := fun w' => str_at s i hlt w'
      obtain ⟨k, hk⟩ : ∃ k, (numsOf s).getD i 0 = k := ⟨_, rfl⟩
      have hk256 : k < 256 := by
        rw [← hk]
        refine numsOf_lt s _ ?_
        rw [List.getD_eq_getElem?_getD, List.getElem?_eq_getElem (by rw [numsOf_len]; exact hlt)]
        exact List.getElem_mem _
      rw [hk] at hx hhas
      have HC := fun w' => Any.strings_IndexByte lays137 t (k : Int) w'
      have hid : 0 ≤ Lib.indexByte t.data.toList ((k : Int).toNat.toUInt8) ↔ k ∈ numsOf t := by
        rw [idx_has]
        unfold numsOf
        rw [List.mem_map]
        constructor
        · intro hm
          refine ⟨_, hm, ?_⟩
          simp [Nat.mod_eq_of_lt hk256]
        · rintro ⟨c, hc, rfl⟩
          simpa using hc
      generalize Lib.indexByte t.data.toList ((k : Int).toNat.toUInt8) = X at HC hid
      have hd : decide ((i : Int) < (s.size : Int)) = true := decide_eq_true (by omega)
      have hdn : decide (i < s.size) = true := decide_eq_true hlt
      have HK : Hid ((numsOf s).getD i 0 = k ∧ i < s.size ∧ i ≤ s.size ∧ k < 256) := ⟨hk, hlt, hle, hk256⟩
      have HX : Hid (0 ≤ X ↔ k ∈ numsOf t) := hid
      have HS : Hid (RS.has (.live s i) t = true ↔ (i < s.size ∧ k ∈ numsOf t)) := hhas
      clear hk hlt hle hk256 hid hhas h
      unfold rp
      go_enter Tryd.func82, Tryd.ntmps82
      go_wp2
      go_quiet ((go_at_call 101; exact Calls.quiet_of_same (HC _)))
      have B1 : Below w.heap.size w (w.drewN nq) := below_dN (Below.refl _ _) _
      have d1 : (w.drewN nq).cell? ⟨b, 1, none⟩ = some (.int .i64 (i : Int)) := c1
      have g1 : (w.drewN nq).frozen? ⟨b, 1, none⟩ = false := f1
      have HW : Hid (RIn (w.drewN nq) b (.live s i)) := HR.out.below B1
      have HB : Hid (Below w.heap.size w (w.drewN nq)) := B1
      generalize w.drewN nq = w2 at *
      clear c0 c1 f1 B1 HC hx
      by_cases h0 : 0 ≤ X
      · have hs : (RS.live s i).has t = true := HS.out.2 ⟨HK.out.2.1, HX.out.1 h0⟩
        have he : (RS.live s i).skip t = .live s (i + 1) := by unfold RS.skip; rw [hs, if_pos rfl]; rfl
        have HE : Hid _ := he
        have HT : Hid ((RS.live s i).has t = true) := hs
        clear he hs
        obtain ⟨I, hI⟩ : ∃ I : Int, (i : Int) = I := ⟨_, rfl⟩
        have hi0 : 0 ≤ I := by omega
        have hi1 : I < 1000000 := by have := HW.out.sz; simp only [RS.s] at this; have := HK.out.2.1; omega
        rw [hI] at d1
        have HI : Hid ((i : Int) = I) := hI
        clear hI
        go_wp2
        go_ret
        rw [HE.out, HT.out, ← HI.out]
        exact ⟨by simp [h0], HW.out.step HK.out.2.1, grown_trans (grown_below HB.out _) (grown_set _ _ _ _)⟩
      · have hXn : X < 0 := by omega
        have hs : (RS.live s i).has t = false := by
          cases hh : (RS.live s i).has t with
          | false => rfl
          | true => exact absurd (HX.out.2 (HS.out.1 hh).2) h0
        have he : (RS.live s i).skip t = .live s i := by unfold RS.skip; rw [hs, if_neg (by decide)]
        have HE : Hid _ := he
        have HT : Hid ((RS.live s i).has t = false) := hs
        clear he hs
        go_wp2
        go_ret
        rw [HE.out, HT.out]
        exact ⟨by simp [h0], HW.out, grown_below HB.out _⟩
  · have hs : σ.has t = false := by
      unfold RS.has
      exact decide_eq_false fun e => hlt e.1
    unfold RS.skip
    rw [hs, if_neg (by decide)]
    generalize σ.s = s at c0 hle hlt
    generalize σ.i = i at c1 hle hlt
    have hd : decide ((i : Int) < (s.size : Int)) = false := decide_eq_false (by omega)
    have hdn : decide (i < s.size) = false := decide_eq_false hlt
    clear h hlt hle
    unfold rp
    go_enter Tryd.func82, Tryd.ntmps82
    go_wp2
    go_quiet (fail)
    have B1 : Below w.heap.size w (w.drewN nq) := below_dN (Below.refl _ _) _
    have HB : Hid (Below w.heap.size w (w.drewN nq)) := B1
    generalize w.drewN nq = w2 at *
    clear c0 c1 f1 B1
    go_wp2
    go_ret
    exact ⟨rfl, HR.out.below HB.out, grown_below HB.out _⟩
def RS.must (σ : RS) (t : ByteArray) : RS := if σ.has t then σ.next else σ.refuse 160
theorem must_any (b : Nat) (σ : RS) (t : ByteArray) (w : World) (h : RIn w b σ) : Calls Tryd.prog 57 #[rp b, .string t] w fun e w' => e = .returned (.bool (σ.has t)) ∧ RIn w' b (σ.must t) ∧ w.grownBy w' (some b) := by
  have S := skip_any b σ t w h
  have HP := fun w' (hw : RIn w' b σ) => refuse_any b σ 160 ⟨by decide, by decide⟩ w' hw
  unfold RS.must
  unfold RS.skip at S
  cases hh : σ.has t with
  | true =>
    rw [hh, if_pos rfl] at S
    rw [if_pos rfl]
    clear h
    unfold rp at S ⊢
    go_enter Tryd.func57, Tryd.ntmps57
    go_wp2_with (go_at_call 82; refine S.mono ?_; rintro e w1 ⟨rfl, h1, g1⟩)
    go_ret
    exact ⟨rfl, h1, g1⟩
  | false =>
    rw [hh, if_neg (by decide)] at S
    rw [if_neg (by decide)]
    clear h
    unfold rp at S HP ⊢
    go_enter Tryd.func57, Tryd.ntmps57
    go_wp2_with (first | (go_at_call 82; refine S.mono ?_; rintro e w1 ⟨rfl, h1, g1⟩) | (go_at_call 62; refine (HP _ h1).mono ?_; rintro e w2 ⟨rfl, h2, g2⟩) | fail)
    go_ret
    exact ⟨rfl, h2, grown_trans g1 g2⟩
end Go.Proofs.YtblnoekogdpolaaDoor
