import Derived.Test.YtghcmllmbpoidaaGreatDoorJ37
import Derived.Test.YtghcmllmbpoidaaGreatDoorJ36
import Derived.Test.YtghcmllmbpoidaaGreatDoorJ05
import Derived.Test.YtghcmllmbpoidaaGreatDoorJ26
import Derived.Test.YtghcmllmbpoidaaGreatDoorJ19
import Derived.Test.YtghcmllmbpoidaaGreatDoorJ20
import Derived.Test.YtghcmllmbpoidaaGreatDoorJ29
import Derived.Test.YtghcmllmbpoidaaGreatDoorJ27
import Derived.Test.YtghcmllmbpoidaaGreatDoorJ24
namespace Go.Proofs.YtghcmllmbpoidaaGreatDoor
open Go.RowKit Go.WideShapes
theorem ents_none (w : World) (q : Option Addr) : Mg.EntsL w q 0 [] := ⟨rfl, fun h => absurd h (by simp)⟩
set_option maxHeartbeats 2000000 in
theorem leaves_none (B : Nat) (C R S : Int) (p1 p2 p3 p4 q : Option Addr) (n1 n2 n3 n4 c1 c2 c3 c4 c : Nat) (w : World) (hB : w.heap[B]? = some (.cells #[.int .i64 C, .slice p1 n1 c1, .slice p2 n2 c2, .slice p3 n3 c3, .int .i64 R, .slice p4 n4 c4, .slice none 0 0, .int .i64 S] 60 (0, 0))) :
    Calls Tryz.prog 46 #[.pointer (some ⟨B, 0, none⟩), .slice q 0 c] w fun e w' => e = .returned .nilIface ∧ Below w.heap.size w w' := by
  have c6 : w.cell? ⟨B, 6, none⟩ = some (.slice none 0 0) := Lib.cell_of_heap hB 6
  have HC : Hid (∀ w', Below w.heap.size w w' → w'.cell? ⟨B, 6, none⟩ = some (.slice none 0 0)) := fun w' hb => (hb.cell (World.block_lt_of_cell? _ _ c6)).trans c6
  have hr := rise_any none 0 0 [] w (ents_none w none) List.Pairwise.nil (by omega)
  clear hB
  go_enter Tryz.func46, Tryz.ntmps46
  go_wp2
  refine wp_loop_rounds 1 ?_
  rw [rounds_succ]
  go_wp2_with fail
  refine hr.mono ?_
  rintro e w2 ⟨rfl, hb2⟩
  have HB2 : Hid (Below w.heap.size w w2) := hb2
  have d6 := HC.out w2 hb2
  clear hb2 hr c6
  go_wp2
  refine wp_loop_rounds 1 ?_
  rw [rounds_succ]
  go_wp2
  go_ret
  exact ⟨rfl, HB2.out⟩
noncomputable def rowsK (ls : List (List Tr.CV)) (i : Nat) : List (List Mg.EntV) := (List.range i).map fun j => rowC (ls.getD j []) ((j + 1 : Nat) : Int)
theorem rowsK_zero (ls : List (List Tr.CV)) : rowsK ls 0 = [] := rfl
theorem rowsK_snoc (ls : List (List Tr.CV)) (i : Nat) : rowsK ls (i + 1) = rowsK ls i ++ [rowC (ls.getD i []) ((i + 1 : Nat) : Int)] := by
  unfold rowsK; rw [List.range_succ, List.map_append]; rfl
structure OnRs (w : World) (ls : List (List Tr.CV)) (i : Nat) (v : Value) (R : List Mg.RV) (wr : World) : Prop where
  own : wr.ownsRow w.heap.size 58 1 v R.length (R.map Mg.rvV)
  each : ∀ r ∈ R, Mg.EOwn wr w.heap.size (Mg.rvV r) r.l
  ls : R.map Mg.RV.l = rowsK ls i
  bel : Below w.heap.size w wr
theorem OnRs.next {w wr w' : World} {ls : List (List Tr.CV)} {i : Nat} {v : Value} {R : List Mg.RV} (h : OnRs w ls i v R wr) (hb : Below wr.heap.size wr w') : OnRs w ls i v R w' := ⟨own_below h.own hb, fun r hr => (h.each r hr).below hb, h.ls, below_bt h.bel hb⟩
theorem OnRs.len {w wr : World} {ls : List (List Tr.CV)} {i : Nat} {v : Value} {R : List Mg.RV} (h : OnRs w ls i v R wr) : R.length = i := by
  have := congrArg List.length h.ls
  simpa [rowsK] using this
theorem OnRs.rows {w wr : World} {ls : List (List Tr.CV)} {i : Nat} {q : Option Addr} {n c : Nat} {R : List Mg.RV} (h : OnRs w ls i (.slice q n c) R wr) : Mg.RowsL wr q R.length R := ⟨rfl, Mg.rows_own h.own, fun r hr => (h.each r hr).rowOk⟩
theorem OnRs.app {w wr w' : World} {ls : List (List Tr.CV)} {i : Nat} {v v' : Value} {R : List Mg.RV} {r : Mg.RV} (h : OnRs w ls i v R wr) (hr : Mg.EOwn wr w.heap.size (Mg.rvV r) r.l) (hl : r.l = rowC (ls.getD i []) ((i + 1 : Nat) : Int)) (ho : w'.ownsRow w.heap.size 58 1 v' (R ++ [r]).length ((R ++ [r]).map Mg.rvV)) (hg : wr.grownBy w' v.ownBlock) : OnRs w ls (i + 1) v' (R ++ [r]) w' := by
  refine ⟨ho, fun x hx => ?_, ?_, h.bel.grown hg h.bel.size (fun k hk => (World.ownsRow.lt h.own k hk).1)⟩
  · rcases List.mem_append.1 hx with hx | hx
    · exact (h.each x hx).grownR h.own hg
    · simp only [List.mem_singleton] at hx
      subst hx
      exact hr.grownR h.own hg
  · rw [List.map_append, h.ls, rowsK_snoc, ← hl]; rfl
theorem onrs_nil (w : World) (ls : List (List Tr.CV)) : OnRs w ls 0 (.slice none 0 0) [] w := ⟨World.ownsRow_nil _ _ _ _, fun r hr => (by cases hr), rfl, Below.refl _ _⟩
structure KeptB (B : Nat) (w w' : World) : Prop where
  os : w'.os = w.os
  tape : w'.tape = w.tape
  output : w'.output = w.output
  size : w.heap.size ≤ w'.heap.size
  oth : ∀ k, k < w.heap.size → k ≠ B → w'.heap[k]? = w.heap[k]?
theorem keptB_below {B : Nat} {w w' : World} (h : Below w.heap.size w w') : KeptB B w w' := ⟨h.os, h.tape, h.output, h.size, fun k hk _ => h.block k hk⟩
theorem KeptB.trans {B : Nat} {a b c : World} (h : KeptB B a b) (k : KeptB B b c) : KeptB B a c := ⟨k.os.trans h.os, k.tape.trans h.tape, k.output.trans h.output, Nat.le_trans h.size k.size, fun i hi hz => (k.oth i (Nat.lt_of_lt_of_le hi h.size) hz).trans (h.oth i hi hz)⟩
theorem keptB_set (w : World) (B i : Nat) (v : Value) : KeptB B w (w.setCell ⟨B, i, none⟩ v) := by
  have h0 : Below B w (w.setCell ⟨B, i, none⟩ v) := (Below.refl B w).setCell (p := ⟨B, i, none⟩) (Nat.le_refl B) v
  exact ⟨h0.os, h0.tape, h0.output, h0.size, fun k _ hz => heap_setCell_other w ⟨B, i, none⟩ k v hz⟩
theorem KeptB.bel {B base : Nat} {w w' : World} (h : KeptB B w w') (hB : base ≤ B) (hw : base ≤ w.heap.size) : Below base w w' := ⟨h.os, h.tape, h.output, h.size, fun k hk => h.oth k (by omega) (by omega)⟩
theorem KeptB.below {B : Nat} {w wr w' : World} (h : KeptB B w wr) (hb : Below wr.heap.size wr w') : KeptB B w w' := h.trans (keptB_below hb)
theorem slot_like {D D' : List Nat} {a : Nat} (ha : a + 8 ≤ 16) (h : ∀ i : Nat, i < 16 → nowN D' [] (i : Int) = nowN D [] (i : Int)) : slotK D' [] a 8 = slotK D [] a 8 := by
  unfold slotK
  exact flat_congr fun i hi => h (a + i) (by omega)
theorem mount_like {n : Int} {D D' : List Nat} {r : Option (DirV × Int)} (hok : Okay n D' []) (h : ∀ i : Nat, i < 16 → nowN D' [] (i : Int) = nowN D [] (i : Int)) (hm : MountIs n D [] r 0) : MountIs n D' [] r 0 := by
  rcases hm with ⟨_, _, h0⟩ | ⟨_, _, _, h0⟩ | ⟨_, h96, a, b, h1, h2, h3, h4⟩
  · exact absurd h0 (by decide)
  · exact absurd h0 (by decide)
  · refine .inr (.inr ⟨hok, h96, a, b, ?_, ?_, h3, h4⟩)
    · rw [slot_like (by omega) h]; exact h1
    · rw [slot_like (by omega) h]; exact h2
theorem zeros_flat (k m : Nat) : (List.range k).flatMap (fun _ => List.replicate m (0 : Nat)) = List.replicate (k * m) 0 := by
  induction k with
  | zero => simp
  | succ k ih => rw [List.range_succ, List.flatMap_append, ih, List.flatMap_singleton, List.replicate_append_replicate, Nat.succ_mul]
theorem zeros_log : (List.range 64).flatMap (fun _ => List.replicate 128 (0 : Nat)) = List.replicate 8192 0 := zeros_flat 64 128
theorem num_zero (n k : Nat) : Lg.numAt (List.replicate n 0) k = 0 := by
  have h : ∀ j, (List.replicate n 0).getD j 0 = 0 := fun j => by
    simp only [List.getD, List.getElem?_replicate]
    split <;> rfl
  unfold Lg.numAt
  rw [h, h, h, h]
  rfl
theorem epoch_zero (n : Nat) : Lg.epochN (List.replicate n 0) = 0 := by
  have h : ∀ j, (List.replicate n 0).getD j 0 = 0 := fun j => by
    simp only [List.getD, List.getElem?_replicate]
    split <;> rfl
  unfold Lg.epochN
  simp only [h]
  split <;> rfl
theorem mostE_zeros (n k : Nat) : Lg.mostE (List.replicate n 0) k = 0 := by
  induction k with
  | zero => exact epoch_zero n
  | succ k ih => show max _ _ = 0; rw [ih, num_zero]; rfl
theorem mostS_zeros {e : Nat} (n k : Nat) : Lg.mostS e (List.replicate n 0) k = 0 := by
  induction k with
  | zero => rfl
  | succ k ih => show (if _ then max _ (max _ _) else _) = 0; rw [ih, num_zero, num_zero, num_zero]; split <;> rfl
theorem fmt_log {n : Nat} {D : List Nat} (h1 : 96 ≤ n) (h2 : n ≤ 4096) (h : FmtIs n D) : Lg.logN D [] = List.replicate 8192 0 := by
  rw [← zeros_log]
  unfold Lg.logN Lg.logK
  refine flat_congr fun i hi => ?_
  rw [← zero_now (n := n) (16 + i) (by omega)]
  refine now_keep (by omega) (zeros_okay h1 h2) h fun X hX => ?_
  rcases turnA_mem hX with h | ⟨j, hj, e1, _⟩
  · cases h
  · omega
theorem mostE_zero : Lg.mostE (List.replicate 8192 0) 63 + 1 = 1 := by rw [mostE_zeros]
theorem drop_zero : (List.replicate 8192 0).drop 128 = List.replicate 8064 0 := by rw [List.drop_replicate]
structure Dk (n : Int) (D : List Nat) (rs : List (List Nat)) (A la : Nat) (t : List Nat) : Prop where
  has : Lg.HasLog n D []
  mount : MountIs n D [] (some (emptyD, 0)) 0
  epoch : Lg.epochN (Lg.logN D []) = 1
  recs : Lg.Recs 1 0 ((Lg.logN D []).drop 128) rs A la t
theorem dk_first {n : Nat} {D : List Nat} (h1 : 96 ≤ n) (h2 : n ≤ 4096) (h : FmtIs n D) : Dk (n : Int) (settleN D [(16, Lg.headL 1)]) [] 0 0 (List.replicate 8064 0) := by
  have hl : Lg.HasLog (n : Int) D [] := ⟨fmt_okay h1 h2 h, by omega⟩
  have hlog := fmt_log h1 h2 h
  obtain ⟨e1, e2, _, _⟩ := Lg.recs_cleared (M := 1) hl (by simp) (by rw [hlog]; exact mostE_zero) (by omega)
  have hc := Lg.has_clear (M := 1) hl (by simp)
  rw [hlog, drop_zero] at e2
  have hok : Okay (n : Int) D ([] ++ [(16, Lg.headL 1)]) := by
    refine ⟨hl.ok.lo, hl.ok.hi, hl.ok.len, by simp, fun y hy => ?_⟩
    simp only [List.nil_append, List.mem_singleton] at hy
    subst hy
    exact ⟨by show (0 : Int) ≤ 16; omega, by show (16 : Int) < n; omega, Lg.headL_len 1⟩
  refine ⟨hc, mount_like hc.ok (fun i hi => ?_) (fmt_mount h1 h2 h), e1, e2⟩
  show nowN (settleN D ([] ++ [(16, Lg.headL 1)])) [] (i : Int) = _
  rw [now_settled hok (n := i) (by omega), now_written, if_neg (by omega)]
theorem dk_more {n : Int} {D : List Nat} {rs : List (List Nat)} {A la : Nat} {t r : List Nat} (h : Dk n D rs A la t) (S : Nat) (hS : Lg.mostS 1 t (63 - A) + 1 = S) (hS2 : S < 4294967296) (hr : r.length ≤ 4096) (hrb : ∀ c ∈ r, c < 256) (hfit : A + Lg.needsN r.length ≤ 63) :
    doAny n D [] (Lg.actsK ((17 + A : Nat) : Int) (Lg.frameN 1 S la r) (Lg.needsN r.length) ++ [(true, 0, [])]) = .ok (settleN D (Lg.putsK ((17 + A : Nat) : Int) (Lg.frameN 1 S la r) (Lg.needsN r.length)), []) ∧
    Dk n (settleN D (Lg.putsK ((17 + A : Nat) : Int) (Lg.frameN 1 S la r) (Lg.needsN r.length))) (rs ++ [r]) (A + Lg.needsN r.length) S (t.drop (Lg.needsN r.length * 128)) := by
  have hF := Lg.frameN_len 1 S la r
  have hb := h.has.big
  obtain ⟨e1, e2⟩ := Lg.recs_added (r := r) h.has (by simp) h.epoch h.recs hS hS2 hr hrb hfit
  have hok := (Lg.has_added (F := Lg.frameN 1 S la r) h.has (by simp) hfit hF).ok
  have hd := Lg.do_added (F := Lg.frameN 1 S la r) h.has (by simp) hfit hF
  rw [doAny_ok _ h.has.ok] at hd
  rw [List.nil_append] at hd hok e1 e2
  have hlog : Lg.logN (settleN D (Lg.putsK ((17 + A : Nat) : Int) (Lg.frameN 1 S la r) (Lg.needsN r.length))) [] = Lg.logN D (Lg.putsK ((17 + A : Nat) : Int) (Lg.frameN 1 S la r) (Lg.needsN r.length)) := by
    unfold Lg.logN Lg.logK
    exact flat_congr fun i hi => now_settled hok (n := 16 + i) (by omega)
  refine ⟨?_, ⟨okay_settled hok, hb⟩, mount_like (okay_settled hok) (fun i hi => ?_) h.mount, by rw [hlog]; exact e1, by rw [hlog]; exact e2⟩
  · rw [doAny_ok _ h.has.ok, doN_app, hd]
    rfl
  · rw [now_settled hok (n := i) (by omega)]
    have := Lg.now_puts (data := D) (ws := []) (fr := 17 + A) (xs := Lg.frameN 1 S la r) (Lg.needsN r.length) i
    rw [List.nil_append] at this
    rw [this, if_neg (by omega)]
def sA : ByteArray := { data := #[97] }
def sB : ByteArray := { data := #[98] }
def sX : ByteArray := { data := #[120] }
def sY : ByteArray := { data := #[121] }
def l2 : List Tr.CV := [⟨sA, sX, false⟩, ⟨sB, sY, false⟩]
def b12 : List Nat := [1, 2, 1, 97, 0, 1, 120, 1, 98, 0, 1, 121]
def E2 : List Mg.EntV := [⟨sA, sX, 1, false⟩, ⟨sB, sY, 1, false⟩]
theorem wr2 : Tr.writeE l2 1 = (0, b12) := by kernel_rfl
theorem b12_byte : ∀ c ∈ b12, c < 256 := by decide
theorem rd2 : Tr.readE Tr.gP (numsOf (strOf b12)) = some (l2, 1) := by
  rw [nums_strOf b12_byte]
  exact Tr.readE_of rfl rfl wr2
theorem row2 : rowC l2 1 = E2 := by kernel_rfl
theorem rows2 : rowsK [l2] 1 = [E2] := by
  unfold rowsK
  show [rowC l2 _] = _
  rw [show (((0 + 1 : Nat) : Int)) = 1 from rfl, row2]
theorem rise2 : Mg.RiseE E2 := by
  unfold E2
  refine List.pairwise_cons.2 ⟨fun x hx => ?_, List.pairwise_cons.2 ⟨fun x hx => (by cases hx), List.Pairwise.nil⟩⟩
  simp only [List.mem_singleton] at hx
  subst hx
  kernel_rfl
theorem allM2 : Mg.allM [E2] = E2 := by kernel_rfl
theorem chk2 : Mg.chkR [E2] = 0 := by kernel_rfl
theorem all2 : Mg.allE (rowsK [l2] 1) = (E2, 0) := by
  rw [rows2, Mg.allE_rise chk2 (by rw [allM2]; exact rise2), allM2]
theorem all0 : Mg.allE (rowsK [] 0) = ([], 0) := by
  rw [rowsK_zero, Mg.allE_rise (by kernel_rfl) (by exact List.Pairwise.nil)]
  rfl
theorem StrsAt {w : World} {q : Option Addr} {L : List ByteArray} (h : Lg.StrsIn w q L) {i : Nat} (hi : i < L.length) : ∃ b o, q = some ⟨b, o, none⟩ ∧ w.cell? ⟨b, o + i, none⟩ = some (.string (L.getD i ByteArray.empty)) := by
  obtain ⟨b, o, e, hc⟩ := h (by omega)
  exact ⟨b, o, e, hc i hi⟩
set_option maxRecDepth 8000 in
set_option maxHeartbeats 4000000 in
theorem records_any (B : Nat) (C R : Int) (p1 p2 p3 p4 q : Option Addr) (n1 n2 n3 n4 n c1 c2 c3 c4 c : Nat) (L : List ByteArray) (ls : List (List Tr.CV)) (E : List Mg.EntV) (w : World)
    (hB : w.heap[B]? = some (.cells #[.int .i64 C, .slice p1 n1 c1, .slice p2 n2 c2, .slice p3 n3 c3, .int .i64 R, .slice p4 n4 c4, .slice none 0 0, .int .i64 0] 60 (0, 0)))
    (hS : Lg.StrsIn w q L) (hn : n = L.length) (hn64 : n ≤ 63)
    (hrd : ∀ i, i < n → (L.getD i ByteArray.empty).size ≤ 100000 ∧ Tr.readE Tr.gP (numsOf (L.getD i ByteArray.empty)) = some (ls.getD i [], i + 1) ∧ (ls.getD i []).length ≤ 64)
    (hE : Mg.allE (rowsK ls n) = (E, 0)) (hr : Mg.RiseE E) (hE12 : E.length ≤ 12) (hL : Mg.Laid w) :
    Calls Tryz.prog 47 #[.pointer (some ⟨B, 0, none⟩), .slice q n c] w fun e w' => (e = .returned .nilIface ∧ ∃ fq fn fc eq ec, w'.heap[B]? = some (.cells #[.int .i64 C, .slice p1 n1 c1, .slice p2 n2 c2, .slice p3 n3 c3, .int .i64 R, .slice fq fn fc, .slice eq E.length ec, .int .i64 (n : Int)] 60 (0, 0)) ∧ Mg.EOwn w' (B + 1) (.slice eq E.length ec) E) ∧ KeptB B w w' := by
  have HB : Hid (w.heap[B]? = some (.cells #[.int .i64 C, .slice p1 n1 c1, .slice p2 n2 c2, .slice p3 n3 c3, .int .i64 R, .slice p4 n4 c4, .slice none 0 0, .int .i64 0] 60 (0, 0))) := hB
  have HS : Hid (Lg.StrsIn w q L) := hS
  have HN : Hid (n = L.length) := hn
  have HRD : Hid (∀ i, i < n → (L.getD i ByteArray.empty).size ≤ 100000 ∧ Tr.readE Tr.gP (numsOf (L.getD i ByteArray.empty)) = some (ls.getD i [], i + 1) ∧ (ls.getD i []).length ≤ 64) := hrd
  have HE : Hid (Mg.allE (rowsK ls n) = (E, 0) ∧ Mg.RiseE E ∧ E.length ≤ 12) := ⟨hE, hr, hE12⟩
  have HL : Hid (Mg.Laid w) := hL
  have c7 : w.cell? ⟨B, 7, none⟩ = some (.int .i64 0) := Lib.cell_of_heap hB 7
  have hnI : (n : Int) ≤ 63 := by omega
  clear hB hS hn hrd hE hr hE12 hL hn64
  go_enter Tryz.func47, Tryz.ntmps47
  go_wp2
  go_loopw [6, 7, 19] (fun s6 s7 s19 wr => ∃ (i : Nat) (K : List Mg.RV) (qv : Option Addr) (lv cv : Nat), s19 = .int .i64 (i : Int) ∧ s6 = .int .i64 (i : Int) ∧ s7 = .slice qv lv cv ∧ i ≤ n ∧ OnRs w ls i (.slice qv lv cv) K wr) (fun _ _ s19 _ => n - (intOf s19).toNat)
  case atStart => exact ⟨0, [], none, 0, 0, rfl, rfl, rfl, by omega, onrs_nil w ls⟩
  case round =>
    obtain ⟨i, K, qv, lv, cv, rfl, rfl, rfl, h1, hon⟩ := hrel
    have HI : Hid (i ≤ n) := h1
    have HO : Hid (OnRs w ls i (.slice qv lv cv) K wr) := hon
    clear h1 hon
    by_cases hlt : i < n
    · have hltI : (i : Int) < (n : Int) := by omega
      have hiI0 : (0 : Int) ≤ (i : Int) := by omega
      obtain ⟨b, o, rfl, hcell⟩ := StrsAt (HS.out.below HO.out.bel) (i := i) (by have := HN.out; omega)
      obtain ⟨hsz, hre, hl64⟩ := HRD.out i hlt
      obtain ⟨s, hs⟩ : ∃ s, L.getD i ByteArray.empty = s := ⟨_, rfl⟩
      rw [hs] at hcell hsz hre
      have hc := Tr.read_t s wr hsz _ hre
      have HL64 : Hid ((ls.getD i []).length ≤ 64) := hl64
      clear hs hsz hre hl64 hlt
      go_wp2_with fail
      refine hc.mono ?_
      rintro e w1 ⟨hb1, ⟨hno, _⟩ | ⟨l, seq, v, hlo, rfl, hco⟩⟩
      · cases hno
      simp only [Option.some.injEq, Prod.mk.injEq] at hlo
      obtain ⟨rfl, rfl⟩ := hlo
      obtain ⟨q2, m2, rfl, _, _⟩ := Tr.own_form hco
      obtain ⟨n2', hn2'⟩ : ∃ k, (ls.getD i []).length = k := ⟨_, rfl⟩
      have HO1 : Hid (OnRs w ls i (.slice qv lv cv) K w1) := HO.out.next hb1
      have hrow := rowOf_any q2 n2' m2 (ls.getD i []) ((i : Int) + 1) w1 hco.cs hn2'.symm (by have := HL64.out; omega) (HL.out.below HO1.out.bel HL.out.size)
      obtain ⟨l3, hl3⟩ : ∃ l3, rowC (ls.getD i []) ((i : Int) + 1) = l3 := ⟨_, rfl⟩
      have hq1 : ((i + 1 : Nat) : Int) = (i : Int) + 1 := by omega
      have HL3 : Hid (l3 = rowC (ls.getD i []) ((i + 1 : Nat) : Int)) := by show _ = _; rw [hq1, hl3]
      rw [hl3] at hrow
      obtain ⟨k3, hk3⟩ : ∃ k, l3.length = k := ⟨_, rfl⟩
      rw [hk3] at hrow
      have HK3 : Hid (l3.length = k3) := hk3
      rw [hn2']
      have HRW : Hid _ := hrow
      have hgt : (0 : Int) < (i : Int) + 1 := by omega
      have hKl : K.length ≤ 1000 := by have := HO.out.len; omega
      have HKL : Hid (K.length ≤ 1000) := hKl
      clear hc hco hb1 hcell hn2' hrow hKl hl3 hk3
      rw [hq1]
      rcases Nat.eq_zero_or_pos i with hi0 | hi0
      · subst hi0
        go_wp2_with fail
        refine Calls.mono HRW.out ?_
        rintro e w2 ⟨⟨q3, c3', rfl, ho3⟩, hb2⟩
        have hbA := below_alloc w2 (.cells #[.slice q3 k3 c3'] 58)
        have HO2 : Hid (OnRs w ls 0 (.slice qv lv cv) K (w2.alloc (.cells #[.slice q3 k3 c3'] 58))) := (HO1.out.next hb2).next hbA
        have HE3 : Hid (Mg.EOwn (w2.alloc (.cells #[.slice q3 k3 c3'] 58)) w.heap.size (Mg.rvV ⟨q3, k3, c3', l3⟩) l3) := Mg.own_mono (Mg.EOwn.below (v := .slice q3 k3 c3') ho3 hbA) HO1.out.bel.size
        have HCE : Hid ((w2.alloc (.cells #[.slice q3 k3 c3'] 58)).cell? ⟨w2.heap.size, 0, none⟩ = some (Mg.rvV ⟨q3, k3, c3', l3⟩)) := Lib.cell_of_heap (heap_alloc_new w2 _) 0
        clear ho3 hb2 hbA HRW
        go_wp2_with (at_builtin; go_loud ((refine Mg.wpList_pushR _ rfl _ _ rfl w.heap.size (.slice qv lv cv) K ⟨q3, k3, c3', l3⟩ w2.heap.size rfl rfl HO2.out.own HCE.out HKL.out HO2.out.bel.size ?_); intro v4 w4 ho4 hg4; have h4 := HO2.out.app HE3.out HL3.out ho4 hg4; obtain ⟨q4, m4, e4, _⟩ := Tr.own_form ho4; obtain ⟨k4, hk4⟩ : ∃ k, (K ++ [(⟨q3, k3, c3', l3⟩ : Mg.RV)]).length = k := ⟨_, rfl⟩; rw [hk4] at e4; subst e4; clear hk4; have H4 : Hid _ := h4; clear ho4 hg4 h4))
        go_roundw
        case rel => exact ⟨0 + 1, _, _, _, _, by go_num, by go_num, rfl, by have := HI.out; omega, H4.out⟩
        case measure => simp [intOf]; omega
      · have hi0I : (0 : Int) < (i : Int) := by omega
        have hie : ((i : Int) == 0) = false := by simp; omega
        clear hi0
        go_wp2_with fail
        refine Calls.mono HRW.out ?_
        rintro e w2 ⟨⟨q3, c3', rfl, ho3⟩, hb2⟩
        have hbA := below_alloc w2 (.cells #[.slice q3 k3 c3'] 58)
        have HO2 : Hid (OnRs w ls i (.slice qv lv cv) K (w2.alloc (.cells #[.slice q3 k3 c3'] 58))) := (HO1.out.next hb2).next hbA
        have HE3 : Hid (Mg.EOwn (w2.alloc (.cells #[.slice q3 k3 c3'] 58)) w.heap.size (Mg.rvV ⟨q3, k3, c3', l3⟩) l3) := Mg.own_mono (Mg.EOwn.below (v := .slice q3 k3 c3') ho3 hbA) HO1.out.bel.size
        have HCE : Hid ((w2.alloc (.cells #[.slice q3 k3 c3'] 58)).cell? ⟨w2.heap.size, 0, none⟩ = some (Mg.rvV ⟨q3, k3, c3', l3⟩)) := Lib.cell_of_heap (heap_alloc_new w2 _) 0
        clear ho3 hb2 hbA HRW
        go_wp2_with (at_builtin; go_loud ((refine Mg.wpList_pushR _ rfl _ _ rfl w.heap.size (.slice qv lv cv) K ⟨q3, k3, c3', l3⟩ w2.heap.size rfl rfl HO2.out.own HCE.out HKL.out HO2.out.bel.size ?_); intro v4 w4 ho4 hg4; have h4 := HO2.out.app HE3.out HL3.out ho4 hg4; obtain ⟨q4, m4, e4, _⟩ := Tr.own_form ho4; obtain ⟨k4, hk4⟩ : ∃ k, (K ++ [(⟨q3, k3, c3', l3⟩ : Mg.RV)]).length = k := ⟨_, rfl⟩; rw [hk4] at e4; subst e4; clear hk4; have H4 : Hid _ := h4; clear ho4 hg4 h4))
        go_roundw
        case rel => exact ⟨i + 1, _, _, _, _, by go_num, by go_num, rfl, by have := HI.out; omega, H4.out⟩
        case measure => simp [intOf]; omega
    · have hltI : (n : Int) ≤ (i : Int) := by omega
      have hin : i = n := by have := HI.out; omega
      subst hin
      obtain ⟨q', m', e', _⟩ := Tr.own_form HO.out.own
      simp only [Value.slice.injEq] at e'
      obtain ⟨rfl, rfl, rfl⟩ := e'
      obtain ⟨ke, hke⟩ : ∃ ke, E.length = ke := ⟨_, rfl⟩
      have hal := Mg.All_any qv K.length cv K wr HO.out.rows (by have := HO.out.len; omega) E 0 (by rw [show Mg.lsR K = rowsK ls i from HO.out.ls]; exact HE.out.1)
      have HAL : Hid _ := hal
      obtain ⟨lv, hlv⟩ : ∃ lv, K.length = lv := ⟨_, rfl⟩
      rw [hlv]
      rw [hlv] at HAL
      have HKE : Hid (E.length = ke) := hke
      have HBR : Hid (Below w.heap.size w wr) := HO.out.bel
      have hiI0 : (0 : Int) ≤ (i : Int) := by omega
      clear hlt hal hlv hke HO
      have key : ∀ (fq : Option Addr) (fc : Nat) (w1 : World), Mg.OnB wr (.slice fq ke fc) E w1 → (w1.cell? ⟨B, 5, none⟩ = some (.slice p4 n4 c4) ∧ w1.frozen? ⟨B, 5, none⟩ = false) ∧ Hid (∀ W2, W2 = w1.setCell ⟨B, 5, none⟩ (.slice fq ke fc) → (W2.cell? ⟨B, 5, none⟩ = some (.slice fq ke fc) ∧ W2.cell? ⟨B, 6, none⟩ = some (.slice none 0 0)) ∧ Mg.EntsIn W2.drew fq E ∧ (fq = none → fc = 0) ∧
          ∀ v' w3, Mg.EOwn w3 W2.drew.heap.size v' E → W2.drew.grownBy w3 none → ∃ eq ec, v' = .slice eq ke ec ∧ w3.cell? ⟨B, 6, none⟩ = some (.slice none 0 0) ∧ w3.frozen? ⟨B, 6, none⟩ = false ∧ Hid ((w3.setCell ⟨B, 6, none⟩ (.slice eq ke ec)).heap[B]? = some (.cells #[.int .i64 C, .slice p1 n1 c1, .slice p2 n2 c2, .slice p3 n3 c3, .int .i64 R, .slice fq ke fc, .slice eq ke ec, .int .i64 0] 60 (0, 0)) ∧ Mg.EOwn (w3.setCell ⟨B, 6, none⟩ (.slice eq ke ec)) (B + 1) (.slice eq ke ec) E ∧ KeptB B w (w3.setCell ⟨B, 6, none⟩ (.slice eq ke ec)))) := by
        intro fq fc w1 hon
        have hbw : Below w.heap.size w w1 := below_bt HBR.out hon.bel
        have hB1 : w1.heap[B]? = some (.cells #[.int .i64 C, .slice p1 n1 c1, .slice p2 n2 c2, .slice p3 n3 c3, .int .i64 R, .slice p4 n4 c4, .slice none 0 0, .int .i64 0] 60 (0, 0)) := (hbw.block _ (lt_heap HB.out)).trans HB.out
        have hBs : B < wr.heap.size := Nat.lt_of_lt_of_le (lt_heap HB.out) HBR.out.size
        have hne : (Value.slice fq ke fc).ownBlock ≠ some B := fun e => by
          have := (World.ownsRow.lt hon.own B e).1
          omega
        refine ⟨⟨Lib.cell_of_heap hB1 5, Lib.frozen_of_heap hB1 5⟩, fun W2 hW2 => ?_⟩
        subst hW2
        have hB2 : (w1.setCell ⟨B, 5, none⟩ (.slice fq ke fc)).heap[B]? = some (.cells #[.int .i64 C, .slice p1 n1 c1, .slice p2 n2 c2, .slice p3 n3 c3, .int .i64 R, .slice fq ke fc, .slice none 0 0, .int .i64 0] 60 (0, 0)) := Lg.block_set hB1 _
        have ho2 : Mg.EOwn (w1.setCell ⟨B, 5, none⟩ (.slice fq ke fc)) wr.heap.size (.slice fq ke fc) E := World.ownsRow.kept hon.own (Lg.grown_set w1 B 5 _) (.inr hne)
        have ho3 := ho2.below (Below.refl _ _).drew
        obtain ⟨_, _, e2, _, _, hz⟩ := ho2.form
        simp only [Value.slice.injEq] at e2
        obtain ⟨rfl, _, rfl⟩ := e2
        refine ⟨⟨Lib.cell_of_heap hB2 5, Lib.cell_of_heap hB2 6⟩, ho3.ents, hz, fun v' w3 ho hg => ?_⟩
        obtain ⟨eq, ec, e3, _⟩ := ho.form
        rw [HKE.out] at e3
        subst e3
        have hB3 : w3.heap[B]? = some (.cells #[.int .i64 C, .slice p1 n1 c1, .slice p2 n2 c2, .slice p3 n3 c3, .int .i64 R, .slice fq ke fc, .slice none 0 0, .int .i64 0] 60 (0, 0)) := (hg.block B (lt_heap hB2) (by simp)).trans hB2
        have hne3 : (Value.slice eq ke ec).ownBlock ≠ some B := fun e => by
          have h1 := (World.ownsRow.lt ho B e).1
          have h2 : B < (w1.setCell ⟨B, 5, none⟩ (.slice fq ke fc)).drew.heap.size := lt_heap hB2
          omega
        have ho4 : Mg.EOwn (w3.setCell ⟨B, 6, none⟩ (.slice eq ke ec)) _ (.slice eq ke ec) E := World.ownsRow.kept ho (Lg.grown_set w3 B 6 _) (.inr hne3)
        refine ⟨eq, ec, rfl, Lib.cell_of_heap hB3 6, Lib.frozen_of_heap hB3 6, Lg.block_set hB3 _, Mg.own_mono ho4 (lt_heap hB2), ?_⟩
        refine (((keptB_below hbw).trans (keptB_set w1 B 5 _)).trans ⟨hg.os, hg.tape, hg.output, hg.size, fun k hk _ => hg.block k hk (by simp)⟩).trans (keptB_set w3 B 6 _)
      have HKEY : Hid _ := key
      clear key
      rcases Nat.eq_zero_or_pos i with hi0 | hi0
      · subst hi0
        go_wp2_with fail
        refine Calls.mono HAL.out ?_
        rintro e w1 ⟨v, rfl, hon⟩
        obtain ⟨fq, fc, e1, _⟩ := hon.own.form
        rw [HKE.out] at e1
        subst e1
        obtain ⟨⟨d5, f5⟩, hk2⟩ := HKEY.out fq fc w1 hon
        obtain ⟨⟨g5, g6⟩, hent, hqn, hk3⟩ := hk2.out _ rfl
        have HENT : Hid _ := And.intro hent hqn
        have HK3 : Hid _ := hk3
        clear hk2 hk3 hent hqn hon HAL HKEY
        go_wp2
        go_region_law (refine Mg.step_ents rfl (.tmp 96) (.tmp 100) rfl _ E fq ke fc (by simp [Act.eval]) (by simp [Act.eval]) HKE.out.symm HENT.out.1 HENT.out.2 (by have := HE.out.2.2; omega) (Nat.le_refl _) ?_; intro v' w3 ho3 hg3; obtain ⟨eq, ec, rfl, c2, f2, hx2⟩ := HK3.out v' w3 ho3 hg3; have HX : Hid _ := hx2; clear hx2 ho3 hg3)
        all_goals (
          obtain ⟨w4, hw4⟩ : ∃ w4, w3.setCell ⟨B, 6, none⟩ (.slice eq ke ec) = w4 := ⟨_, rfl⟩
          rw [hw4] at HX
          have HW4 : Hid _ := hw4
          have d6 : w4.cell? ⟨B, 6, none⟩ = some (.slice eq ke ec) := Lib.cell_of_heap HX.out.1 6
          have hri := rise_any eq ke ec E w4 ⟨HKE.out.symm, HX.out.2.1.ents⟩ HE.out.2.1 (by have := HE.out.2.2; have := HKE.out; omega)
          rw [hw4]
          clear hw4 c2 f2
          go_wp2_with fail
          refine hri.mono ?_
          rintro e w5 ⟨rfl, hb5⟩
          have hB5 := (hb5.block _ (lt_heap HX.out.1)).trans HX.out.1
          have HB5 : Hid _ := hB5
          have d7 : w5.cell? ⟨B, 7, none⟩ = some (.int .i64 0) := Lib.cell_of_heap hB5 7
          have f7 : w5.frozen? ⟨B, 7, none⟩ = false := Lib.frozen_of_heap hB5 7
          have HO5 : Hid (Mg.EOwn w5 (B + 1) (.slice eq ke ec) E) := HX.out.2.1.below hb5
          have HK5 : Hid (KeptB B w w5) := HX.out.2.2.below hb5
          clear hb5 hB5 hri d6
          go_wp2
          go_ret
          refine ⟨⟨rfl, fq, ke, fc, eq, ec, ?_, ?_⟩, HK5.out.trans (keptB_set w5 B 7 _)⟩
          · rw [HKE.out]; exact Lg.block_set HB5.out _
          · rw [HKE.out]; exact World.ownsRow.kept HO5.out (Lg.grown_set w5 B 7 _) (.inr (fun e => by have := (World.ownsRow.lt HO5.out B e).1; omega)))
      · have hi0I : (0 : Int) < (i : Int) := by omega
        clear hi0
        go_wp2_with fail
        refine Calls.mono HAL.out ?_
        rintro e w1 ⟨v, rfl, hon⟩
        obtain ⟨fq, fc, e1, _⟩ := hon.own.form
        rw [HKE.out] at e1
        subst e1
        obtain ⟨⟨d5, f5⟩, hk2⟩ := HKEY.out fq fc w1 hon
        obtain ⟨⟨g5, g6⟩, hent, hqn, hk3⟩ := hk2.out _ rfl
        have HENT : Hid _ := And.intro hent hqn
        have HK3 : Hid _ := hk3
        clear hk2 hk3 hent hqn hon HAL HKEY
        go_wp2
        go_region_law (refine Mg.step_ents rfl (.tmp 96) (.tmp 100) rfl _ E fq ke fc (by simp [Act.eval]) (by simp [Act.eval]) HKE.out.symm HENT.out.1 HENT.out.2 (by have := HE.out.2.2; omega) (Nat.le_refl _) ?_; intro v' w3 ho3 hg3; obtain ⟨eq, ec, rfl, c2, f2, hx2⟩ := HK3.out v' w3 ho3 hg3; have HX : Hid _ := hx2; clear hx2 ho3 hg3)
        all_goals (
          obtain ⟨w4, hw4⟩ : ∃ w4, w3.setCell ⟨B, 6, none⟩ (.slice eq ke ec) = w4 := ⟨_, rfl⟩
          rw [hw4] at HX
          have HW4 : Hid _ := hw4
          have d6 : w4.cell? ⟨B, 6, none⟩ = some (.slice eq ke ec) := Lib.cell_of_heap HX.out.1 6
          have hri := rise_any eq ke ec E w4 ⟨HKE.out.symm, HX.out.2.1.ents⟩ HE.out.2.1 (by have := HE.out.2.2; have := HKE.out; omega)
          rw [hw4]
          clear hw4 c2 f2
          go_wp2_with fail
          refine hri.mono ?_
          rintro e w5 ⟨rfl, hb5⟩
          have hB5 := (hb5.block _ (lt_heap HX.out.1)).trans HX.out.1
          have HB5 : Hid _ := hB5
          have d7 : w5.cell? ⟨B, 7, none⟩ = some (.int .i64 0) := Lib.cell_of_heap hB5 7
          have f7 : w5.frozen? ⟨B, 7, none⟩ = false := Lib.frozen_of_heap hB5 7
          have HO5 : Hid (Mg.EOwn w5 (B + 1) (.slice eq ke ec) E) := HX.out.2.1.below hb5
          have HK5 : Hid (KeptB B w w5) := HX.out.2.2.below hb5
          clear hb5 hB5 hri d6
          go_wp2
          go_ret
          refine ⟨⟨rfl, fq, ke, fc, eq, ec, ?_, ?_⟩, HK5.out.trans (keptB_set w5 B 7 _)⟩
          · rw [HKE.out]; exact Lg.block_set HB5.out _
          · rw [HKE.out]; exact World.ownsRow.kept HO5.out (Lg.grown_set w5 B 7 _) (.inr (fun e => by have := (World.ownsRow.lt HO5.out B e).1; omega)))
end Go.Proofs.YtghcmllmbpoidaaGreatDoor
