/-
  LogTurns: what its walk stands on.
-/
import Derived.Test.YtnajjfdbmdjcbaaJ10
import Derived.Deep.QuietTactic
import Derived.BigQuiet
import Derived.Deep.RegionHeld3
import Derived.Deep.CutRange
import Derived.Test.YtnajjfdbmdjcbaaJ08
import Derived.Test.YtnajjfdbmdjcbaaJ07
import Derived.Test.YtnajjfdbmdjcbaaJ09
namespace Go.Proofs.Ytnajjfdbmdjcbaa
open Go.RowKit Go.WideShapes

set_option maxRecDepth 8000 in
theorem rRecords_err (v : Value) (count : Int) (data : List Nat) (ws : Puts) (w : World) (hd : DiskIn w v count data ws) (er : Int) (he : errL count data ws = er) (hne : er ≠ 0) :
    Calls Try.prog 24 #[v] w fun e w' => e = .returned (.tuple #[.slice none 0 0, .int .i64 er]) ∧ Below w.heap.size w w' := by
  obtain ⟨p, c, q, m, rfl, _⟩ := hd.parts
  have HD : Hid (DiskIn w (.agg #[.int .i64 count, .slice p data.length c, .slice q ws.length m]) count data ws ∧ errL count data ws = er ∧ er ≠ 0) := ⟨hd, he, hne⟩
  clear hd he hne
  go_enter Try.func24, Try.ntmps24
  go_wp2_with fail
  refine (rOf_err _ count data ws _ (HD.out.1.below (below_alloc w _)) er HD.out.2.1 HD.out.2.2).mono ?_
  rintro e w1 ⟨rfl, hb1⟩
  have HB1 : Hid (Below w.heap.size w w1) := below_bt (below_alloc w _) hb1
  clear hb1
  go_wp2
  go_ret2
  exact ⟨rfl, below_bt HB1.out (below_alloc _ _)⟩
set_option maxRecDepth 8000 in
theorem rRecords_ok (v : Value) (count : Int) (data : List Nat) (ws : Puts) (w : World) (hd : DiskIn w v count data ws) (h : HasLog count data ws) (E : Nat) (hE : epochN (logN data ws) = E) (hE0 : E ≠ 0) :
    Calls Try.prog 24 #[v] w fun e w' => ∃ (rv : Value) (l : List (List Nat)) (a la : Nat) (t : List Nat), e = .returned (.tuple #[rv, .int .i64 0]) ∧ Recs E 0 ((logN data ws).drop 128) l a la t ∧ w'.ownsRow w.heap.size 9 1 rv l.length (l.map fun r => .string (strOf r)) ∧ Below w.heap.size w w' := by
  obtain ⟨p, c, q, m, rfl, _⟩ := hd.parts
  have HD : Hid (DiskIn w (.agg #[.int .i64 count, .slice p data.length c, .slice q ws.length m]) count data ws ∧ HasLog count data ws ∧ epochN (logN data ws) = E ∧ E ≠ 0) := ⟨hd, h, hE, hE0⟩
  clear hd h hE hE0
  go_enter Try.func24, Try.ntmps24
  go_wp2_with fail
  refine (rOf_ok _ count data ws _ (HD.out.1.below (below_alloc w _)) HD.out.2.1 E HD.out.2.2.1 HD.out.2.2.2).mono ?_
  rintro e w1 ⟨rv, l, a, la, t, rfl, hrec, hown, hb1⟩
  obtain ⟨rq, rm, rfl, _, _, _⟩ := own_form hown
  have HB1 : Hid (Below w.heap.size w w1) := below_bt (below_alloc w _) hb1
  have HO : Hid (w1.ownsRow w.heap.size 9 1 (.slice rq l.length rm) l.length (l.map fun r => .string (strOf r))) := own_mono hown (by simp)
  have HR : Hid (Recs E 0 ((logN data ws).drop 128) l a la t) := hrec
  obtain ⟨n, hn⟩ : ∃ n, l.length = n := ⟨_, rfl⟩
  have HN : Hid (l.length = n) := hn
  rw [hn]
  clear hb1 hrec hown hn
  go_wp2
  go_ret2
  exact ⟨.slice rq l.length rm, l, a, la, t, by have h := HN.out; subst h; rfl, HR.out, own_below HO.out (below_alloc _ _), below_bt HB1.out (below_alloc _ _)⟩
set_option maxRecDepth 8000 in
theorem rAt_err (v : Value) (count : Int) (data : List Nat) (ws : Puts) (w : World) (hd : DiskIn w v count data ws) (er : Int) (he : errL count data ws = er) (hne : er ≠ 0) :
    Calls Try.prog 25 #[v] w fun e w' => e = .returned (.tuple #[.int .i64 0, .int .i64 er]) ∧ Below w.heap.size w w' := by
  obtain ⟨p, c, q, m, rfl, _⟩ := hd.parts
  have HD : Hid (DiskIn w (.agg #[.int .i64 count, .slice p data.length c, .slice q ws.length m]) count data ws ∧ errL count data ws = er ∧ er ≠ 0) := ⟨hd, he, hne⟩
  clear hd he hne
  go_enter Try.func25, Try.ntmps25
  go_wp2_with fail
  refine (rOf_err _ count data ws _ (HD.out.1.below (below_alloc w _)) er HD.out.2.1 HD.out.2.2).mono ?_
  rintro e w1 ⟨rfl, hb1⟩
  have HB1 : Hid (Below w.heap.size w w1) := below_bt (below_alloc w _) hb1
  clear hb1
  go_wp2
  go_ret2
  exact ⟨rfl, below_bt HB1.out (below_alloc _ _)⟩
set_option maxRecDepth 8000 in
theorem rAt_ok (v : Value) (count : Int) (data : List Nat) (ws : Puts) (w : World) (hd : DiskIn w v count data ws) (h : HasLog count data ws) (E : Nat) (hE : epochN (logN data ws) = E) (hE0 : E ≠ 0) :
    Calls Try.prog 25 #[v] w fun e w' => ∃ (rv : Value) (l : List (List Nat)) (a la : Nat) (t : List Nat), e = .returned (.tuple #[.int .i64 (a : Nat), .int .i64 0]) ∧ Recs E 0 ((logN data ws).drop 128) l a la t ∧ w'.ownsRow w.heap.size 9 1 rv l.length (l.map fun r => .string (strOf r)) ∧ Below w.heap.size w w' := by
  obtain ⟨p, c, q, m, rfl, _⟩ := hd.parts
  have HD : Hid (DiskIn w (.agg #[.int .i64 count, .slice p data.length c, .slice q ws.length m]) count data ws ∧ HasLog count data ws ∧ epochN (logN data ws) = E ∧ E ≠ 0) := ⟨hd, h, hE, hE0⟩
  clear hd h hE hE0
  go_enter Try.func25, Try.ntmps25
  go_wp2_with fail
  refine (rOf_ok _ count data ws _ (HD.out.1.below (below_alloc w _)) HD.out.2.1 E HD.out.2.2.1 HD.out.2.2.2).mono ?_
  rintro e w1 ⟨rv, l, a, la, t, rfl, hrec, hown, hb1⟩
  obtain ⟨rq, rm, rfl, _, _, _⟩ := own_form hown
  have HB1 : Hid (Below w.heap.size w w1) := below_bt (below_alloc w _) hb1
  have HO : Hid (w1.ownsRow w.heap.size 9 1 (.slice rq l.length rm) l.length (l.map fun r => .string (strOf r))) := own_mono hown (by simp)
  have HR : Hid (Recs E 0 ((logN data ws).drop 128) l a la t) := hrec
  obtain ⟨n, hn⟩ : ∃ n, l.length = n := ⟨_, rfl⟩
  have HN : Hid (l.length = n) := hn
  rw [hn]
  clear hb1 hrec hown hn
  go_wp2
  go_ret2
  exact ⟨.slice rq l.length rm, l, a, la, t, by have h := HN.out; subst h; rfl, HR.out, own_below HO.out (below_alloc _ _), below_bt HB1.out (below_alloc _ _)⟩
set_option maxRecDepth 8000 in
theorem rEpoch_err (v : Value) (count : Int) (data : List Nat) (ws : Puts) (w : World) (hd : DiskIn w v count data ws) (er : Int) (he : errL count data ws = er) (hne : er ≠ 0) :
    Calls Try.prog 26 #[v] w fun e w' => e = .returned (.tuple #[.int .u32 0, .int .i64 er]) ∧ Below w.heap.size w w' := by
  obtain ⟨p, c, q, m, rfl, _⟩ := hd.parts
  have HD : Hid (DiskIn w (.agg #[.int .i64 count, .slice p data.length c, .slice q ws.length m]) count data ws ∧ errL count data ws = er ∧ er ≠ 0) := ⟨hd, he, hne⟩
  clear hd he hne
  go_enter Try.func26, Try.ntmps26
  go_wp2_with fail
  refine (rOf_err _ count data ws _ (HD.out.1.below (below_alloc w _)) er HD.out.2.1 HD.out.2.2).mono ?_
  rintro e w1 ⟨rfl, hb1⟩
  have HB1 : Hid (Below w.heap.size w w1) := below_bt (below_alloc w _) hb1
  clear hb1
  go_wp2
  go_ret2
  exact ⟨rfl, below_bt HB1.out (below_alloc _ _)⟩
set_option maxRecDepth 8000 in
theorem rEpoch_ok (v : Value) (count : Int) (data : List Nat) (ws : Puts) (w : World) (hd : DiskIn w v count data ws) (h : HasLog count data ws) (E : Nat) (hE : epochN (logN data ws) = E) (hE0 : E ≠ 0) :
    Calls Try.prog 26 #[v] w fun e w' => ∃ (rv : Value) (l : List (List Nat)) (a la : Nat) (t : List Nat), e = .returned (.tuple #[.int .u32 E, .int .i64 0]) ∧ Recs E 0 ((logN data ws).drop 128) l a la t ∧ w'.ownsRow w.heap.size 9 1 rv l.length (l.map fun r => .string (strOf r)) ∧ Below w.heap.size w w' := by
  obtain ⟨p, c, q, m, rfl, _⟩ := hd.parts
  have HD : Hid (DiskIn w (.agg #[.int .i64 count, .slice p data.length c, .slice q ws.length m]) count data ws ∧ HasLog count data ws ∧ epochN (logN data ws) = E ∧ E ≠ 0) := ⟨hd, h, hE, hE0⟩
  clear hd h hE hE0
  go_enter Try.func26, Try.ntmps26
  go_wp2_with fail
  refine (rOf_ok _ count data ws _ (HD.out.1.below (below_alloc w _)) HD.out.2.1 E HD.out.2.2.1 HD.out.2.2.2).mono ?_
  rintro e w1 ⟨rv, l, a, la, t, rfl, hrec, hown, hb1⟩
  obtain ⟨rq, rm, rfl, _, _, _⟩ := own_form hown
  have HB1 : Hid (Below w.heap.size w w1) := below_bt (below_alloc w _) hb1
  have HO : Hid (w1.ownsRow w.heap.size 9 1 (.slice rq l.length rm) l.length (l.map fun r => .string (strOf r))) := own_mono hown (by simp)
  have HR : Hid (Recs E 0 ((logN data ws).drop 128) l a la t) := hrec
  obtain ⟨n, hn⟩ : ∃ n, l.length = n := ⟨_, rfl⟩
  have HN : Hid (l.length = n) := hn
  rw [hn]
  clear hb1 hrec hown hn
  go_wp2
  go_ret2
  exact ⟨.slice rq l.length rm, l, a, la, t, by have h := HN.out; subst h; rfl, HR.out, own_below HO.out (below_alloc _ _), below_bt HB1.out (below_alloc _ _)⟩
end Go.Proofs.Ytnajjfdbmdjcbaa
namespace Go.Proofs.Ytnajjfdbmdjcbaa
open Go.RowKit Go.WideShapes

set_option maxRecDepth 8000 in
theorem rAdd_err (v : Value) (x : ByteArray) (count : Int) (data : List Nat) (ws : Puts) (w : World) (hd : DiskIn w v count data ws) (er : Int) (he : errL count data ws = er) (hne : er ≠ 0) :
    Calls Try.prog 27 #[v, .string x] w fun e w' => e = .returned (.tuple #[.slice none 0 0, .int .i64 er]) ∧ Below w.heap.size w w' := by
  obtain ⟨p, c, q, m, rfl, _⟩ := hd.parts
  have HD : Hid (DiskIn w (.agg #[.int .i64 count, .slice p data.length c, .slice q ws.length m]) count data ws ∧ errL count data ws = er ∧ er ≠ 0) := ⟨hd, he, hne⟩
  have g1 : (er != 0) = true := by simpa using hne
  clear hd he hne
  go_enter Try.func27, Try.ntmps27
  go_wp2_with fail
  refine (rOf_err _ count data ws _ (HD.out.1.below (below_alloc w _)) er HD.out.2.1 HD.out.2.2).mono ?_
  rintro e w1 ⟨rfl, hb1⟩
  have HB1 : Hid (Below w.heap.size w w1) := below_bt (below_alloc w _) hb1
  clear hb1
  go_wp2
  go_ret2
  exact ⟨rfl, below_bt HB1.out (below_alloc _ _)⟩
set_option maxRecDepth 8000 in
set_option maxHeartbeats 1000000 in
theorem rAdd_full (v : Value) (x : ByteArray) (count : Int) (data : List Nat) (ws : Puts) (w : World) (hd : DiskIn w v count data ws) (h : HasLog count data ws) (E : Nat) (hE : epochN (logN data ws) = E) (hE0 : E ≠ 0) (l0 : List (List Nat)) (a0 la0 : Nat) (t0 : List Nat) (hrec : Recs E 0 ((logN data ws).drop 128) l0 a0 la0 t0) (er : Int)
    (hx : ((4096 : Int) < (x.size : Int) ∧ er = 3) ∨ ((x.size : Int) ≤ 4096 ∧ (63 : Int) < (a0 : Int) + (needsN x.size : Nat) ∧ er = 30)) :
    Calls Try.prog 27 #[v, .string x] w fun e w' => e = .returned (.tuple #[.slice none 0 0, .int .i64 er]) ∧ Below w.heap.size w w' := by
  obtain ⟨p, c, q, m, rfl, _⟩ := hd.parts
  have HD : Hid (DiskIn w (.agg #[.int .i64 count, .slice p data.length c, .slice q ws.length m]) count data ws ∧ HasLog count data ws ∧ epochN (logN data ws) = E ∧ E ≠ 0) := ⟨hd, h, hE, hE0⟩
  have HR0 : Hid (Recs E 0 ((logN data ws).drop 128) l0 a0 la0 t0) := hrec
  have hE32 : E < 4294967296 := hE ▸ epochN_lt _
  have ha63 : (a0 : Int) ≤ 63 := by
    have := (hrec.facts (n := 63) (by rw [List.length_drop, log_len h]) (by omega)).1
    omega
  clear hd h hE hE0 hrec
  go_enter Try.func27, Try.ntmps27
  go_wp2_with fail
  refine (rOf_ok _ count data ws _ (HD.out.1.below (below_alloc w _)) HD.out.2.1 E HD.out.2.2.1 HD.out.2.2.2).mono ?_
  rintro e w1 ⟨rv, l, a, la, t, rfl, hrec1, hown, hb1⟩
  obtain ⟨rfl, rfl, rfl, rfl⟩ := HR0.out.only hE32 (by omega) hrec1
  obtain ⟨rq, rm, rfl, _, _, _⟩ := own_form hown
  have HB1 : Hid (Below w.heap.size w w1) := below_bt (below_alloc w _) hb1
  obtain ⟨n, hn⟩ : ∃ n, l0.length = n := ⟨_, rfl⟩
  rw [hn]
  clear hb1 hrec1 hown hn HR0
  rcases hx with ⟨h1, rfl⟩ | ⟨h1, h2, rfl⟩
  · go_wp2
    go_ret2
    exact ⟨rfl, below_bt HB1.out (below_alloc _ _)⟩
  · obtain ⟨nd, hnd⟩ : ∃ nd, needsN x.size = nd := ⟨_, rfl⟩
    rw [hnd] at h2
    have HND : Hid (needsN x.size = nd ∧ x.size ≤ 4096) := ⟨hnd, by omega⟩
    have hndI : (nd : Int) ≤ 1000 := by
      have : nd ≤ 37 + 0 := by rw [← hnd]; unfold needsN; omega
      omega
    clear hnd
    have HC : Hid ((w1.alloc (.cells #[.int .u32 E, .slice rq n rm, .int .i64 a0, .int .u32 la0] 107)).heap[w1.heap.size]? = some (.cells #[.int .u32 E, .slice rq n rm, .int .i64 a0, .int .u32 la0] 107 (0, 0))) := heap_alloc_new _ _
    go_wp2
    go_quiet ((go_at_call 50; exact Calls.quiet_of_same (rneeds_any x.size nd _ (by have := HND.out; omega) HND.out.1)))
    go_wp2
    go_ret2
    exact ⟨rfl, below_bt (below_bt HB1.out (below_alloc _ _)) (below_dr _ _)⟩
end Go.Proofs.Ytnajjfdbmdjcbaa
namespace Go.Proofs.Ytnajjfdbmdjcbaa
open Go.RowKit Go.WideShapes

set_option maxRecDepth 8000 in
theorem rClear_err (v : Value) (count : Int) (data : List Nat) (ws : Puts) (w : World) (hd : DiskIn w v count data ws) (er : Int) (h : (¬ Okay count data ws ∧ er = 20) ∨ (Okay count data ws ∧ count < 80 ∧ er = 50)) :
    Calls Try.prog 28 #[v] w fun e w' => e = .returned (.tuple #[.slice none 0 0, .int .i64 er]) ∧ Below w.heap.size w w' := by
  obtain ⟨p, c, q, m, rfl, _⟩ := hd.parts
  have HD : Hid _ := hd
  clear hd
  go_enter Try.func28, Try.ntmps28
  go_wp2_with fail
  refine (rcheck_any _ count data ws _ (HD.out.below (below_alloc w _))).mono ?_
  rintro e w1 ⟨rfl, hb1⟩
  have HB1 : Hid (Below w.heap.size w w1) := below_bt (below_alloc w _) hb1
  have HY : Hid (w1.heap[w.heap.size]? = some (.cells #[.int .i64 count, .slice p data.length c, .slice q ws.length m] 25 (0, 0))) := (hb1.block _ (by simp)).trans (heap_alloc_new w _)
  obtain ⟨d0, d1, d2, _⟩ := box3 HY.out
  clear hb1
  rcases h with ⟨h1, rfl⟩ | ⟨h1, h2, rfl⟩
  · rw [errC_bad h1]
    clear h1
    go_wp2
    go_ret2
    exact ⟨rfl, HB1.out⟩
  · rw [errC_ok h1]
    clear h1
    go_wp2
    go_ret2
    exact ⟨rfl, HB1.out⟩
set_option maxRecDepth 8000 in
set_option maxHeartbeats 1000000 in
theorem rClear_full (v : Value) (count : Int) (data : List Nat) (ws : Puts) (w : World) (hd : DiskIn w v count data ws) (hl : HasLog count data ws) (hM : ¬ mostE (logN data ws) 63 + 1 < 4294967296) (hM2 : ∀ k, mostE (logN data ws) k < 4294967296) :
    Calls Try.prog 28 #[v] w fun e w' => e = .returned (.tuple #[.slice none 0 0, .int .i64 30]) ∧ Below w.heap.size w w' := by
  obtain ⟨p, c, q, m, rfl, _⟩ := hd.parts
  have HD : Hid (DiskIn w (.agg #[.int .i64 count, .slice p data.length c, .slice q ws.length m]) count data ws ∧ HasLog count data ws ∧ (¬ mostE (logN data ws) 63 + 1 < 4294967296) ∧ ∀ k, mostE (logN data ws) k < 4294967296) := ⟨hd, hl, hM, hM2⟩
  have hc80 : ¬ count < 80 := by have := hl.big; omega
  have hok := hl.ok
  clear hd hl hM hM2
  go_enter Try.func28, Try.ntmps28
  go_wp2_with fail
  refine (rcheck_any _ count data ws _ (HD.out.1.below (below_alloc w _))).mono ?_
  rintro e w1 ⟨rfl, hb1⟩
  rw [errC_ok hok]
  have HB1 : Hid (Below w.heap.size w w1) := below_bt (below_alloc w _) hb1
  have HY : Hid (w1.heap[w.heap.size]? = some (.cells #[.int .i64 count, .slice p data.length c, .slice q ws.length m] 25 (0, 0))) := (hb1.block _ (by simp)).trans (heap_alloc_new w _)
  obtain ⟨d0, d1, d2, _⟩ := box3 HY.out
  clear hb1 hok
  go_wp2_with fail
  refine (rhead_any _ count data ws _ (HD.out.1.below HB1.out) HD.out.2.1 _ rfl).mono ?_
  rintro e w2 ⟨rfl, hb2⟩
  have HB2 : Hid (Below w1.heap.size w1 w2) := hb2
  obtain ⟨M0, hM0⟩ : ∃ M0, epochN (logN data ws) = M0 := ⟨_, rfl⟩
  rw [hM0]
  have HM0 : Hid (mostE (logN data ws) 0 = M0 ∧ M0 < 4294967296) := ⟨hM0, hM0 ▸ epochN_lt _⟩
  have kw : IntKind.u64.wrap (M0 : Int) = M0 := by rw [IntKind.wrap_u64]; have := HM0.out.2; omega
  clear hb2 hM0 d0 d1 d2
  go_wp2
  go_loopw [5, 6] (fun s i wr => ∃ k : Nat, k ≤ 63 ∧ i = .int .i64 ((17 + k : Nat) : Int) ∧ s = .int .u64 (mostE (logN data ws) k : Nat) ∧ Hid (Below w1.heap.size w1 wr)) (fun _ i _ => 80 - (intOf i).toNat)
  case atStart => exact ⟨0, by omega, rfl, by rw [HM0.out.1], HB2.out⟩
  case round =>
    obtain ⟨k, hk, rfl, rfl, HR⟩ := hrel
    have HXR : Hid (wr.heap[w.heap.size]? = some (.cells #[.int .i64 count, .slice p data.length c, .slice q ws.length m] 25 (0, 0))) := (HR.out.block _ (lt_heap HY.out)).trans HY.out
    obtain ⟨d0, d1, d2, _⟩ := box3 HXR.out
    by_cases hk63 : k < 63
    · have hkI : ((17 + k : Nat) : Int) < 80 := by omega
      have HK : Hid (k < 63) := hk63
      clear hk63
      obtain ⟨j, hj⟩ : ∃ j, 17 + k = j := ⟨_, rfl⟩
      have HJ : Hid (17 + k = j) := hj
      rw [hj] at hkI ⊢
      clear hj
      obtain ⟨A, hA⟩ : ∃ A, mostE (logN data ws) k = A := ⟨_, rfl⟩
      rw [hA]
      have HA : Hid (mostE (logN data ws) k = A ∧ A < 4294967296) := ⟨hA, hA ▸ HD.out.2.2.2 k⟩
      clear hA
      go_wp2_with fail
      refine (rnow_any _ j count data ws _ (HD.out.1.below (below_bt HB1.out HR.out)) HD.out.2.1.ok (by omega)).mono ?_
      rintro e w3 ⟨⟨v3, rfl, hrow⟩, hb3⟩
      have hl3 : (nowN data ws j).length = 128 := nowN_len HD.out.2.1.ok (by omega)
      obtain ⟨ys, hys⟩ : ∃ ys, nowN data ws j = ys := ⟨_, rfl⟩
      rw [hys] at hrow hl3
      obtain ⟨p3, c3, rfl, hbi, hc3, hc4, _⟩ := hrow.form
      rw [hl3]
      have HYS : Hid (numAt ys 0 = numAt (logN data ws) ((k + 1) * 128)) := by
        have h1 : secAt (logN data ws) (k + 1) = nowN data ws ((16 + (k + 1) : Nat) : Int) := sec_logK (now_len HD.out.2.1) (by have := HK.out; omega)
        rw [show 16 + (k + 1) = j by have := HJ.out; omega, hys] at h1
        exact (num_of_sec h1).1.symm
      obtain ⟨N3, hN3⟩ : ∃ N3, numAt ys 0 = N3 := ⟨_, rfl⟩
      have HNUM : Hid (Calls Try.prog 52 #[.slice p3 128 c3] w3 fun e w' => e = .returned (.int .u32 (N3 : Nat)) ∧ Below w3.heap.size w3 w') := by
        rw [← hN3]
        exact rnumber_any p3 ys 128 c3 w3 hl3.symm (by omega) hbi
      have HMX : Hid (mostE (logN data ws) (k + 1) = max A N3 ∧ N3 < 4294967296) := by
        have h1 : mostE (logN data ws) (k + 1) = max A N3 := by show max _ _ = _; rw [HA.out.1, ← HYS.out, hN3]
        have h2 := HD.out.2.2.2 (k + 1)
        rw [h1] at h2
        exact ⟨h1, by omega⟩
      have HB3 : Hid (Below wr.heap.size wr w3) := hb3
      have kw3 : IntKind.u64.wrap (N3 : Int) = N3 := by rw [IntKind.wrap_u64]; have := HMX.out.2; omega
      clear hrow hbi hb3 hc3 hc4 d0 d1 d2 hys hl3 hN3
      go_wp2_with fail
      refine HNUM.out.mono ?_
      rintro e w4 ⟨rfl, hb4⟩
      have HB4 : Hid (Below w1.heap.size w1 w4) := below_bt (below_bt HR.out HB3.out) hb4
      clear hb4 HNUM
      by_cases hlt : (A : Int) < (N3 : Int)
      · go_wp2
        go_roundw
        case rel => exact ⟨k + 1, by have := HK.out; omega, by have := HJ.out; go_num, by rw [HMX.out.1, Nat.max_eq_right (by omega)], HB4.out⟩
        case measure => simp [intOf]; omega
      · go_wp2
        go_roundw
        case rel => exact ⟨k + 1, by have := HK.out; omega, by have := HJ.out; go_num, by rw [HMX.out.1, Nat.max_eq_left (by omega)], HB4.out⟩
        case measure => simp [intOf]; omega
    · obtain rfl : k = 63 := by omega
      obtain ⟨A, hA⟩ : ∃ A, mostE (logN data ws) 63 = A := ⟨_, rfl⟩
      rw [hA]
      have hA2 : A = 4294967295 := by have h1 := HD.out.2.2.1; have h2 := HD.out.2.2.2 63; rw [hA] at h1 h2; omega
      subst hA2
      clear hA
      go_wp2
      go_ret2
      exact ⟨rfl, below_bt HB1.out HR.out⟩
end Go.Proofs.Ytnajjfdbmdjcbaa
namespace Go.Proofs.Ytnajjfdbmdjcbaa
open Go.RowKit Go.WideShapes

theorem fourC {w : World} {g : Nat} {a b c d : Value} {t : TypeId} (h : w.heap[g]? = some (.cells #[a, b, c, d] t (0, 0))) : (w.cell? ⟨g, 0, none⟩ = some a ∧ w.cell? ⟨g, 1, none⟩ = some b ∧ w.cell? ⟨g, 2, none⟩ = some c ∧ w.cell? ⟨g, 3, none⟩ = some d) :=
  ⟨cell_of_row w _ 0 _ _ _ h, cell_of_row w _ 1 _ _ _ h, cell_of_row w _ 2 _ _ _ h, cell_of_row w _ 3 _ _ _ h⟩
theorem secAt_drop (xs : List Nat) (a j : Nat) : secAt (xs.drop (a * 128)) j = secAt xs (a + j) := by
  unfold secAt
  rw [List.drop_drop]
  congr 2
  omega
theorem secAt_drop1 (xs : List Nat) (j : Nat) : secAt (xs.drop 128) j = secAt xs (j + 1) := by
  have := secAt_drop xs 1 j
  rw [Nat.one_mul] at this
  rw [this, Nat.add_comm]
theorem acts_lies {w : World} {base : Nat} {q : Option Addr} {n m : Nat} {l : List ActC} (hrow : w.ownsRow base 43 3 (.slice q n m) l.length (cellsA l)) (hd : ∀ y ∈ l, Row w y.2 y.1.2.2) : n = l.length ∧ ActsIn w q (l.map Prod.fst) ∧ l.length ≤ m ∧ m ≤ maxLen := by
  rcases hrow.2 with ⟨hv, hn⟩ | ⟨g, cap, cur, hv, hb, hg, hle, hmax, hsz, htk⟩
  · simp only [Value.slice.injEq] at hv
    obtain ⟨rfl, rfl, rfl⟩ := hv
    exact ⟨by omega, fun h => by rw [List.length_map] at h; omega, by omega, by unfold maxLen; omega⟩
  · simp only [Value.slice.injEq] at hv
    obtain ⟨rfl, rfl, rfl⟩ := hv
    refine ⟨rfl, fun _ => ⟨g, 0, rfl, fun i hi => ?_⟩, hle, hmax⟩
    rw [List.length_map] at hi
    obtain ⟨c0, c1, y, hy, c2, c3⟩ := cellsA_at l i hi
    have e0 := hrow.cellAt (i * 3) (by omega)
    have e1 := hrow.cellAt (i * 3 + 1) (by omega)
    have e2 := hrow.cellAt (i * 3 + 2) (by omega)
    rw [c0] at e0
    rw [c1] at e1
    rw [c3] at e2
    refine ⟨by rw [Nat.zero_add]; exact e0, by rw [Nat.zero_add]; exact e1, y.2, by rw [Nat.zero_add]; exact e2, ?_⟩
    rw [← c2]
    exact hd y hy
/-- The document's acts: their data are parts of the frame. -/
structure ActF (w0 w : World) (v : Value) (g cf : Nat) (fr : Int) (F : List Nat) (k : Nat) (l : List ActC) : Prop where
  row : w.ownsRow w0.heap.size 43 3 v l.length (cellsA l)
  fst : l.map Prod.fst = actsK fr F k
  data : ∀ y ∈ l, ∃ i, i < k ∧ y.2 = .slice (some ⟨g, i * 128, none⟩) 128 (cf - i * 128) ∧ y.1.2.2 = secAt F i
  bel : Below w0.heap.size w0 w
theorem ActF.len {w0 w : World} {v : Value} {g cf : Nat} {fr : Int} {F : List Nat} {k : Nat} {l : List ActC} (h : ActF w0 w v g cf fr F k l) : l.length = k := by
  have := congrArg List.length h.fst
  unfold actsK at this
  simpa using this
theorem rl_drew {w : World} {g : Nat} {o : Option Obj} (h : w.heap[g]? = o) : w.drew.heap[g]? = o := h
theorem slice_sec (g L cf lo hi : Nat) (h2 : hi ≤ cf) (h3 : hi = lo + 128) : ∀ w, (Instr.slice 22 (.slice (some ⟨g, 0, none⟩) L cf) (some (.int .i64 (lo : Int))) (some (.int .i64 (hi : Int))) none).run Try.prog w = .ok (.slice (some ⟨g, lo, none⟩) 128 (cf - lo)) w := by
  intro w
  rw [run_slice_lh w 22 (some ⟨g, 0, none⟩) L cf (by kernel_rfl) .i64 .i64 lo hi (by omega) (by omega) (by omega)]
  have hs : (sizeOf (Try.prog.elem 22)).run Try.prog w = .ok 1 w := by kernel_rfl
  rw [hs]
  show Result.ok (Value.slice (if cf = lo then some ⟨g, 0, none⟩ else (some (⟨g, 0, none⟩ : Addr)).map (·.add (lo * 1))) (hi - lo) (cf - lo)) w = _
  rw [if_neg (by omega), Option.map_some, add_plain, Nat.mul_one, Nat.zero_add, show hi - lo = 128 by omega]
theorem own_neA {w : World} {base n s : Nat} {e : TypeId} {v : Value} {xs : List Value} (h : w.ownsRow base e s v n xs) {B : Nat} {C : Array Value} {t : TypeId} {fr : Nat × Nat} (hB : w.heap[B]? = some (.cells C t fr)) (ht : t ≠ e) : v.ownBlock ≠ some B := by
  intro e
  rcases h.2 with ⟨hv, _⟩ | ⟨g, cap, cur, hv, _, hgg, _⟩
  · rw [hv] at e; cases e
  · rw [hv] at e
    simp only [Value.ownBlock, Option.some.injEq] at e
    subst e
    rw [hB] at hgg
    simp only [Option.some.injEq, Obj.cells.injEq] at hgg
    exact ht hgg.2.1
def SaltPost (w : World) (fits : Bool) (L : Acts) (e : Ending) (w' : World) : Prop :=
  (fits = true → ∃ q m, e = .returned (.tuple #[.slice q L.length m, .int .i64 0]) ∧ ActsIn w' q L ∧ L.length ≤ m) ∧ (fits = false → e = .returned (.tuple #[.slice none 0 0, .int .i64 30])) ∧ Below w.heap.size w w'
set_option maxRecDepth 8000 in
set_option maxHeartbeats 4000000 in
theorem rAdd_go (v : Value) (x : ByteArray) (count : Int) (data : List Nat) (ws : Puts) (w : World) (hd : DiskIn w v count data ws) (h : HasLog count data ws) (E : Nat) (hE : epochN (logN data ws) = E) (hE0 : E ≠ 0) (l0 : List (List Nat)) (a0 la0 : Nat) (t0 : List Nat) (hrec : Recs E 0 ((logN data ws).drop 128) l0 a0 la0 t0) (hx : (x.size : Int) ≤ 4096) (hfit : a0 + needsN x.size ≤ 63) (S : Nat) (hS : mostS E t0 (63 - a0) + 1 = S) (hTB : ∀ k, mostS E t0 k < 4294967296) :
    Calls Try.prog 27 #[v, .string x] w fun e w' => SaltPost w (decide (S < 4294967296)) (actsK ((17 + a0 : Nat) : Int) (frameN E S la0 (numsOf x)) (needsN x.size)) e w' := by
  obtain ⟨p, c, q, m, rfl, _⟩ := hd.parts
  have HD : Hid (DiskIn w (.agg #[.int .i64 count, .slice p data.length c, .slice q ws.length m]) count data ws ∧ HasLog count data ws ∧ epochN (logN data ws) = E ∧ E ≠ 0) := ⟨hd, h, hE, hE0⟩
  have HR0 : Hid (Recs E 0 ((logN data ws).drop 128) l0 a0 la0 t0) := hrec
  have hE32 : E < 4294967296 := hE ▸ epochN_lt _
  have hfacts := hrec.facts (n := 63) (by rw [List.length_drop, log_len h]) (by omega)
  have ha63 : (a0 : Int) ≤ 63 := by have := hfacts.1; omega
  have hc80 : ¬ count < 80 := by have := h.big; omega
  have HF : Hid (t0 = ((logN data ws).drop 128).drop (a0 * 128) ∧ la0 < 4294967296 ∧ a0 ≤ 63) := ⟨hfacts.2.1, hfacts.2.2, hfacts.1⟩
  have HTB : Hid (∀ k, mostS E t0 k < 4294967296) := hTB
  obtain ⟨nd, hnd⟩ : ∃ nd, needsN x.size = nd := ⟨_, rfl⟩
  rw [hnd] at hfit
  have HND : Hid (needsN x.size = nd ∧ x.size ≤ 4096 ∧ a0 + nd ≤ 63 ∧ mostS E t0 (63 - a0) + 1 = S) := ⟨hnd, by omega, hfit, hS⟩
  have hndI : (a0 : Int) + (nd : Int) ≤ 63 := by omega
  have hnd0 : (0 : Int) ≤ (nd : Int) := by omega
  rw [hnd]
  clear hd h hE hE0 hrec hfacts hnd hfit hS hTB
  go_enter Try.func27, Try.ntmps27
  go_wp2_with fail
  refine (rOf_ok _ count data ws _ (HD.out.1.below (below_alloc w _)) HD.out.2.1 E HD.out.2.2.1 HD.out.2.2.2).mono ?_
  rintro e w1 ⟨rv, l, a, la, t, rfl, hrec1, hown, hb1⟩
  obtain ⟨rfl, rfl, rfl, rfl⟩ := HR0.out.only hE32 (by omega) hrec1
  obtain ⟨rq, rm, rfl, _, _, _⟩ := own_form hown
  have HB1 : Hid (Below w.heap.size w w1) := below_bt (below_alloc w _) hb1
  have HY : Hid (w1.heap[w.heap.size]? = some (.cells #[.int .i64 count, .slice p data.length c, .slice q ws.length m] 25 (0, 0))) := (hb1.block _ (by simp)).trans (heap_alloc_new w _)
  obtain ⟨n, hn⟩ : ∃ n, l0.length = n := ⟨_, rfl⟩
  rw [hn]
  clear hb1 hrec1 hown hn HR0
  have HC : Hid ((w1.alloc (.cells #[.int .u32 E, .slice rq n rm, .int .i64 a0, .int .u32 la0] 107)).heap[w1.heap.size]? = some (.cells #[.int .u32 E, .slice rq n rm, .int .i64 a0, .int .u32 la0] 107 (0, 0))) := heap_alloc_new _ _
  have HY2 : Hid ((w1.alloc (.cells #[.int .u32 E, .slice rq n rm, .int .i64 a0, .int .u32 la0] 107)).heap[w.heap.size]? = some (.cells #[.int .i64 count, .slice p data.length c, .slice q ws.length m] 25 (0, 0)) ∧ Below w.heap.size w (w1.alloc (.cells #[.int .u32 E, .slice rq n rm, .int .i64 a0, .int .u32 la0] 107))) := ⟨block_below HY.out (below_alloc _ _), below_bt HB1.out (below_alloc _ _)⟩
  go_wp2
  go_quiet ((go_at_call 50; exact Calls.quiet_of_same (rneeds_any x.size nd _ (by have := HND.out; omega) HND.out.1)))
  obtain ⟨W, hW⟩ : ∃ W, W = (w1.alloc (.cells #[.int .u32 E, .slice rq n rm, .int .i64 a0, .int .u32 la0] 107)).drewN nq := ⟨_, rfl⟩
  rw [← hW]
  obtain ⟨g, hg⟩ : ∃ g, w1.heap.size = g := ⟨_, rfl⟩
  have HW : Hid (W.heap[g]? = some (.cells #[.int .u32 E, .slice rq n rm, .int .i64 a0, .int .u32 la0] 107 (0, 0)) ∧ W.heap[w.heap.size]? = some (.cells #[.int .i64 count, .slice p data.length c, .slice q ws.length m] 25 (0, 0)) ∧ Below w.heap.size w W) := by
    rw [hW, ← hg]
    exact ⟨HC.out, HY2.out.1, below_bt HY2.out.2 (below_dr _ _)⟩
  rw [hg]
  clear hW hg HC HY2 HY HB1
  obtain ⟨r0, r1, r2, r3⟩ := fourC HW.out.1
  have k17 : IntKind.i64.wrap (17 + (a0 : Int)) = ((17 + a0 : Nat) : Int) := by rw [IntKind.wrap_i64]; omega
  go_wp2
  clear r0 r1 r2 r3
  go_loopw [8, 9] (fun s i wr => ∃ k : Nat, a0 + k ≤ 63 ∧ i = .int .i64 ((17 + a0 + k : Nat) : Int) ∧ s = .int .u64 (mostS E t0 k : Nat) ∧ Hid (Below W.heap.size W wr)) (fun _ i _ => 80 - (intOf i).toNat)
  case atStart => exact ⟨0, by have := HF.out.2.2; omega, rfl, rfl, Below.refl _ _⟩
  case round =>
    obtain ⟨k, hk, rfl, rfl, HR⟩ := hrel
    have HXR := block_below HW.out.2.1 HR.out
    have HCR := block_below HW.out.1 HR.out
    obtain ⟨d0, d1, d2, _⟩ := box3 HXR
    obtain ⟨r0, r1, r2, r3⟩ := fourC HCR
    have HCR' : Hid (wr.heap[g]? = some (.cells #[.int .u32 E, .slice rq n rm, .int .i64 a0, .int .u32 la0] 107 (0, 0))) := HCR
    clear HXR HCR
    by_cases hk63 : a0 + k < 63
    · have hkI : ((17 + a0 + k : Nat) : Int) < 80 := by omega
      have HK : Hid (a0 + k < 63) := hk63
      clear hk63
      obtain ⟨j, hj⟩ : ∃ j, 17 + a0 + k = j := ⟨_, rfl⟩
      have HJ : Hid (17 + a0 + k = j) := hj
      rw [hj] at hkI ⊢
      clear hj
      obtain ⟨A, hA⟩ : ∃ A, mostS E t0 k = A := ⟨_, rfl⟩
      rw [hA]
      have HA : Hid (mostS E t0 k = A ∧ A < 4294967296) := ⟨hA, hA ▸ HTB.out k⟩
      clear hA
      go_wp2_with fail
      refine (rnow_any _ j count data ws _ (HD.out.1.below (below_bt HW.out.2.2 HR.out)) HD.out.2.1.ok (by omega)).mono ?_
      rintro e w3 ⟨⟨v3, rfl, hrow⟩, hb3⟩
      have hl3 : (nowN data ws j).length = 128 := nowN_len HD.out.2.1.ok (by omega)
      obtain ⟨ys, hys⟩ : ∃ ys, nowN data ws j = ys := ⟨_, rfl⟩
      rw [hys] at hrow hl3
      obtain ⟨p3, c3, rfl, hbi, hc3, hc4, _⟩ := hrow.form
      rw [hl3]
      have HYS : Hid (numAt ys 0 = numAt t0 (k * 128) ∧ numAt ys 4 = numAt t0 (k * 128 + 4) ∧ numAt ys 8 = numAt t0 (k * 128 + 8)) := by
        have h1 : secAt (logN data ws) (a0 + k + 1) = nowN data ws ((16 + (a0 + k + 1) : Nat) : Int) := sec_logK (now_len HD.out.2.1) (by have := HK.out; omega)
        rw [show 16 + (a0 + k + 1) = j by have := HJ.out; omega, hys] at h1
        have h2 : secAt t0 k = ys := by rw [HF.out.1, secAt_drop, secAt_drop1]; exact h1
        obtain ⟨e0, e4, e8⟩ := num_of_sec h2
        exact ⟨e0.symm, e4.symm, e8.symm⟩
      obtain ⟨b3, o3, rfl⟩ := hbi.addr (by omega)
      obtain ⟨N0, hN0⟩ : ∃ N, numAt ys 0 = N := ⟨_, rfl⟩
      obtain ⟨N4, hN4⟩ : ∃ N, numAt ys 4 = N := ⟨_, rfl⟩
      obtain ⟨N8, hN8⟩ : ∃ N, numAt ys 8 = N := ⟨_, rfl⟩
      have HNN : Hid (N4 < 4294967296 ∧ N8 < 4294967296) := by
        have hy256 := hbi.2
        exact ⟨hN4 ▸ numAt_lt hy256 4, hN8 ▸ numAt_lt hy256 8⟩
      have HM1 : Hid (mostS E t0 (k + 1) = if N0 = E then max A (max N4 N8) else A) := by
        show (if _ then _ else _) = _
        rw [← HYS.out.1, ← HYS.out.2.1, ← HYS.out.2.2, hN0, hN4, hN8, HA.out.1]
      have HNUM0 : Hid (∀ w', Below w3.heap.size w3 w' → Calls Try.prog 52 #[.slice (some ⟨b3, o3, none⟩) 128 c3] w' fun e w2 => e = .returned (.int .u32 (N0 : Nat)) ∧ Below w'.heap.size w' w2) := fun w' hb => by
        rw [← hN0]
        exact rnumber_any (some ⟨b3, o3, none⟩) ys 128 c3 w' hl3.symm (by omega) (hbi.below hb)
      have HNUM4 : Hid (∀ w', Below w3.heap.size w3 w' → Calls Try.prog 52 #[.slice (some ⟨b3, o3 + 4, none⟩) 124 (c3 - 4)] w' fun e w2 => e = .returned (.int .u32 (N4 : Nat)) ∧ Below w'.heap.size w' w2) := fun w' hb => by
        rw [← hN4, ← numAt_drop ys 4]
        exact rnumber_any (some ⟨b3, o3 + 4, none⟩) (ys.drop 4) 124 (c3 - 4) w' (by rw [List.length_drop, hl3]) (by rw [List.length_drop, hl3]; omega) ((hbi.below hb).drop' 4)
      have HNUM8 : Hid (∀ w', Below w3.heap.size w3 w' → Calls Try.prog 52 #[.slice (some ⟨b3, o3 + 8, none⟩) 120 (c3 - 8)] w' fun e w2 => e = .returned (.int .u32 (N8 : Nat)) ∧ Below w'.heap.size w' w2) := fun w' hb => by
        rw [← hN8, ← numAt_drop ys 8]
        exact rnumber_any (some ⟨b3, o3 + 8, none⟩) (ys.drop 8) 120 (c3 - 8) w' (by rw [List.length_drop, hl3]) (by rw [List.length_drop, hl3]; omega) ((hbi.below hb).drop' 8)
      have HB3 : Hid (Below wr.heap.size wr w3) := hb3
      have KS : Hid (∀ w', Below w3.heap.size w3 w' → w'.cell? ⟨g, 0, none⟩ = some (.int .u32 E) ∧ Below w3.heap.size w3 w') := fun w' hb => ⟨(fourC (block_below HCR'.out (below_bt HB3.out hb))).1, hb⟩
      have kw4 : IntKind.u64.wrap (N4 : Int) = N4 := by rw [IntKind.wrap_u64]; have := HNN.out; omega
      have kw8 : IntKind.u64.wrap (N8 : Int) = N8 := by rw [IntKind.wrap_u64]; have := HNN.out; omega
      have hc3I : (128 : Int) ≤ (c3 : Int) := by omega
      have hck4 : ¬ c3 = 4 := by omega
      have hck8 : ¬ c3 = 8 := by omega
      clear hrow hbi hb3 hc3 hc4 d0 d1 d2 hys hl3 hN0 hN4 hN8 r0 r1 r2 r3
      go_wp2
      go_region_held3 (fun w' => w'.cell? ⟨g, 0, none⟩ = some (.int .u32 E) ∧ Below w3.heap.size w3 w')
        (with_reducible first | exact KS.out _ HBa.out | exact KS.out _ (Below.refl _ _).drew | assumption)
        (first | (go_at_call 52; refine (HNUM0.out _ (Below.refl _ _).drew).mono ?_; rintro e w4 ⟨rfl, hb4⟩; have HBa : Hid (Below w3.heap.size w3 w4) := below_dw hb4; clear hb4) | fail)
      rename_i hh
      have HBE : Hid (Below w3.heap.size w3 w4) := hh.2
      clear hh
      by_cases hNE : N0 = E
      · have gE : ((N0 : Int) == (E : Int)) = true := by simp [hNE]
        have HM2 : Hid (mostS E t0 (k + 1) = max A (max N4 N8)) := by show _ = _; rw [HM1.out, if_pos hNE]
        clear hNE
        go_wp2
        go_region_held3 (fun w' => w'.cell? ⟨g, 0, none⟩ = some (.int .u32 E) ∧ Below w3.heap.size w3 w')
          (with_reducible first | exact KS.out _ HBc.out | exact KS.out _ HBb.out | exact KS.out _ (below_bt HBE.out (Below.refl _ _).drew) | assumption)
          (first
            | (go_at_call 52; have q1 := HBb.out; clear q1; refine (HNUM8.out _ HBb.out).mono ?_; rintro e w6 ⟨rfl, hb6⟩; have HBc : Hid (Below w3.heap.size w3 w6) := below_bt HBb.out hb6; clear hb6)
            | (go_at_call 52; refine (HNUM4.out _ (below_bt HBE.out (Below.refl _ _).drew)).mono ?_; rintro e w5 ⟨rfl, hb5⟩; have HBb : Hid (Below w3.heap.size w3 w5) := below_bt (below_bt HBE.out (Below.refl _ _).drew) hb5; clear hb5)
            | fail)
        rename_i hh
        have HBF : Hid (Below w3.heap.size w3 _) := hh.2
        clear hh
        go_wp2
        go_roundw
        case rel => exact ⟨k + 1, by have := HK.out; omega, by have := HJ.out; go_num, by rw [HM2.out]; congr 1; (repeat' split) <;> omega, below_bt HR.out (below_bt HB3.out HBF.out)⟩
        case measure => simp [intOf]; omega
      · have gE : ((N0 : Int) == (E : Int)) = false := by simp; omega
        have HM2 : Hid (mostS E t0 (k + 1) = A) := by show _ = _; rw [HM1.out, if_neg hNE]
        clear hNE
        go_wp2
        go_roundw
        case rel => exact ⟨k + 1, by have := HK.out; omega, by have := HJ.out; go_num, by rw [HM2.out], below_bt HR.out (below_bt HB3.out HBE.out)⟩
        case measure => simp [intOf]; omega
    · have hk2 : k = 63 - a0 := by have := HF.out.2.2; omega
      obtain ⟨A, hA⟩ : ∃ A, mostS E t0 k = A := ⟨_, rfl⟩
      rw [hA]
      have HA : Hid (A + 1 = S ∧ A < 4294967296) := ⟨by rw [← hA, hk2]; exact HND.out.2.2.2, hA ▸ HTB.out k⟩
      rw [show ((17 + a0 + k : Nat) : Int) = 80 by omega]
      have kws : IntKind.u64.wrap ((A : Int) + 1) = (S : Int) := by rw [IntKind.wrap_u64]; have := HA.out; omega
      have HWR : Hid (Below w.heap.size w wr) := below_bt HW.out.2.2 HR.out
      clear hk hk63 hk2 hA d0 d1 d2
      by_cases hS : S < 4294967296
      · have gS : decide ((4294967295 : Int) < (S : Int)) = false := decide_eq_false (by omega)
        have kS : IntKind.u32.wrap (S : Int) = S := by rw [IntKind.wrap_u32]; omega
        have HFR := rFrame_any E S la0 x wr hE32 hS HF.out.2.1 (by omega)
        have HFE : Hid (frameR E S la0 (numsOf x) = (frameN E S la0 (numsOf x), 0)) := by
          show _ = _
          unfold frameR
          rw [if_neg (by have := HA.out; have := HD.out.2.2.2; omega), if_neg (by rw [numsOf_len]; have := HND.out; omega)]
        obtain ⟨F, hF⟩ : ∃ F, frameN E S la0 (numsOf x) = F := ⟨_, rfl⟩
        have HFL : Hid (F.length = nd * 128 ∧ (∀ c ∈ F, c < 256) ∧ 0 < nd ∧ nd ≤ 63) := by
          refine ⟨by rw [← hF, frameN_len, numsOf_len, HND.out.1], by rw [← hF]; exact frameN_byte (numsOf_lt x), ?_, by have := HND.out.2.2.1; omega⟩
          rw [← HND.out.1]; unfold needsN; omega
        have HFIT : Hid (decide (S < 4294967296) = true) := decide_eq_true hS
        rw [hF] at HFE
        have HFQ : Hid (frameN E S la0 (numsOf x) = F) := hF
        obtain ⟨j0, ji, jz0, jz1, jz2⟩ := info_parts info_act
        clear hS hF
        go_wp2_with fail
        refine HFR.mono ?_
        rintro e w5 hfr
        obtain ⟨⟨vf, rfl, hof⟩, hbf⟩ := hfr
        rw [HFE.out] at hof ⊢
        simp only at hof ⊢
        rw [show ((0 : Nat) : Int) = 0 from rfl]
        obtain ⟨pf, cf, rfl, hcf1, hcf2, _⟩ := own_form hof
        have hbinF := own_in hof HFL.out.2.1
        obtain ⟨gf, curf, rfl, _⟩ : ∃ g cur, pf = some ⟨g, 0, none⟩ ∧ w5.heap[g]? = some (.cells cur 5 (0, 0)) := by
          rcases hof.2 with ⟨hv, h0⟩ | ⟨g, cap, cur, hv, hb, hg, _⟩
          · have := HFL.out; omega
          · simp only [Value.slice.injEq] at hv; exact ⟨g, cur, hv.1, hg⟩
        have HB5 : Hid (Below wr.heap.size wr w5 ∧ BIn w5 (some ⟨gf, 0, none⟩) F ∧ F.length ≤ cf ∧ cf ≤ maxLen) := ⟨hbf, hbinF, hcf1, hcf2⟩
        have HCR5 : Hid (w5.heap[g]? = some (.cells #[.int .u32 E, .slice rq n rm, .int .i64 a0, .int .u32 la0] 107 (0, 0))) := block_below HCR'.out hbf
        obtain ⟨L, hL⟩ : ∃ L, F.length = L := ⟨_, rfl⟩
        rw [hL]
        have HL : Hid (F.length = L) := hL
        obtain ⟨fr, hfr⟩ : ∃ fr : Nat, 17 + a0 = fr := ⟨_, rfl⟩
        have HFRr : Hid (17 + a0 = fr ∧ fr ≤ 80) := ⟨hfr, by omega⟩
        (try rw [hfr])
        (try rw [show ((17 + a0 : Nat) : Int) = (fr : Int) by rw [hfr]])
        have k18 : IntKind.i64.wrap (17 + (a0 : Int)) = (fr : Int) := by rw [IntKind.wrap_i64]; omega
        clear hof hbf hbinF hcf1 hcf2 r0 r1 r2 r3 HFR hL hfr k17
        go_wp2
        go_loopw [13, 14] (fun v i wq => ∃ (k : Nat) (l : List ActC), k ≤ nd ∧ i = .int .i64 k ∧ ActF w5 wq v gf cf (fr : Int) F k l) (fun _ i _ => nd - (intOf i).toNat)
        case atStart => exact ⟨0, [], by omega, rfl, ⟨World.ownsRow_nil _ _ _ _, rfl, fun y hy => absurd hy (by simp), Below.refl _ _⟩⟩
        case round =>
          obtain ⟨k, l, hk, rfl, haf⟩ := hrel
          obtain ⟨lq, lm, rfl, _, _, _⟩ := own_form haf.row
          have HAF : Hid (ActF w5 wr (.slice lq l.length lm) gf cf (fr : Int) F k l) := haf
          have HLL : Hid (l.length = k ∧ k ≤ 63) := ⟨haf.len, by have := HFL.out; omega⟩
          have HRB : Hid (wr.heap[g]? = some (.cells #[.int .u32 E, .slice rq n rm, .int .i64 a0, .int .u32 la0] 107 (0, 0))) := block_below HCR5.out haf.bel
          have KS : Hid (∀ w' : World, w'.heap[g]? = some (.cells #[.int .u32 E, .slice rq n rm, .int .i64 a0, .int .u32 la0] 107 (0, 0)) → w'.cell? ⟨g, 0, none⟩ = some (.int .u32 E) ∧ w'.cell? ⟨g, 2, none⟩ = some (.int .i64 (a0 : Int))) := fun w' h => ⟨(fourC h).1, (fourC h).2.2.1⟩
          by_cases hkn : k < nd
          · obtain ⟨kk, hkk⟩ : ∃ kk, k * 128 = kk := ⟨_, rfl⟩
            obtain ⟨k9, hk9⟩ : ∃ k9, kk + 128 = k9 := ⟨_, rfl⟩
            have hkL : kk + 128 ≤ L := by have := HFL.out.1; have := HL.out; omega
            have g1 : decide ((kk : Int) < (L : Int)) = true := decide_eq_true (by omega)
            have g1' : decide (kk < L) = true := decide_eq_true (by omega)
            have m1 : IntKind.i64.wrap ((k : Int) * 128) = (kk : Int) := by rw [IntKind.wrap_i64]; omega
            have m2 : IntKind.i64.wrap ((kk : Int) + 128) = (k9 : Int) := by rw [IntKind.wrap_i64]; omega
            have m3 : IntKind.i64.wrap ((fr : Int) + (k : Int)) = (fr : Int) + (k : Int) := by rw [IntKind.wrap_i64]; have := HFRr.out.2; omega
            have hsl := slice_sec gf L cf kk k9 (by have := HB5.out.2.2.1; have := HL.out; omega) (by omega)
            have HOWN : Hid ((wr.alloc (.cells #[.bool false, .int .i64 ((fr : Int) + (k : Int)), .slice (some ⟨gf, kk, none⟩) 128 (cf - kk)] 43)).drew.ownsRow w5.heap.size 43 3 (.slice lq l.length lm) l.length (cellsA l)) := own_below haf.row (below_alloc wr _).drew
            have HRB2 : Hid ((wr.alloc (.cells #[.bool false, .int .i64 ((fr : Int) + (k : Int)), .slice (some ⟨gf, kk, none⟩) 128 (cf - kk)] 43)).heap[g]? = some (.cells #[.int .u32 E, .slice rq n rm, .int .i64 a0, .int .u32 la0] 107 (0, 0))) := block_below HRB.out (below_alloc _ _)
            have hsz5 : w5.heap.size ≤ (wr.alloc (.cells #[.bool false, .int .i64 ((fr : Int) + (k : Int)), .slice (some ⟨gf, kk, none⟩) 128 (cf - kk)] 43)).drew.heap.size := by have := haf.bel.size; show _ ≤ (wr.alloc _).heap.size; rw [World.size_alloc]; omega
            have HKK : Hid (k * 128 = kk ∧ k < nd) := ⟨hkk, hkn⟩
            have HLM : Hid (l.length ≤ 63) := by have := HLL.out; show _ ≤ _; omega
            have hlmI : l.length ≤ 63 := HLM.out
            have hkb : (k : Int) ≤ 63 := by have := HLL.out.2; omega
            clear haf hkk hk9 hkn hkL hk hlmI
            go_wp2
            go_region_held3 (fun w' => w'.cell? ⟨g, 0, none⟩ = some (.int .u32 E) ∧ w'.cell? ⟨g, 2, none⟩ = some (.int .i64 (a0 : Int)))
              (with_reducible first | exact KS.out _ (rl_drew HRB.out) | exact KS.out _ (rl_drew HRB2.out) | exact KS.out _ HRB3.out | assumption)
              (first
                | (refine step_append_lies _ (by rfl) (.tmp 80) (.tmp 95) 32 (by rfl) w5.heap.size 43 j0 _ 3 40 Try.underlying32 ji jz0 jz1 jz2 rfl (by omega) (.slice lq l.length lm) l.length (cellsA l) (by rfl) HOWN.out ⟨wr.heap.size, 0, none⟩ 1 1 [.bool false, .int .i64 ((fr : Int) + (k : Int)), .slice (some ⟨gf, kk, none⟩) 128 (cf - kk)] (by rfl) (by rfl) (World.news_of_block (cs := #[.bool false, .int .i64 ((fr : Int) + (k : Int)), .slice (some ⟨gf, kk, none⟩) 128 (cf - kk)]) (t := 43) (fr := (0, 0)) (heap_alloc_new wr _)) (act_one _ _ _ _ _) (by omega) (by have := HLM.out; unfold maxLen; omega) (by have := HLM.out; omega) hsz5 (wr.heap.size + 1) (by simp) ?_; intro g' cap' w3 hown3 hgrow hat hlt; have HRB3 : Hid (w3.heap[g]? = some (.cells #[.int .u32 E, .slice rq n rm, .int .i64 a0, .int .u32 la0] 107 (0, 0))) := (hgrow.block _ (lt_heap HRB2.out) (fun e => own_neA HOWN.out HRB2.out (by decide) e.symm)).trans HRB2.out)
                | fail)
            rename_i hh
            clear hh
            have HNW : Hid (ActF w5 w3 (.slice (some ⟨g', 0, none⟩) (l.length + 1) cap') gf cf (fr : Int) F (k + 1) (l ++ [((false, (fr : Int) + (k : Int), secAt F k), .slice (some ⟨gf, kk, none⟩) 128 (cf - kk))])) := by
              refine ⟨by rw [cellsA_snoc, List.length_append]; exact hown3, by rw [List.map_append, HAF.out.fst, actsK_snoc]; rfl, fun y hy => ?_, ?_⟩
              · rcases List.mem_append.1 hy with hy | hy
                · obtain ⟨i, h1, h2⟩ := HAF.out.data y hy
                  exact ⟨i, by omega, h2⟩
                · rw [List.mem_singleton.1 hy]
                  exact ⟨k, by omega, by rw [HKK.out.1], rfl⟩
              · exact (below_bt HAF.out.bel (below_alloc wr _).drew).grown hgrow hsz5 (fun k hk => (World.ownsRow.lt HOWN.out k hk).1)
            clear hown3 hgrow hat hlt
            go_wp2
            go_roundw
            case rel => exact ⟨k + 1, _, by have := HKK.out; omega, by go_num, HNW.out⟩
            case measure => have := HKK.out; simp [intOf]; omega
          · have hkd : k = nd := by omega
            subst hkd
            have m1 : IntKind.i64.wrap ((k : Int) * 128) = (L : Int) := by rw [IntKind.wrap_i64]; have := HFL.out; have := HL.out; omega
            have HPO : Hid (∃ q m, Value.slice lq l.length lm = .slice q (actsK (fr : Int) F k).length m ∧ ActsIn wr q (actsK (fr : Int) F k) ∧ (actsK (fr : Int) F k).length ≤ m) := by
              obtain ⟨h1, h2, h3, _⟩ := acts_lies HAF.out.row (fun y hy => by
                obtain ⟨i, hi, e1, e2⟩ := HAF.out.data y hy
                rw [e1, e2]
                have hb := sec_in (k := i) (HB5.out.2.1.below HAF.out.bel)
                rw [Nat.zero_add] at hb
                have hsl : (secAt F i).length = 128 := secAt_len (by rw [HFL.out.1]; have : (i + 1) * 128 ≤ k * 128 := Nat.mul_le_mul_right 128 hi; exact this)
                refine ⟨_, cf - i * 128, by rw [hsl], hb, ?_, by have := HB5.out.2.2.2; omega, fun h => by cases h⟩
                rw [hsl]
                have := HB5.out.2.2.1
                have : (i + 1) * 128 ≤ k * 128 := Nat.mul_le_mul_right 128 hi
                have := HFL.out.1
                omega)
              rw [HAF.out.fst] at h2
              have hlen : (actsK (fr : Int) F k).length = l.length := by rw [← HAF.out.fst, List.length_map]
              exact ⟨lq, lm, by rw [hlen], h2, by rw [hlen]; exact h3⟩
            have g1 : decide ((L : Int) < (L : Int)) = false := decide_eq_false (by omega)
            have HBL : Hid (Below w.heap.size w wr) := below_bt (below_bt HWR.out HB5.out.1) HAF.out.bel
            clear haf hkn hk
            go_wp2
            go_ret2
            obtain ⟨q', m', e1, e2, e3⟩ := HPO.out
            refine ⟨fun _ => ⟨q', m', ?_, by rw [HFQ.out, show ((17 + a0 : Nat) : Int) = (fr : Int) by rw [HFRr.out.1]]; exact e2, by rw [HFQ.out, show ((17 + a0 : Nat) : Int) = (fr : Int) by rw [HFRr.out.1]]; exact e3⟩, fun h => absurd h (by rw [HFIT.out]; simp), HBL.out⟩
            rw [HFQ.out, show ((17 + a0 : Nat) : Int) = (fr : Int) by rw [HFRr.out.1], ← e1]
            rfl
      · have gS : decide ((4294967295 : Int) < (S : Int)) = true := decide_eq_true (by omega)
        have HFIT : Hid (decide (S < 4294967296) = false) := decide_eq_false hS
        have hA2 : A = 4294967295 := by have := HA.out; omega
        subst hA2
        clear hS gS kws
        go_wp2
        go_ret2
        exact ⟨fun h => absurd h (by rw [HFIT.out]; simp), fun _ => rfl, HWR.out⟩
end Go.Proofs.Ytnajjfdbmdjcbaa
namespace Go.Proofs.Ytnajjfdbmdjcbaa
open Go.RowKit Go.WideShapes

theorem head_step {P : List Nat} (hP : P.length = 8) {k : Nat} (hk : k < 8) : (P.take k ++ List.replicate (128 - k) 0).set k (P.getD k 0) = P.take (k + 1) ++ List.replicate (128 - (k + 1)) 0 := by
  rw [List.set_append_right _ _ (by rw [List.length_take]; omega), List.length_take, show k - min k P.length = 0 by omega, show 128 - k = (128 - (k + 1)) + 1 by omega, List.replicate_succ, List.set_cons_zero, List.take_succ_eq_append_getElem (by omega), List.append_assoc, List.getD_eq_getElem?_getD, List.getElem?_eq_getElem (by omega)]
  rfl
set_option maxRecDepth 8000 in
set_option maxHeartbeats 1000000 in
theorem rClear_ok (v : Value) (count : Int) (data : List Nat) (ws : Puts) (w : World) (hd : DiskIn w v count data ws) (hl : HasLog count data ws) (M : Nat) (hM' : mostE (logN data ws) 63 + 1 = M) (hM : M < 4294967296) (hM2 : ∀ k, mostE (logN data ws) k < 4294967296) :
    Calls Try.prog 28 #[v] w fun e w' => ∃ v l, e = .returned (.tuple #[v, .int .i64 0]) ∧ AOwn w' w.heap.size v l ∧ l.map Prod.fst = clearActs M ∧ Below w.heap.size w w' := by
  obtain ⟨p, c, q, m, rfl, _⟩ := hd.parts
  have HD : Hid (DiskIn w (.agg #[.int .i64 count, .slice p data.length c, .slice q ws.length m]) count data ws ∧ HasLog count data ws ∧ (mostE (logN data ws) 63 + 1 = M ∧ M < 4294967296) ∧ ∀ k, mostE (logN data ws) k < 4294967296) := ⟨hd, hl, ⟨hM', hM⟩, hM2⟩
  obtain ⟨i0, hi, hz0, hz1, hz2⟩ := info_parts info5
  have hc80 : ¬ count < 80 := by have := hl.big; omega
  have hok := hl.ok
  clear hd hl hM hM2 hM'
  go_enter Try.func28, Try.ntmps28
  go_wp2_with fail
  refine (rcheck_any _ count data ws _ (HD.out.1.below (below_alloc w _))).mono ?_
  rintro e w1 ⟨rfl, hb1⟩
  rw [errC_ok hok]
  have HB1 : Hid (Below w.heap.size w w1) := below_bt (below_alloc w _) hb1
  have HY : Hid (w1.heap[w.heap.size]? = some (.cells #[.int .i64 count, .slice p data.length c, .slice q ws.length m] 25 (0, 0))) := (hb1.block _ (by simp)).trans (heap_alloc_new w _)
  obtain ⟨d0, d1, d2, _⟩ := box3 HY.out
  clear hb1 hok
  go_wp2_with fail
  refine (rhead_any _ count data ws _ (HD.out.1.below HB1.out) HD.out.2.1 _ rfl).mono ?_
  rintro e w2 ⟨rfl, hb2⟩
  have HB2 : Hid (Below w1.heap.size w1 w2) := hb2
  obtain ⟨M0, hM0⟩ : ∃ M0, epochN (logN data ws) = M0 := ⟨_, rfl⟩
  rw [hM0]
  have HM0 : Hid (mostE (logN data ws) 0 = M0 ∧ M0 < 4294967296) := ⟨hM0, hM0 ▸ epochN_lt _⟩
  have kw : IntKind.u64.wrap (M0 : Int) = M0 := by rw [IntKind.wrap_u64]; have := HM0.out.2; omega
  clear hb2 hM0 d0 d1 d2
  go_wp2
  go_loopw [5, 6] (fun s i wr => ∃ k : Nat, k ≤ 63 ∧ i = .int .i64 ((17 + k : Nat) : Int) ∧ s = .int .u64 (mostE (logN data ws) k : Nat) ∧ Hid (Below w1.heap.size w1 wr)) (fun _ i _ => 80 - (intOf i).toNat)
  case atStart => exact ⟨0, by omega, rfl, by rw [HM0.out.1], HB2.out⟩
  case round =>
    obtain ⟨k, hk, rfl, rfl, HR⟩ := hrel
    have HXR : Hid (wr.heap[w.heap.size]? = some (.cells #[.int .i64 count, .slice p data.length c, .slice q ws.length m] 25 (0, 0))) := (HR.out.block _ (lt_heap HY.out)).trans HY.out
    obtain ⟨d0, d1, d2, _⟩ := box3 HXR.out
    by_cases hk63 : k < 63
    · have hkI : ((17 + k : Nat) : Int) < 80 := by omega
      have HK : Hid (k < 63) := hk63
      clear hk63
      obtain ⟨j, hj⟩ : ∃ j, 17 + k = j := ⟨_, rfl⟩
      have HJ : Hid (17 + k = j) := hj
      rw [hj] at hkI ⊢
      clear hj
      obtain ⟨A, hA⟩ : ∃ A, mostE (logN data ws) k = A := ⟨_, rfl⟩
      rw [hA]
      have HA : Hid (mostE (logN data ws) k = A ∧ A < 4294967296) := ⟨hA, hA ▸ HD.out.2.2.2 k⟩
      clear hA
      go_wp2_with fail
      refine (rnow_any _ j count data ws _ (HD.out.1.below (below_bt HB1.out HR.out)) HD.out.2.1.ok (by omega)).mono ?_
      rintro e w3 ⟨⟨v3, rfl, hrow⟩, hb3⟩
      have hl3 : (nowN data ws j).length = 128 := nowN_len HD.out.2.1.ok (by omega)
      obtain ⟨ys, hys⟩ : ∃ ys, nowN data ws j = ys := ⟨_, rfl⟩
      rw [hys] at hrow hl3
      obtain ⟨p3, c3, rfl, hbi, hc3, hc4, _⟩ := hrow.form
      rw [hl3]
      have HYS : Hid (numAt ys 0 = numAt (logN data ws) ((k + 1) * 128)) := by
        have h1 : secAt (logN data ws) (k + 1) = nowN data ws ((16 + (k + 1) : Nat) : Int) := sec_logK (now_len HD.out.2.1) (by have := HK.out; omega)
        rw [show 16 + (k + 1) = j by have := HJ.out; omega, hys] at h1
        exact (num_of_sec h1).1.symm
      obtain ⟨N3, hN3⟩ : ∃ N3, numAt ys 0 = N3 := ⟨_, rfl⟩
      have HNUM : Hid (Calls Try.prog 52 #[.slice p3 128 c3] w3 fun e w' => e = .returned (.int .u32 (N3 : Nat)) ∧ Below w3.heap.size w3 w') := by
        rw [← hN3]
        exact rnumber_any p3 ys 128 c3 w3 hl3.symm (by omega) hbi
      have HMX : Hid (mostE (logN data ws) (k + 1) = max A N3 ∧ N3 < 4294967296) := by
        have h1 : mostE (logN data ws) (k + 1) = max A N3 := by show max _ _ = _; rw [HA.out.1, ← HYS.out, hN3]
        have h2 := HD.out.2.2.2 (k + 1)
        rw [h1] at h2
        exact ⟨h1, by omega⟩
      have HB3 : Hid (Below wr.heap.size wr w3) := hb3
      have kw3 : IntKind.u64.wrap (N3 : Int) = N3 := by rw [IntKind.wrap_u64]; have := HMX.out.2; omega
      clear hrow hbi hb3 hc3 hc4 d0 d1 d2 hys hl3 hN3
      go_wp2_with fail
      refine HNUM.out.mono ?_
      rintro e w4 ⟨rfl, hb4⟩
      have HB4 : Hid (Below w1.heap.size w1 w4) := below_bt (below_bt HR.out HB3.out) hb4
      clear hb4 HNUM
      by_cases hlt : (A : Int) < (N3 : Int)
      · go_wp2
        go_roundw
        case rel => exact ⟨k + 1, by have := HK.out; omega, by have := HJ.out; go_num, by rw [HMX.out.1, Nat.max_eq_right (by omega)], HB4.out⟩
        case measure => simp [intOf]; omega
      · go_wp2
        go_roundw
        case rel => exact ⟨k + 1, by have := HK.out; omega, by have := HJ.out; go_num, by rw [HMX.out.1, Nat.max_eq_left (by omega)], HB4.out⟩
        case measure => simp [intOf]; omega
    · obtain rfl : k = 63 := by omega
      obtain ⟨A, hA⟩ : ∃ A, mostE (logN data ws) 63 = A := ⟨_, rfl⟩
      rw [hA, show ((17 + 63 : Nat) : Int) = 80 from rfl]
      have HM : Hid (A + 1 = M ∧ M < 4294967296) := by have h1 := HD.out.2.2.1; rw [hA] at h1; exact h1
      have ka : IntKind.u64.wrap ((A : Int) + 1) = (M : Int) := by rw [IntKind.wrap_u64]; have := HM.out; omega
      have g1 : decide ((4294967295 : Int) < (M : Int)) = false := decide_eq_false (by have := HM.out; omega)
      clear hA hk63 hk kw
      go_wp2_with (at_make; refine wpList_make_full _ rfl _ _ 22 rfl wr.heap.size 5 i0 (.int .u8 0) 1 Try.underlying22 hi hz0 hz1 .i64 .i64 _ _ 128 rfl rfl rfl rfl (by rw [hz2]; decide) (by decide) (by simp) ?_)
      intro w5 hown5 hgrow5
      have hb5 : Below wr.heap.size wr w5 := (Below.refl _ _).grown hgrow5 (Nat.le_refl _) (fun k hk => by cases hk)
      have hrow := row_full' hown5
      rw [zeros_made] at hrow
      have HR5 : Hid (w5.heap[wr.heap.size]? = some (.cells (Bs (List.replicate 128 0)).toArray 5 (0, 0))) := hrow
      have HB5 : Hid (Below wr.heap.size wr w5) := hb5
      clear hown5 hgrow5 hrow hb5 d0 d1 d2
      go_wp2_with fail
      refine (refPut_any M _ (by have := HM.out; omega)).mono ?_
      rintro e w6 ⟨v6, rfl, hown6, hb6⟩
      have hpl : 8 = (putN M).length := by simp [putN]
      obtain ⟨b6, c6, A6, rfl, hbg, hc6, _, hblk6, hbin6⟩ := own_row5 hown6 (by omega) hpl (putN_bytes M (by have := HM.out; omega))
      have HBN : Hid (∀ w' : World, w'.heap[b6]? = some (.cells A6 5 (0, 0)) → BIn w' (some ⟨b6, 0, none⟩) (putN M)) := hbin6
      have HNE : Hid (b6 ≠ wr.heap.size) := by have := lt_heap HR5.out; show _ ≠ _; omega
      have HK6 : Hid (w6.heap[b6]? = some (.cells A6 5 (0, 0))) := hblk6
      have HR6 : Hid (w6.heap[wr.heap.size]? = some (.cells (Bs (List.replicate 128 0)).toArray 5 (0, 0))) := (hb6.block _ (lt_heap HR5.out)).trans HR5.out
      have HB6 : Hid (Below wr.heap.size wr w6) := below_bt HB5.out hb6
      have HPL : Hid (8 = (putN M).length ∧ ∀ c ∈ putN M, c < 256) := ⟨hpl, putN_bytes M (by have := HM.out; omega)⟩
      have HBW : Hid (Below w.heap.size w wr) := below_bt HB1.out HR.out
      obtain ⟨wo, hwo⟩ : ∃ wo, wo = wr := ⟨_, rfl⟩
      subst hwo
      obtain ⟨gb, hgb⟩ : ∃ gb, wo.heap.size = gb := ⟨_, rfl⟩
      have HGB : Hid (wo.heap.size = gb) := hgb
      rw [hgb] at HNE HR6 ⊢
      clear hown6 hb6 hpl hbg hblk6 hbin6 hgb HR5 HB5
      go_wp2
      go_loopw [40] (fun i wz => ∃ k : Nat, k ≤ 8 ∧ i = .int .i64 k ∧ Hid (wz.heap[gb]? = some (.cells (Bs ((putN M).take k ++ List.replicate (128 - k) 0)).toArray 5 (0, 0))) ∧ Hid (wz.heap[b6]? = some (.cells A6 5 (0, 0))) ∧ Hid (Below wo.heap.size wo wz)) (fun i _ => 8 - (intOf i).toNat)
      case atStart => exact ⟨0, by omega, rfl, HR6.out, HK6.out, HB6.out⟩
      case round =>
        obtain ⟨k, hk8, rfl, HG1, HG2, HG3⟩ := hrel
        by_cases hk : k < 8
        · have hkI : (k : Int) < 8 := by omega
          obtain ⟨x, hx⟩ : ∃ x, (putN M).getD k 0 = x := ⟨_, rfl⟩
          have x0 := (HBN.out _ HG2.out).cell k (by have := HPL.out.1; omega)
          rw [hx, Nat.zero_add] at x0
          have hby : ∀ c ∈ (putN M).take k ++ List.replicate (128 - k) 0, c < 256 := fun c hc => by
            rcases List.mem_append.1 hc with h1 | h1
            · exact HPL.out.2 c (List.mem_of_mem_take h1)
            · rw [(List.mem_replicate.1 h1).2]; omega
          have x1 := (bin_row HG1.out hby).cell k (by rw [List.length_append, List.length_take, List.length_replicate]; omega)
          rw [Nat.zero_add] at x1
          obtain ⟨x2, hx2⟩ : ∃ x2, ((putN M).take k ++ List.replicate (128 - k) 0).getD k 0 = x2 := ⟨_, rfl⟩
          rw [hx2] at x1
          have x3 : wr.frozen? ⟨gb, k, none⟩ = false := frozen_of_row _ _ _ _ _ HG1.out
          have HX : Hid ((putN M).getD k 0 = x ∧ k < 8) := ⟨hx, hk⟩
          clear hx hx2 hby
          go_wp2
          go_roundw
          case rel =>
            refine ⟨k + 1, by omega, by go_num, ?_, ?_, ?_⟩
            · show _ = _
              rw [← head_step HPL.out.1.symm HX.out.2, HX.out.1, ← Bs_set]
              exact block_set HG1.out _
            · exact (Below.heap_setCell _ ⟨gb, k, none⟩ _ b6 HNE.out).trans HG2.out
            · exact HG3.out.setCell (by show wo.heap.size ≤ gb; rw [HGB.out]; exact Nat.le_refl _) _
          case measure => simp [intOf]; omega
        · obtain rfl : k = 8 := by omega
          have HG4 : Hid (wr.heap[gb]? = some (.cells (Bs (headL M)).toArray 5 (0, 0))) := by
            have h1 := HG1.out
            rw [List.take_of_length_le (by have := HPL.out.1; omega)] at h1
            exact h1
          have HW9 : Hid (Below w.heap.size w wr) := below_bt HBW.out HG3.out
          have hgw : w.heap.size ≤ gb := by rw [← HGB.out]; exact HBW.out.size
          have hbyt := headL_byte (M := M) (by have := HM.out; omega)
          clear HG1 HG2 HG3 HBN HK6 HR6 HB6
          go_wp2
          go_ret2
          refine ⟨_, [((false, 16, headL M), .slice (some ⟨gb, 0, none⟩) 128 128), ((true, 0, []), .slice none 0 0)], rfl, ⟨⟨rfl, .inr ⟨wr.heap.size, 2, _, rfl, HW9.out.size, heap_alloc_new _ _, Nat.le_refl 2, by decide, rfl, rfl⟩⟩, fun y hy => ?_⟩, rfl, below_bt HW9.out (below_alloc _ _)⟩
          simp only [List.mem_cons, List.not_mem_nil, or_false] at hy
          rcases hy with rfl | rfl
          · exact .inr ⟨gb, rfl, hgw, ((below_alloc wr _).block _ (lt_heap HG4.out)).trans HG4.out, headL_len M, hbyt⟩
          · exact .inl ⟨rfl, rfl⟩
end Go.Proofs.Ytnajjfdbmdjcbaa
namespace Go.Proofs.Ytnajjfdbmdjcbaa
open Go.RowKit Go.WideShapes

/-- What Add answers where there is a log. -/
structure AddOut (E S a la : Nat) (r : ByteArray) (w w' : World) (v : Value) (f : Int) : Prop where
  lies : (f = 0 ∧ r.size ≤ 4096 ∧ needsN r.size ≤ 63 - a ∧ S < 4294967296 ∧ ∃ q m l, v = .slice q (List.length (α := ActC) l) m ∧ AOwn w' w.heap.size v l ∧ l.map Prod.fst = actsK ((17 + a : Nat) : Int) (frameN E S la (numsOf r)) (needsN r.size)) ∨ (v = .slice none 0 0 ∧ f = 3 ∧ 4096 < r.size) ∨ (v = .slice none 0 0 ∧ f = 30 ∧ r.size ≤ 4096 ∧ ¬ (needsN r.size ≤ 63 - a ∧ S < 4294967296))
  below : Below w.heap.size w w'
theorem Add_u (v : Value) (r : ByteArray) (count : Int) (data : List Nat) (ws : Puts) (w : World) (hd : DiskIn w v count data ws) (hl : HasLog count data ws) (E : Nat) (hE : epochN (logN data ws) = E) (hE0 : E ≠ 0)
    (l : List (List Nat)) (a la : Nat) (t : List Nat) (S : Nat) (hrec : Recs E 0 ((logN data ws).drop 128) l a la t) (hS : mostS E t (63 - a) + 1 = S) :
    Calls Try.prog 14 #[v, .string r] w fun e w' => ∃ v' f, e = .returned (.tuple #[v', .int .i64 f]) ∧ AddOut E S a la r w w' v' f := by
  by_cases h1 : 4096 < r.size
  · exact (Add_text v r count data ws w hd hl E hE hE0 h1).mono fun e w' ⟨h, hb⟩ => ⟨_, _, h, .inr (.inl ⟨rfl, rfl, h1⟩), hb⟩
  · by_cases h2 : 63 - a < needsN r.size
    · exact (Add_room v r count data ws w hd hl (log_len hl) E hE hE0 (by omega) l a la t S hrec hS h2).mono fun e w' ⟨h, hb⟩ => ⟨_, _, h, .inr (.inr ⟨rfl, rfl, by omega, by omega⟩), hb⟩
    · by_cases h3 : S < 4294967296
      · refine (Add_ok v r count data ws w hd hl (log_len hl) E hE hE0 (by omega) l a la t S hrec hS h3 (by omega)).mono ?_
        rintro e w' ⟨v', l', he, ha, hm, hb⟩
        obtain ⟨q, m, hv, _, _⟩ := ha.form
        exact ⟨v', 0, he, .inl ⟨rfl, by omega, by omega, h3, q, m, l', hv, ha, hm⟩, hb⟩
      · exact (Add_salt v r count data ws w hd hl (log_len hl) E hE hE0 (by omega) l a la t S hrec hS h3 (by omega)).mono fun e w' ⟨h, hb⟩ => ⟨_, _, h, .inr (.inr ⟨rfl, rfl, by omega, fun h => h3 h.2⟩), hb⟩
theorem count_d (s k : Nat) (h : s ≤ 10000) (hk : needsN s = k) : ∃ d : Nat, ((s : Int) + 111) / 112 = (d : Int) ∧ ((s : Int) + 111).tdiv 112 = (d : Int) ∧ wrap64 (((s : Int) + 111).tdiv 112) = (d : Int) ∧ IntKind.i64.wrap (d : Int) = (d : Int) ∧ (((1 : Int) < (d : Int) ∧ k = d) ∨ (¬ (1 : Int) < (d : Int) ∧ k = 1)) := by
  have hI : ((s : Int) + 111) / 112 = (((s + 111) / 112 : Nat) : Int) := by omega
  have hT : ((s : Int) + 111).tdiv 112 = (((s + 111) / 112 : Nat) : Int) := by rw [Int.tdiv_eq_ediv_of_nonneg (by omega)]; exact hI
  refine ⟨(s + 111) / 112, hI, hT, by rw [hT]; unfold wrap64; omega, by rw [IntKind.wrap_i64]; omega, ?_⟩
  subst hk
  unfold needsN
  by_cases h1 : 1 < (s + 111) / 112
  · exact .inl ⟨by omega, by omega⟩
  · exact .inr ⟨by omega, by omega⟩
end Go.Proofs.Ytnajjfdbmdjcbaa
namespace Go.Proofs.Ytnajjfdbmdjcbaa
open Go.RowKit Go.WideShapes

theorem nowK_mem {ws : Puts} {n : Int} {k : Nat} {xs : List Nat} (hk : k ≤ ws.length) (h : nowK ws n k = some xs) : ∃ y ∈ ws, y.2 = xs := by
  induction k with
  | zero => simp [nowK] at h
  | succ k ih =>
    unfold nowK at h
    split at h
    · rename_i hc
      simp only [Option.some.injEq] at h
      exact ⟨ws.getD k (0, []), by
        rw [List.getD_eq_getElem?_getD, List.getElem?_eq_getElem (by omega : k < ws.length)]; exact List.getElem_mem _, h⟩
    · exact ih (by omega) h
set_option maxRecDepth 8000 in
theorem Clear_err (v : Value) (count : Int) (data : List Nat) (ws : Puts) (w : World) (hd : DiskIn w v count data ws) (er : Int) (h : (¬ Okay count data ws ∧ er = 20) ∨ (Okay count data ws ∧ count < 80 ∧ er = 50)) :
    Calls Try.prog 11 #[v] w fun e w' => e = .returned (.tuple #[.slice none 0 0, .int .i64 er]) ∧ Below w.heap.size w w' := by
  obtain ⟨p, c, q, m, rfl, _⟩ := hd.parts
  have HNW : ∀ w', Below w.heap.size w w' → Calls Try.prog 37 #[.agg #[.int .i64 count, .slice p data.length c, .slice q ws.length m]] w' fun e w2 => e = .returned (.tuple #[.slice none 0 0, .int .i64 er]) ∧ Below w'.heap.size w' w2 := by
    intro w' hb
    rcases h with ⟨h1, rfl⟩ | ⟨h1, h2, rfl⟩
    · exact now_bad _ count data ws w' (hd.below hb) h1
    · exact now_few _ count data ws w' (hd.below hb) h1 h2
  have hne : (er != 0) = true := by rcases h with ⟨_, rfl⟩ | ⟨_, _, rfl⟩ <;> rfl
  have HN : Hid _ := HNW
  clear hd h HNW
  go_enter Try.func11, Try.ntmps11
  go_wp2_with fail
  refine (HN.out _ (below_alloc w _)).mono ?_
  rintro e w1 ⟨rfl, hb1⟩
  have HB1 : Hid (Below w.heap.size w w1) := below_bt (below_alloc w _) hb1
  clear hb1 HN
  go_wp2
  go_ret2
  exact ⟨rfl, HB1.out⟩
/-- What a disk's log tells. -/
structure Inf (count : Int) (data : List Nat) (ws : Puts) (er : Int) (L : List ByteArray) (A X la : Nat) (t : List Nat) : Prop where
  err : errL count data ws = er
  no : er ≠ 0 → L = [] ∧ A = 0 ∧ X = 0
  yes : er = 0 → HasLog count data ws ∧ epochN (logN data ws) = X ∧ X ≠ 0 ∧ ∃ l, Recs X 0 ((logN data ws).drop 128) l A la t ∧ L = l.map strOf
section
variable {v : Value} {count : Int} {data : List Nat} {ws : Puts} {w : World} {er : Int} {L : List ByteArray} {A X la : Nat} {t : List Nat}
theorem Records_u (hd : DiskIn w v count data ws) :
    Calls Try.prog 10 #[v] w fun e w' => (∃ q c er L A X la t, e = .returned (.tuple #[.slice q (List.length (α := ByteArray) L) c, .int .i64 er]) ∧ StrsIn w' q L ∧ L.length ≤ maxLen ∧ Inf count data ws er L A X la t) ∧ Below w.heap.size w w' := by
  obtain ⟨er, he⟩ : ∃ er, errL count data ws = er := ⟨_, rfl⟩
  by_cases h0 : er = 0
  · subst h0
    obtain ⟨h1, h2⟩ := errL_ok he
    refine (Records_ok v count data ws w hd h1 _ rfl h2).mono ?_
    rintro e w' ⟨rv, l, a, la, t, rfl, hrec, hown, hb⟩
    obtain ⟨q, m, rfl, _, _, _⟩ := own_form hown
    obtain ⟨_, h4, h5, h6⟩ := own_strs hown
    refine ⟨⟨q, m, 0, l.map strOf, a, epochN (logN data ws), la, t, by rw [List.length_map], h4, by rw [List.length_map]; omega, he, fun h => absurd rfl h, fun _ => ⟨h1, rfl, h2, l, hrec, rfl⟩⟩, hb⟩
  · refine (Records_err v count data ws w hd er he h0).mono ?_
    rintro e w' ⟨rfl, hb⟩
    exact ⟨⟨none, 0, er, [], 0, 0, 0, [], rfl, fun h => absurd h (by simp), by simp, he, fun _ => ⟨rfl, rfl, rfl⟩, fun h => absurd h h0⟩, hb⟩
theorem rRecords_u (hd : DiskIn w v count data ws) (hI : Inf count data ws er L A X la t) :
    Calls Try.prog 24 #[v] w fun e w' => (∃ q c, e = .returned (.tuple #[.slice q L.length c, .int .i64 er]) ∧ StrsIn w' q L) ∧ Below w.heap.size w w' := by
  by_cases h0 : er = 0
  · subst h0
    obtain ⟨h1, h2, h3, l, hrec, rfl⟩ := hI.yes rfl
    have hX : X < 4294967296 := h2 ▸ epochN_lt _
    refine (rRecords_ok v count data ws w hd h1 X h2 h3).mono ?_
    rintro e w' ⟨rv, l', a, la', t', rfl, hrec', hown, hb⟩
    obtain ⟨rfl, rfl, rfl, rfl⟩ := hrec.only hX (by omega) hrec'
    obtain ⟨q, m, rfl, _, _, _⟩ := own_form hown
    obtain ⟨_, h4, _, _⟩ := own_strs hown
    exact ⟨⟨q, m, by rw [List.length_map], h4⟩, hb⟩
  · obtain ⟨rfl, rfl, rfl⟩ := hI.no h0
    refine (rRecords_err v count data ws w hd er hI.err h0).mono ?_
    rintro e w' ⟨rfl, hb⟩
    exact ⟨⟨none, 0, rfl, fun h => absurd h (by simp)⟩, hb⟩
theorem At_u (hd : DiskIn w v count data ws) (hI : Inf count data ws er L A X la t) :
    Calls Try.prog 16 #[v] w fun e w' => e = .returned (.tuple #[.int .i64 (A : Int), .int .i64 er]) ∧ Below w.heap.size w w' := by
  by_cases h0 : er = 0
  · subst h0
    obtain ⟨h1, h2, h3, l, hrec, rfl⟩ := hI.yes rfl
    have hX : X < 4294967296 := h2 ▸ epochN_lt _
    refine (At_ok v count data ws w hd h1 X h2 h3).mono ?_
    rintro e w' ⟨rv, l', a, la', t', rfl, hrec', hown, hb⟩
    obtain ⟨rfl, rfl, rfl, rfl⟩ := hrec.only hX (by omega) hrec'
    exact ⟨rfl, hb⟩
  · obtain ⟨rfl, rfl, rfl⟩ := hI.no h0
    exact At_err v count data ws w hd er hI.err h0
theorem rAt_u (hd : DiskIn w v count data ws) (hI : Inf count data ws er L A X la t) :
    Calls Try.prog 25 #[v] w fun e w' => e = .returned (.tuple #[.int .i64 (A : Int), .int .i64 er]) ∧ Below w.heap.size w w' := by
  by_cases h0 : er = 0
  · subst h0
    obtain ⟨h1, h2, h3, l, hrec, rfl⟩ := hI.yes rfl
    have hX : X < 4294967296 := h2 ▸ epochN_lt _
    refine (rAt_ok v count data ws w hd h1 X h2 h3).mono ?_
    rintro e w' ⟨rv, l', a, la', t', rfl, hrec', hown, hb⟩
    obtain ⟨rfl, rfl, rfl, rfl⟩ := hrec.only hX (by omega) hrec'
    exact ⟨rfl, hb⟩
  · obtain ⟨rfl, rfl, rfl⟩ := hI.no h0
    exact rAt_err v count data ws w hd er hI.err h0
theorem Epoch_u (hd : DiskIn w v count data ws) (hI : Inf count data ws er L A X la t) :
    Calls Try.prog 13 #[v] w fun e w' => e = .returned (.tuple #[.int .u32 (X : Int), .int .i64 er]) ∧ Below w.heap.size w w' := by
  by_cases h0 : er = 0
  · subst h0
    obtain ⟨h1, h2, h3, l, hrec, rfl⟩ := hI.yes rfl
    refine (Epoch_ok v count data ws w hd h1 X h2 h3).mono ?_
    rintro e w' ⟨rv, l', a, la', t', rfl, hrec', hown, hb⟩
    exact ⟨rfl, hb⟩
  · obtain ⟨rfl, rfl, rfl⟩ := hI.no h0
    exact Epoch_err v count data ws w hd er hI.err h0
theorem rEpoch_u (hd : DiskIn w v count data ws) (hI : Inf count data ws er L A X la t) :
    Calls Try.prog 26 #[v] w fun e w' => e = .returned (.tuple #[.int .u32 (X : Int), .int .i64 er]) ∧ Below w.heap.size w w' := by
  by_cases h0 : er = 0
  · subst h0
    obtain ⟨h1, h2, h3, l, hrec, rfl⟩ := hI.yes rfl
    refine (rEpoch_ok v count data ws w hd h1 X h2 h3).mono ?_
    rintro e w' ⟨rv, l', a, la', t', rfl, hrec', hown, hb⟩
    exact ⟨rfl, hb⟩
  · obtain ⟨rfl, rfl, rfl⟩ := hI.no h0
    exact rEpoch_err v count data ws w hd er hI.err h0
/-- What Add answers: its acts and its error. -/
def addA (er : Int) (A X la : Nat) (t : List Nat) (r : ByteArray) : Acts × Int :=
  if er ≠ 0 then ([], er) else if 4096 < r.size then ([], 3) else if 63 - A < needsN r.size then ([], 30) else
  if mostS X t (63 - A) + 1 < 4294967296 then (actsK ((17 + A : Nat) : Int) (frameN X (mostS X t (63 - A) + 1) la (numsOf r)) (needsN r.size), 0) else ([], 30)
theorem Add_p (r : ByteArray) (hd : DiskIn w v count data ws) (hI : Inf count data ws er L A X la t) :
    Calls Try.prog 14 #[v, .string r] w fun e w' => (∃ v' l, e = .returned (.tuple #[v', .int .i64 (addA er A X la t r).2]) ∧ AOwn w' w.heap.size v' l ∧ l.map Prod.fst = (addA er A X la t r).1) ∧ Below w.heap.size w w' := by
  unfold addA
  by_cases h0 : er = 0
  · subst h0
    obtain ⟨h1, h2, h3, l, hrec, rfl⟩ := hI.yes rfl
    rw [if_neg (by simp)]
    refine (Add_u v r count data ws w hd h1 X h2 h3 l A la t _ hrec rfl).mono ?_
    rintro e w' ⟨v', f, rfl, hout⟩
    refine ⟨?_, hout.below⟩
    rcases hout.lies with ⟨rfl, a1, a2, a3, q, m, l', rfl, ho, hm⟩ | ⟨rfl, rfl, a1⟩ | ⟨rfl, rfl, a1, a2⟩
    · rw [if_neg (by omega), if_neg (by omega), if_pos a3]
      exact ⟨_, l', rfl, ho, hm⟩
    · rw [if_pos a1]
      exact ⟨_, [], rfl, aown_nil _ _, rfl⟩
    · rw [if_neg (by omega)]
      by_cases hf : 63 - A < needsN r.size
      · rw [if_pos hf]; exact ⟨_, [], rfl, aown_nil _ _, rfl⟩
      · rw [if_neg hf, if_neg (fun h => a2 ⟨by omega, h⟩)]; exact ⟨_, [], rfl, aown_nil _ _, rfl⟩
  · rw [if_pos h0]
    refine (Add_err v r count data ws w hd er hI.err h0).mono ?_
    rintro e w' ⟨rfl, hb⟩
    exact ⟨⟨_, [], rfl, aown_nil _ _, rfl⟩, hb⟩
theorem rAdd_p (r : ByteArray) (hd : DiskIn w v count data ws) (hI : Inf count data ws er L A X la t) (hTB : ∀ k, mostS X t k < 4294967296) :
    Calls Try.prog 27 #[v, .string r] w fun e w' => (∃ q m, e = .returned (.tuple #[.slice q (addA er A X la t r).1.length m, .int .i64 (addA er A X la t r).2]) ∧ ActsIn w' q (addA er A X la t r).1) ∧ Below w.heap.size w w' := by
  unfold addA
  by_cases h0 : er = 0
  · subst h0
    obtain ⟨h1, h2, h3, l, hrec, rfl⟩ := hI.yes rfl
    have hA63 := (hrec.facts (n := 63) (by rw [List.length_drop, log_len h1]) (by omega)).1
    rw [if_neg (by simp)]
    by_cases c1 : 4096 < r.size
    · rw [if_pos c1]
      refine (rAdd_full v r count data ws w hd h1 X h2 h3 l A la t hrec 3 (.inl ⟨by omega, rfl⟩)).mono ?_
      rintro e w' ⟨rfl, hb⟩
      exact ⟨⟨none, 0, rfl, fun h => absurd h (by simp)⟩, hb⟩
    · rw [if_neg c1]
      by_cases c2 : 63 - A < needsN r.size
      · rw [if_pos c2]
        refine (rAdd_full v r count data ws w hd h1 X h2 h3 l A la t hrec 30 (.inr ⟨by omega, by omega, rfl⟩)).mono ?_
        rintro e w' ⟨rfl, hb⟩
        exact ⟨⟨none, 0, rfl, fun h => absurd h (by simp)⟩, hb⟩
      · rw [if_neg c2]
        refine (rAdd_go v r count data ws w hd h1 X h2 h3 l A la t hrec (by omega) (by omega) _ rfl hTB).mono ?_
        rintro e w' ⟨p1, p2, hb⟩
        by_cases c3 : mostS X t (63 - A) + 1 < 4294967296
        · rw [if_pos c3]
          obtain ⟨q, m, rfl, ha, _⟩ := p1 (decide_eq_true c3)
          exact ⟨⟨q, m, rfl, ha⟩, hb⟩
        · rw [if_neg c3]
          obtain rfl := p2 (decide_eq_false c3)
          exact ⟨⟨none, 0, rfl, fun h => absurd h (by simp)⟩, hb⟩
  · rw [if_pos h0]
    refine (rAdd_err v r count data ws w hd er hI.err h0).mono ?_
    rintro e w' ⟨rfl, hb⟩
    exact ⟨⟨none, 0, rfl, fun h => absurd h (by simp)⟩, hb⟩
/-- What Clear answers. -/
noncomputable def clrA (count : Int) (data : List Nat) (ws : Puts) : Acts × Int := by
  classical
  exact if Okay count data ws then (if count < 80 then ([], 50) else if mostE (logN data ws) 63 + 1 < 4294967296 then (clearActs (mostE (logN data ws) 63 + 1), 0) else ([], 30)) else ([], 20)
theorem Clear_u (hd : DiskIn w v count data ws) :
    Calls Try.prog 11 #[v] w fun e w' => (∃ v' l, e = .returned (.tuple #[v', .int .i64 (clrA count data ws).2]) ∧ AOwn w' w.heap.size v' l ∧ l.map Prod.fst = (clrA count data ws).1) ∧ Below w.heap.size w w' := by
  unfold clrA
  by_cases c1 : Okay count data ws
  · rw [if_pos c1]
    by_cases c2 : count < 80
    · rw [if_pos c2]
      refine (Clear_err v count data ws w hd 50 (.inr ⟨c1, c2, rfl⟩)).mono ?_
      rintro e w' ⟨rfl, hb⟩
      exact ⟨⟨_, [], rfl, aown_nil _ _, rfl⟩, hb⟩
    · rw [if_neg c2]
      by_cases c3 : mostE (logN data ws) 63 + 1 < 4294967296
      · rw [if_pos c3]
        refine (Clear_ok v count data ws w hd ⟨c1, by omega⟩ _ rfl c3).mono ?_
        rintro e w' ⟨v', l, rfl, ho, hm, hb⟩
        exact ⟨⟨v', l, rfl, ho, hm⟩, hb⟩
      · rw [if_neg c3]
        refine (Clear_full v count data ws w hd ⟨c1, by omega⟩ c3).mono ?_
        rintro e w' ⟨rfl, hb⟩
        exact ⟨⟨_, [], rfl, aown_nil _ _, rfl⟩, hb⟩
  · rw [if_neg c1]
    refine (Clear_err v count data ws w hd 20 (.inl ⟨c1, rfl⟩)).mono ?_
    rintro e w' ⟨rfl, hb⟩
    exact ⟨⟨_, [], rfl, aown_nil _ _, rfl⟩, hb⟩
theorem rClear_u (hd : DiskIn w v count data ws) (hM2 : ∀ k, mostE (logN data ws) k < 4294967296) :
    Calls Try.prog 28 #[v] w fun e w' => (∃ v' l, e = .returned (.tuple #[v', .int .i64 (clrA count data ws).2]) ∧ AOwn w' w.heap.size v' l ∧ l.map Prod.fst = (clrA count data ws).1) ∧ Below w.heap.size w w' := by
  unfold clrA
  by_cases c1 : Okay count data ws
  · rw [if_pos c1]
    by_cases c2 : count < 80
    · rw [if_pos c2]
      refine (rClear_err v count data ws w hd 50 (.inr ⟨c1, c2, rfl⟩)).mono ?_
      rintro e w' ⟨rfl, hb⟩
      exact ⟨⟨_, [], rfl, aown_nil _ _, rfl⟩, hb⟩
    · rw [if_neg c2]
      by_cases c3 : mostE (logN data ws) 63 + 1 < 4294967296
      · rw [if_pos c3]
        refine (rClear_ok v count data ws w hd ⟨c1, by omega⟩ _ rfl c3 hM2).mono ?_
        rintro e w' ⟨v', l, rfl, ho, hm, hb⟩
        exact ⟨⟨v', l, rfl, ho, hm⟩, hb⟩
      · rw [if_neg c3]
        refine (rClear_full v count data ws w hd ⟨c1, by omega⟩ c3 hM2).mono ?_
        rintro e w' ⟨rfl, hb⟩
        exact ⟨⟨_, [], rfl, aown_nil _ _, rfl⟩, hb⟩
  · rw [if_neg c1]
    refine (rClear_err v count data ws w hd 20 (.inl ⟨c1, rfl⟩)).mono ?_
    rintro e w' ⟨rfl, hb⟩
    exact ⟨⟨_, [], rfl, aown_nil _ _, rfl⟩, hb⟩
end
end Go.Proofs.Ytnajjfdbmdjcbaa
namespace Go.Proofs.Ytnajjfdbmdjcbaa
open Go.RowKit Go.WideShapes

/-! ### bytes -/
theorem logN_byte {w : World} {v : Value} {count : Int} {data : List Nat} {ws : Puts} (hd : DiskIn w v count data ws) : ∀ c ∈ logN data ws, c < 256 := by
  obtain ⟨p, c, q, m, rfl, hb, _, _, _, hqp, _⟩ := hd.parts
  intro x hx
  unfold logN logK at hx
  obtain ⟨i, _, hi⟩ := List.mem_flatMap.1 hx
  unfold nowN at hi
  cases hk : nowK ws ((16 + i : Nat) : Int) ws.length with
  | none =>
    rw [hk] at hi
    exact hb.2 x (List.mem_of_mem_drop (List.mem_of_mem_take hi))
  | some xs =>
    rw [hk] at hi
    obtain ⟨y, hy, rfl⟩ := nowK_mem (Nat.le_refl _) hk
    obtain ⟨j, hj, he⟩ := List.mem_iff_getElem.1 hy
    obtain ⟨b, o, _, hc⟩ := hqp (by omega)
    obtain ⟨_, v', _, hr⟩ := hc j hj
    rw [show ws.getD j (0, []) = y by rw [List.getD_eq_getElem?_getD, List.getElem?_eq_getElem hj]; exact he] at hr
    obtain ⟨_, _, _, h2, _⟩ := hr.lies
    exact h2.2 x hi
theorem Inf.most {w : World} {v : Value} {count : Int} {data : List Nat} {ws : Puts} {er : Int} {L : List ByteArray} {A X la : Nat} {t : List Nat} (hI : Inf count data ws er L A X la t) (hd : DiskIn w v count data ws) (h0 : er = 0) (k : Nat) : mostS X t k < 4294967296 := by
  obtain ⟨h1, h2, h3, l, hrec, rfl⟩ := hI.yes h0
  refine mostS_lt (fun c hc => logN_byte hd c ?_) k
  have := (hrec.facts (n := 63) (by rw [List.length_drop, log_len h1]) (by omega)).2.1
  rw [this] at hc
  exact List.mem_of_mem_drop (List.mem_of_mem_drop hc)

/-! ### the answers named -/
section
variable {v : Value} {count : Int} {data : List Nat} {ws : Puts} {w : World} {er : Int} {L : List ByteArray} {A X la : Nat} {t : List Nat} {A4 : Acts} {f4 : Int} {n4 : Nat}
theorem Add_q (r : ByteArray) (hd : DiskIn w v count data ws) (hI : Inf count data ws er L A X la t) (h4 : addA er A X la t r = (A4, f4)) (hn : A4.length = n4) :
    Calls Try.prog 14 #[v, .string r] w fun e w' => (∃ q m l, e = .returned (.tuple #[.slice q n4 m, .int .i64 f4]) ∧ AOwn w' w.heap.size (.slice q n4 m) l ∧ l.map Prod.fst = A4) ∧ Below w.heap.size w w' := by
  refine (Add_p r hd hI).mono ?_
  rintro e w' ⟨⟨v', l, rfl, ha, hm⟩, hb⟩
  obtain ⟨q, m, rfl, _, _⟩ := ha.form
  rw [h4] at hm
  have hm' : l.map Prod.fst = A4 := hm
  have hl : l.length = n4 := by rw [← hn, ← hm', List.length_map]
  rw [hl] at ha
  refine ⟨⟨q, m, l, ?_, ha, hm'⟩, hb⟩
  rw [h4, hl]
theorem rAdd_q (r : ByteArray) (hd : DiskIn w v count data ws) (hI : Inf count data ws er L A X la t) (h4 : addA er A X la t r = (A4, f4)) (hn : A4.length = n4) :
    Calls Try.prog 27 #[v, .string r] w fun e w' => (∃ q m, e = .returned (.tuple #[.slice q n4 m, .int .i64 f4]) ∧ ActsIn w' q A4) ∧ Below w.heap.size w w' := by
  subst hn
  by_cases h0 : er = 0
  · refine (rAdd_p r hd hI (hI.most hd h0)).mono ?_
    rintro e w' ⟨⟨q, m, rfl, ha⟩, hb⟩
    rw [h4] at ha
    exact ⟨⟨q, m, by rw [h4], ha⟩, hb⟩
  · have h5 : addA er A X 0 [] r = (A4, f4) := by rw [← h4]; unfold addA; rw [if_pos h0, if_pos h0]
    refine (rAdd_p r hd (la := 0) (t := []) ⟨hI.err, hI.no, fun h => absurd h h0⟩ (mostS_lt (fun c hc => by cases hc))).mono ?_
    rintro e w' ⟨⟨q, m, rfl, ha⟩, hb⟩
    rw [h5] at ha
    exact ⟨⟨q, m, by rw [h5], ha⟩, hb⟩
theorem Clear_q (hd : DiskIn w v count data ws) (h4 : clrA count data ws = (A4, f4)) (hn : A4.length = n4) :
    Calls Try.prog 11 #[v] w fun e w' => (∃ q m, e = .returned (.tuple #[.slice q n4 m, .int .i64 f4]) ∧ ActsIn w' q A4) ∧ Below w.heap.size w w' := by
  refine (Clear_u hd).mono ?_
  rintro e w' ⟨⟨v', l, rfl, ha, hm⟩, hb⟩
  obtain ⟨q, m, rfl, _, _⟩ := ha.form
  rw [h4] at hm
  have hm' : l.map Prod.fst = A4 := hm
  have hl : l.length = n4 := by rw [← hn, ← hm', List.length_map]
  refine ⟨⟨q, m, ?_, hm' ▸ ha.lies.2.1⟩, hb⟩
  rw [h4, hl]
theorem rClear_q (hd : DiskIn w v count data ws) (h4 : clrA count data ws = (A4, f4)) (hn : A4.length = n4) :
    Calls Try.prog 28 #[v] w fun e w' => (∃ q m, e = .returned (.tuple #[.slice q n4 m, .int .i64 f4]) ∧ ActsIn w' q A4) ∧ Below w.heap.size w w' := by
  refine (rClear_u hd (mostE_lt (logN_byte hd))).mono ?_
  rintro e w' ⟨⟨v', l, rfl, ha, hm⟩, hb⟩
  obtain ⟨q, m, rfl, _, _⟩ := ha.form
  rw [h4] at hm
  have hm' : l.map Prod.fst = A4 := hm
  have hl : l.length = n4 := by rw [← hn, ← hm', List.length_map]
  refine ⟨⟨q, m, ?_, hm' ▸ ha.lies.2.1⟩, hb⟩
  rw [h4, hl]
theorem addA_few (r : ByteArray) (h4 : addA er A X la t r = (A4, f4)) (hn : A4.length = n4) : (n4 : Int) ≤ 10000 := by
  subst hn
  have : A4 = (addA er A X la t r).1 := by rw [h4]
  rw [this]
  unfold addA
  split
  · simp
  · split
    · simp
    · split
      · simp
      · split
        · simp [actsK]; omega
        · simp
theorem clrA_few (h4 : clrA count data ws = (A4, f4)) (hn : A4.length = n4) : (n4 : Int) ≤ 10000 := by
  subst hn
  have : A4 = (clrA count data ws).1 := by rw [h4]
  rw [this]
  unfold clrA
  repeat' split
  all_goals simp [clearActs]
end

/-! ### the acts' bytes written over -/
def U8A (w : World) (g : Nat) : Prop := ∃ cs, w.heap[g]? = some (.cells cs 5 (0, 0)) ∧ 128 ≤ cs.size ∧ ∀ i, i < cs.size → ∃ x : Int, cs[i]? = some (.int .u8 x)
theorem U8A.set {w : World} {g : Nat} (h : U8A w g) (b o : Nat) (x : Int) : U8A (w.setCell ⟨b, o, none⟩ (.int .u8 x)) g := by
  obtain ⟨cs, h1, h2, h3⟩ := h
  by_cases e : g = b
  · subst e
    refine ⟨_, heap_setCell_same w g o _ _ _ h1, by simpa using h2, fun i hi => ?_⟩
    simp only [Array.size_setIfInBounds] at hi
    by_cases ho : o = i
    · subst ho
      exact ⟨x, by simp [hi]⟩
    · rw [Array.getElem?_setIfInBounds_ne ho]
      exact h3 i hi
  · exact ⟨cs, (heap_setCell_other w ⟨b, o, none⟩ g _ e).trans h1, h2, h3⟩
theorem u8a_of {w : World} {g : Nat} {xs : List Nat} (h : w.heap[g]? = some (.cells (Bs xs).toArray 5 (0, 0))) (hl : xs.length = 128) : U8A w g := by
  refine ⟨_, h, by simp [Bs, hl], fun i hi => ?_⟩
  simp [Bs] at hi
  exact ⟨(xs[i] : Nat), by simp [Bs, List.getElem?_eq_getElem hi]⟩
def dvO : Option Nat → Value
  | none => .slice none 0 0
  | some g => .slice (some ⟨g, 0, none⟩) 128 128
def gO (y : ActC) : Option Nat := match y.2 with
  | .slice (some a) _ _ => some a.block
  | _ => none
structure TJ (wa : World) (base : Nat) (q : Option Addr) (ds : List (Option Nat)) (w' : World) : Prop where
  row : 0 < ds.length → ∃ g cs, q = some ⟨g, 0, none⟩ ∧ w'.heap[g]? = some (.cells cs 43 (0, 0)) ∧ ∀ i, i < ds.length → cs[i * 3 + 2]? = some (dvO (ds.getD i none))
  rows : ∀ g, some g ∈ ds → base ≤ g ∧ U8A w' g
  bel : Below base wa w'
theorem TJ.set {wa : World} {base : Nat} {q : Option Addr} {ds : List (Option Nat)} {w' : World} (h : TJ wa base q ds w') {g : Nat} (hg : some g ∈ ds) (o : Nat) (x : Int) : TJ wa base q ds (w'.setCell ⟨g, o, none⟩ (.int .u8 x)) := by
  obtain ⟨hb, cs, h1, h2, h3⟩ := h.rows g hg
  refine ⟨fun h0 => ?_, fun g' hg' => ⟨(h.rows g' hg').1, (h.rows g' hg').2.set _ _ _⟩, h.bel.setCell hb _⟩
  obtain ⟨k, cs', e, hk, hc⟩ := h.row h0
  refine ⟨k, cs', e, (heap_setCell_other w' ⟨g, o, none⟩ k _ ?_).trans hk, hc⟩
  rintro rfl
  rw [h1] at hk
  simp only [Option.some.injEq, Obj.cells.injEq] at hk
  exact absurd hk.2.1 (by decide)
theorem cellsA_two : ∀ (l : List ActC) (i : Nat) (h : i < l.length), (cellsA l)[i * 3 + 2]? = some (l[i]).2
  | y :: l, 0, _ => rfl
  | y :: l, i + 1, h => by
    have := cellsA_two l i (by simpa using h)
    show (_ :: _ :: _ :: cellsA l)[(i + 1) * 3 + 2]? = _
    rw [show (i + 1) * 3 + 2 = i * 3 + 2 + 1 + 1 + 1 by omega]
    simp only [List.getElem?_cons_succ]
    exact this
theorem tj_of {wa w : World} {base : Nat} {q : Option Addr} {n m : Nat} {l : List ActC} (h : AOwn w base (.slice q n m) l) (hb : Below base wa w) : ∃ ds : List (Option Nat), n = ds.length ∧ TJ wa base q ds w := by
  have hd : ∀ y ∈ l, y.2 = dvO (gO y) ∧ ∀ g, gO y = some g → base ≤ g ∧ U8A w g := by
    intro y hy
    rcases h.data y hy with ⟨e, _⟩ | ⟨g, e, hg, hw, hl, _⟩
    · simp [gO, e, dvO]
    · refine ⟨by simp [gO, e, dvO], fun g' e' => ?_⟩
      simp [gO, e] at e'
      subst e'
      exact ⟨hg, u8a_of hw hl⟩
  refine ⟨l.map gO, by rw [List.length_map]; exact h.lies.1, ⟨fun h0 => ?_, fun g hg => ?_, hb⟩⟩
  · rw [List.length_map] at h0
    rcases h.row.2 with ⟨hv, hn⟩ | ⟨g, cap, cur, hv, hb, hg, hle, hmax, hsz, htk⟩
    · omega
    · simp only [Value.slice.injEq] at hv
      refine ⟨g, cur, hv.1, hg, fun i hi => ?_⟩
      rw [List.length_map] at hi
      have h1 : cur[i * 3 + 2]? = (cellsA l)[i * 3 + 2]? := by
        rw [← htk, List.getElem?_take, if_pos (by omega), Array.getElem?_toList]
      rw [h1, cellsA_two l i hi, (hd _ (List.getElem_mem hi)).1]
      simp [List.getD, hi]
  · obtain ⟨y, hy, e⟩ := List.mem_map.1 hg
    exact (hd y hy).2 g e
end Go.Proofs.Ytnajjfdbmdjcbaa
