/-
  Contract of the call Check: 0 where the disk may be, else the error 20.
-/
import Derived.Test.YtpbfoppaeeafhaaJ05
import Derived.Test.YtpbfoppaeeafhaaJ06
import Derived.Test.YtpbfoppaeeafhaaJ01
import Derived.Laws.CopyOwn
import Derived.Test.YtpbfoppaeeafhaaJ03
import Derived.Test.YtpbfoppaeeafhaaProg
namespace Go.Proofs.Ytpbfoppaeeafhaa
open Go.RowKit Go.WideShapes

def foundV (R : OpenT) : Value := .agg #[.string R.1, .int .u32 R.2.1, .int .i64 R.2.2.1]
theorem found_no {e p : Nat} {xs : List Nat} (he0 : e ≠ 0) (h : ∀ s r, ¬ IsRec e p xs s r) : foundV (openR e p xs) = .agg #[.string ByteArray.empty, .int .u32 0, .int .i64 0] := by
  rw [openR_no he0 h]; rfl
theorem found_yes {e p s n : Nat} {xs r : List Nat} (he0 : e ≠ 0) (he : e < 4294967296) (hp : p < 4294967296) (h : IsRec e p xs s r) (hn : needsN r.length = n) : foundV (openR e p xs) = .agg #[.string (strOf r), .int .u32 s, .int .i64 n] := by
  rw [openR_yes he0 he hp h, ← hn]; rfl
theorem grown_set (w : World) (g i : Nat) (v : Value) : w.grownBy (w.setCell ⟨g, i, none⟩ v) (some g) :=
  ⟨rfl, rfl, rfl, by simp, fun k _ hn => Below.heap_setCell w ⟨g, i, none⟩ v k (fun e => hn (by rw [e]))⟩
theorem block_set {w : World} {g i : Nat} {cs : Array Value} {t : TypeId} {fr : Nat × Nat} (h : w.heap[g]? = some (.cells cs t fr)) (v : Value) : (w.setCell ⟨g, i, none⟩ v).heap[g]? = some (.cells (cs.setIfInBounds i v) t fr) := by
  rw [setCell_eq_setRow w g i cs t fr v h]
  exact setRow_heap w g cs _ t _ h
theorem own_ne {w : World} {base n : Nat} {v : Value} {xs : List Value} (h : w.ownsRow base 5 1 v n xs) {B : Nat} {C : Array Value} {t : TypeId} {fr : Nat × Nat} (hB : w.heap[B]? = some (.cells C t fr)) (ht : t ≠ 5) : v.ownBlock ≠ some B := by
  intro e
  rcases h.2 with ⟨hv, _⟩ | ⟨g, cap, cur, hv, _, hgg, _⟩
  · rw [hv] at e; cases e
  · rw [hv] at e
    simp only [Value.ownBlock, Option.some.injEq] at e
    subst e
    rw [hB] at hgg
    simp only [Option.some.injEq, Obj.cells.injEq] at hgg
    exact ht hgg.2.1
theorem St.set {w : World} {B : Nat} {C : Array Value} {t : TypeId} {bx : List Box} {wc : World} {v : Value} {xs : List Nat} (h : St w ((B, C, t) :: bx) wc v xs) (hB : w.heap.size ≤ B) (hd : ∀ p ∈ bx, p.1 ≠ B) (i : Nat) (u : Value) : St w ((B, C.setIfInBounds i u, t) :: bx) (wc.setCell ⟨B, i, none⟩ u) v xs := by
  have h0 := h.box (B, C, t) (by simp)
  refine ⟨World.ownsRow.kept h.own (grown_set wc B i u) (.inr (own_ne h.own h0.1 h0.2)), h.bel.setCell hB _, fun p hp => ?_⟩
  rcases List.mem_cons.1 hp with rfl | hp
  · exact ⟨block_set h0.1 u, h0.2⟩
  · exact ⟨(Below.heap_setCell wc ⟨B, i, none⟩ u p.1 (hd p hp)).trans (h.box p (by simp [hp])).1, (h.box p (by simp [hp])).2⟩
theorem St.row {w : World} {bx : List Box} {wc : World} {v : Value} {xs : List Nat} (h : St w bx wc v xs) {B : Nat} {C : Array Value} {t : TypeId} (hm : (B, C, t) ∈ bx) : wc.heap[B]? = some (.cells C t (0, 0)) := (h.box _ hm).1
theorem box3 {w : World} {g : Nat} {a b c : Value} {t : TypeId} (h : w.heap[g]? = some (.cells #[a, b, c] t (0, 0))) : w.cell? ⟨g, 0, none⟩ = some a ∧ w.cell? ⟨g, 1, none⟩ = some b ∧ w.cell? ⟨g, 2, none⟩ = some c ∧ w.frozen? ⟨g, 0, none⟩ = false ∧ w.frozen? ⟨g, 1, none⟩ = false ∧ w.frozen? ⟨g, 2, none⟩ = false :=
  ⟨cell_of_row w g 0 _ t _ h, cell_of_row w g 1 _ t _ h, cell_of_row w g 2 _ t _ h, by simp [World.frozen?, h], by simp [World.frozen?, h], by simp [World.frozen?, h]⟩
theorem box6 {w : World} {g : Nat} {a b c d e f : Value} {t : TypeId} (h : w.heap[g]? = some (.cells #[a, b, c, d, e, f] t (0, 0))) : w.cell? ⟨g, 0, none⟩ = some a ∧ w.cell? ⟨g, 1, none⟩ = some b ∧ w.cell? ⟨g, 2, none⟩ = some c ∧ w.cell? ⟨g, 3, none⟩ = some d ∧ w.cell? ⟨g, 4, none⟩ = some e ∧ w.cell? ⟨g, 5, none⟩ = some f ∧ w.frozen? ⟨g, 3, none⟩ = false :=
  ⟨cell_of_row w g 0 _ t _ h, cell_of_row w g 1 _ t _ h, cell_of_row w g 2 _ t _ h, cell_of_row w g 3 _ t _ h, cell_of_row w g 4 _ t _ h, cell_of_row w g 5 _ t _ h, by simp [World.frozen?, h]⟩
theorem below_set3 {w w' : World} {a b c : Value} (h : Below w.heap.size w w') : Below w.heap.size w (((w'.setCell ⟨w.heap.size, 0, none⟩ a).setCell ⟨w.heap.size, 1, none⟩ b).setCell ⟨w.heap.size, 2, none⟩ c) := ((h.setCell (Nat.le_refl _) _).setCell (Nat.le_refl _) _).setCell (Nat.le_refl _) _
theorem below_set3a {w w' : World} {a b c : Value} (h : Below w.heap.size w w') (o : Obj) : Below w.heap.size w ((((w'.setCell ⟨w.heap.size, 0, none⟩ a).setCell ⟨w.heap.size, 1, none⟩ b).setCell ⟨w.heap.size, 2, none⟩ c).alloc o) := (below_set3 h).alloc (below_set3 (a := a) (b := b) (c := c) h).size o
theorem start8 {w w1 : World} {e s p n : Nat} {y0 y2 y3 y5 : Int} (hb : Below w.heap.size w w1) (hx : w1.heap[w.heap.size]? = some (.cells #[.string ByteArray.empty, .int .u32 0, .int .i64 0] 100 (0, 0))) : St w [(w1.heap.size + 1, #[.int .u32 e, .int .u32 s, .int .u32 p, .int .i64 0, .int .i64 n, .int .i64 0], 116), (w1.heap.size, #[.int .u32 y0, .int .u32 s, .int .u32 y2, .int .i64 y3, .int .i64 n, .int .i64 y5], 116), (w.heap.size, #[.string ByteArray.empty, .int .u32 0, .int .i64 0], 100)] ((w1.alloc (.cells #[.int .u32 y0, .int .u32 s, .int .u32 y2, .int .i64 y3, .int .i64 n, .int .i64 y5] 116)).alloc (.cells #[.int .u32 e, .int .u32 s, .int .u32 p, .int .i64 0, .int .i64 n, .int .i64 0] 116)) (.slice none 0 0) [] := by
  have h7 : Below w1.heap.size w1 (w1.alloc (.cells #[.int .u32 y0, .int .u32 s, .int .u32 y2, .int .i64 y3, .int .i64 n, .int .i64 y5] 116)) := below_alloc _ _
  have h8 : Below (w1.alloc (.cells #[.int .u32 y0, .int .u32 s, .int .u32 y2, .int .i64 y3, .int .i64 n, .int .i64 y5] 116)).heap.size (w1.alloc (.cells #[.int .u32 y0, .int .u32 s, .int .u32 y2, .int .i64 y3, .int .i64 n, .int .i64 y5] 116)) ((w1.alloc (.cells #[.int .u32 y0, .int .u32 s, .int .u32 y2, .int .i64 y3, .int .i64 n, .int .i64 y5] 116)).alloc (.cells #[.int .u32 e, .int .u32 s, .int .u32 p, .int .i64 0, .int .i64 n, .int .i64 0] 116)) := below_alloc _ _
  refine ⟨World.ownsRow_nil _ _ _ _, below_bt (below_bt hb h7) h8, fun q hq => ?_⟩
  simp only [List.mem_cons, List.not_mem_nil, or_false] at hq
  rcases hq with rfl | rfl | rfl
  · have := heap_alloc_new (w1.alloc (.cells #[.int .u32 y0, .int .u32 s, .int .u32 y2, .int .i64 y3, .int .i64 n, .int .i64 y5] 116)) (.cells #[.int .u32 e, .int .u32 s, .int .u32 p, .int .i64 0, .int .i64 n, .int .i64 0] 116)
    exact ⟨by simpa using this, by show (116 : TypeId) ≠ 5; decide⟩
  · exact ⟨(h8.block _ (by simp)).trans (heap_alloc_new w1 _), by show (116 : TypeId) ≠ 5; decide⟩
  · exact ⟨(h8.block _ (by have := lt_heap hx; simp; omega)).trans ((h7.block _ (lt_heap hx)).trans hx), by show (100 : TypeId) ≠ 5; decide⟩
theorem part_ok (e s p i n : Nat) (b o c : Nat) (xs : List Nat) (w : World) (hx : xs.length = 128) (hc : 128 ≤ c) (hcm : c ≤ maxLen) (hb : BIn w (some ⟨b, o, none⟩) xs) (hi : i < 256) (hn : n < 256) (h : OkSec e s p i n xs) :
    Calls Try.prog 67 #[.slice (some ⟨b, o, none⟩) 128 c, .agg #[.int .u32 e, .int .u32 s, .int .u32 p, .int .i64 i, .int .i64 n, .int .i64 0]] w fun x w' => x = .returned (.tuple #[.slice (some ⟨b, o + 16, none⟩) (sizeOf2 xs) (c - 16), .bool true]) ∧ Below w.heap.size w w' :=
  (part_any e s p i n 0 b o c xs w hx hc hcm hb hi hn).mono fun x w' hh => ⟨by rcases hh.1 with h1 | h1; exact h1.2; exact absurd h h1.1, hh.2⟩
theorem part_bad (e s p i n : Nat) (b o c : Nat) (xs : List Nat) (w : World) (hx : xs.length = 128) (hc : 128 ≤ c) (hcm : c ≤ maxLen) (hb : BIn w (some ⟨b, o, none⟩) xs) (hi : i < 256) (hn : n < 256) (h : ¬ OkSec e s p i n xs) :
    Calls Try.prog 67 #[.slice (some ⟨b, o, none⟩) 128 c, .agg #[.int .u32 e, .int .u32 s, .int .u32 p, .int .i64 i, .int .i64 n, .int .i64 0]] w fun x w' => x = .returned (.tuple #[.slice none 0 0, .bool false]) ∧ Below w.heap.size w w' :=
  (part_any e s p i n 0 b o c xs w hx hc hcm hb hi hn).mono fun x w' hh => ⟨by rcases hh.1 with h1 | h1; exact absurd h1.1 h; exact h1.2, hh.2⟩
theorem no_sec' {e p n k s : Nat} {xs : List Nat} (he : e < 4294967296) (hp : p < 4294967296) (hn : xs.getD 13 0 = n) (hs : numAt xs 4 = s) (hk : k < n) (h : ¬ OkSec e s p k n (secAt xs k)) : ∀ s r, ¬ IsRec e p xs s r := fun s' r hr => by
  obtain ⟨h1, h2, _, h4⟩ := rec_dec he hp hr
  rw [hn] at h2
  rw [hs] at h1
  subst h2 h1
  exact h (h4 k hk)
theorem sixB {w w' : World} {g : Nat} {a b c d e f : Value} {t : TypeId} (h : w.heap[g]? = some (.cells #[a, b, c, d, e, f] t (0, 0))) (hb : Below w.heap.size w w') : w'.cell? ⟨g, 0, none⟩ = some a ∧ w'.cell? ⟨g, 1, none⟩ = some b ∧ w'.cell? ⟨g, 2, none⟩ = some c ∧ w'.cell? ⟨g, 3, none⟩ = some d ∧ w'.cell? ⟨g, 4, none⟩ = some e ∧ w'.cell? ⟨g, 5, none⟩ = some f := by
  obtain ⟨h0, h1, h2, h3, h4, h5, _⟩ := box6 ((hb.block g (lt_heap h)).trans h)
  exact ⟨h0, h1, h2, h3, h4, h5⟩
theorem below_dw {w w' : World} (h : Below w.drew.heap.size w.drew w') : Below w.heap.size w w' := ((Below.refl _ _).drew).trans h
theorem sec_in {w : World} {b o k : Nat} {xs : List Nat} (h : BIn w (some ⟨b, o, none⟩) xs) : BIn w (some ⟨b, o + k * 128, none⟩) (secAt xs k) := (h.drop' (k * 128)).take' 128
set_option maxRecDepth 8000 in
set_option maxHeartbeats 4000000 in
theorem open_main (e p b o m c : Nat) (xs : List Nat) (w : World) (he0 : e ≠ 0) (he : e < 4294967296) (hp : p < 4294967296) (hm : m = xs.length) (h128 : 128 ≤ m) (hmc : m ≤ c) (hcm : c ≤ maxLen) (hb : BIn w (some ⟨b, o, none⟩) xs) (hL : m ≤ 10000) :
    Calls Try.prog 49 #[.int .u32 e, .int .u32 p, .slice (some ⟨b, o, none⟩) m c] w fun x w' => x = .returned (foundV (openR e p xs)) ∧ Below w.heap.size w w' := by
  have HE : Hid (e ≠ 0 ∧ e < 4294967296 ∧ p < 4294967296) := ⟨he0, he, hp⟩
  have HB : Hid (BIn w (some ⟨b, o, none⟩) xs) := hb
  have HM : Hid (m = xs.length ∧ 128 ≤ m ∧ m ≤ c ∧ m ≤ 10000 ∧ c ≤ maxLen) := ⟨hm, h128, hmc, hL, hcm⟩
  have hmI : (128 : Int) ≤ m := by omega
  have hmI2 : (m : Int) ≤ 10000 := by omega
  have hcI : (m : Int) ≤ c := by omega
  obtain ⟨s, hs⟩ : ∃ s, numAt xs 4 = s := ⟨_, rfl⟩
  obtain ⟨n, hn⟩ : ∃ n, xs.getD 13 0 = n := ⟨_, rfl⟩
  have HSN : Hid (numAt xs 4 = s ∧ xs.getD 13 0 = n) := ⟨hs, hn⟩
  have HS32 : Hid (s < 4294967296) := hs ▸ numAt_lt hb.2 4
  have hn256 : n < 256 := hn ▸ getD_lt hb.2 13
  have HMK : Hid (markOfN xs = .agg #[.int .u32 (numAt xs 0), .int .u32 s, .int .u32 (numAt xs 8), .int .i64 (xs.getD 12 0 : Nat), .int .i64 n, .int .i64 (sizeOf2 xs)]) := by rw [← hs, ← hn]; rfl
  obtain ⟨y0, hy0⟩ : ∃ y : Int, (numAt xs 0 : Int) = y := ⟨_, rfl⟩
  obtain ⟨y2, hy2⟩ : ∃ y : Int, (numAt xs 8 : Int) = y := ⟨_, rfl⟩
  obtain ⟨y3, hy3⟩ : ∃ y : Int, ((xs.getD 12 0 : Nat) : Int) = y := ⟨_, rfl⟩
  obtain ⟨y5, hy5⟩ : ∃ y : Int, (sizeOf2 xs : Int) = y := ⟨_, rfl⟩
  rw [hy0, hy2, hy3, hy5] at HMK
  clear he0 he hp hb hm h128 hmc hL hs hn hcm hy0 hy2 hy3 hy5
  go_enter Try.func49, Try.ntmps49
  go_wp2_with fail
  refine (markOf_any (some ⟨b, o, none⟩) xs m c _ HM.out.1 (by have := HM.out; omega) HM.out.2.2.1 (HB.out.below (below_alloc w _))).mono ?_
  rintro x w1 ⟨rfl, hb1⟩
  rw [HMK.out]
  have HBX : Hid (w1.heap[w.heap.size]? = some (.cells #[.string ByteArray.empty, .int .u32 0, .int .i64 0] 100 (0, 0))) := (hb1.block _ (by simp)).trans (heap_alloc_new w _)
  have HB1 : Hid (Below w.heap.size w w1) := below_bt (below_alloc w _) hb1
  clear hb1 HMK
  have hlt1 : w.heap.size < w1.heap.size := lt_heap HBX.out
  obtain ⟨f0, f1, f2, f3, f4, f5⟩ := box3 HBX.out
  by_cases hq : s = 0
  · have g1 : ((s : Int) == 0) = true := by simp [hq]
    have HZ : Hid (s = 0) := hq
    clear hq
    go_wp2
    (try simp only [Exit.inBlock, Exit.then])
    refine bodyPost_ret (v := foundV (openR e p xs)) ?_ rfl ⟨rfl, below_set3a HB1.out _⟩
    rw [results_cell1 rfl, found_no HE.out.1 (no_head HE.out.2.1 HE.out.2.2 (.inl (HSN.out.1.trans HZ.out)))]
    go_simp
    rfl
  have g1 := beq0 hq
  have HS0 : Hid (s ≠ 0) := hq
  clear hq
  by_cases hq : n = 0
  · have g2 : ((n : Int) == 0) = true := by simp [hq]
    have HZ : Hid (n = 0) := hq
    clear hq
    go_wp2
    (try simp only [Exit.inBlock, Exit.then])
    refine bodyPost_ret (v := foundV (openR e p xs)) ?_ rfl ⟨rfl, below_set3a HB1.out _⟩
    rw [results_cell1 rfl, found_no HE.out.1 (no_head HE.out.2.1 HE.out.2.2 (.inr (.inl (HSN.out.2.trans HZ.out))))]
    go_simp
    rfl
  have g2 := beq0 hq
  have HN0 : Hid (n ≠ 0) := hq
  clear hq
  by_cases hq : m < n * 128
  · have g3 : decide ((m : Int) / 128 < (n : Int)) = true := decide_eq_true (by omega)
    have HZ : Hid (m < n * 128) := hq
    clear hq
    go_wp2
    (try simp only [Exit.inBlock, Exit.then])
    refine bodyPost_ret (v := foundV (openR e p xs)) ?_ rfl ⟨rfl, below_set3a HB1.out _⟩
    rw [results_cell1 rfl, found_no HE.out.1 (no_head HE.out.2.1 HE.out.2.2 (.inr (.inr (by rw [HSN.out.2, ← HM.out.1]; exact HZ.out))))]
    go_simp
    rfl
  have g3 : decide ((m : Int) / 128 < (n : Int)) = false := decide_eq_false (by omega)
  have HL : Hid (n * 128 ≤ m ∧ n < 256) := ⟨by omega, hn256⟩
  clear hq f0 f1 f2 f3 f4 f5
  have HS8 : Hid (St w [(w1.heap.size + 1, #[.int .u32 e, .int .u32 s, .int .u32 p, .int .i64 0, .int .i64 n, .int .i64 0], 116), (w1.heap.size, #[.int .u32 y0, .int .u32 s, .int .u32 y2, .int .i64 y3, .int .i64 n, .int .i64 y5], 116), (w.heap.size, #[.string ByteArray.empty, .int .u32 0, .int .i64 0], 100)] ((w1.alloc (.cells #[.int .u32 y0, .int .u32 s, .int .u32 y2, .int .i64 y3, .int .i64 n, .int .i64 y5] 116)).alloc (.cells #[.int .u32 e, .int .u32 s, .int .u32 p, .int .i64 0, .int .i64 n, .int .i64 0] 116)) (.slice none 0 0) []) := start8 HB1.out HBX.out
  go_wp2
  go_loopw [9, 45] (fun v i wr => ∃ (k : Nat) (y : Int), k ≤ n ∧ i = .int .i64 k ∧ St w [(w1.heap.size + 1, #[.int .u32 e, .int .u32 s, .int .u32 p, .int .i64 y, .int .i64 n, .int .i64 0], 116), (w1.heap.size, #[.int .u32 y0, .int .u32 s, .int .u32 y2, .int .i64 y3, .int .i64 n, .int .i64 y5], 116), (w.heap.size, #[.string ByteArray.empty, .int .u32 0, .int .i64 0], 100)] wr v (decK xs k) ∧ ∀ j, j < k → OkSec e s p j n (secAt xs j)) (fun _ i _ => n - (intOf i).toNat)
  case atStart => exact ⟨0, 0, by omega, rfl, HS8.out, fun j hj => absurd hj (by omega)⟩
  case round =>
    clear HS8
    obtain ⟨k, y, hk, rfl, hst, hok⟩ := hrel
    have HST : Hid (St w [(w1.heap.size + 1, #[.int .u32 e, .int .u32 s, .int .u32 p, .int .i64 y, .int .i64 n, .int .i64 0], 116), (w1.heap.size, #[.int .u32 y0, .int .u32 s, .int .u32 y2, .int .i64 y3, .int .i64 n, .int .i64 y5], 116), (w.heap.size, #[.string ByteArray.empty, .int .u32 0, .int .i64 0], 100)] wr _ (decK xs k)) := hst
    have HOK : Hid (∀ j, j < k → OkSec e s p j n (secAt xs j)) := hok
    have HDL : Hid ((decK xs k).length ≤ 30000) := by have := decK_len_le xs k (fun j hj => (hok j hj).le); have := HL.out; show _ ≤ _; omega
    clear hst hok
    by_cases hkn : k < n
    · have hkI : (k : Int) < (n : Int) := by omega
      have HK : Hid (k < n ∧ (k + 1) * 128 ≤ xs.length) := ⟨hkn, by have := HM.out; have := HL.out; omega⟩
      have HR8 : Hid (wr.heap[w1.heap.size + 1]? = some (.cells #[.int .u32 e, .int .u32 s, .int .u32 p, .int .i64 y, .int .i64 n, .int .i64 0] 116 (0, 0))) := HST.out.row (by simp)
      obtain ⟨_, _, _, d3, _, _, df⟩ := box6 HR8.out
      have HS3 : Hid (St w [(w1.heap.size + 1, #[.int .u32 e, .int .u32 s, .int .u32 p, .int .i64 k, .int .i64 n, .int .i64 0], 116), (w1.heap.size, #[.int .u32 y0, .int .u32 s, .int .u32 y2, .int .i64 y3, .int .i64 n, .int .i64 y5], 116), (w.heap.size, #[.string ByteArray.empty, .int .u32 0, .int .i64 0], 100)] (wr.setCell ⟨w1.heap.size + 1, 3, none⟩ (.int .i64 k)) _ (decK xs k)) := HST.out.set (by omega) (by simp; omega) 3 (.int .i64 k)
      clear hkn
      go_wp2
      clear d3 df HST HR8
      generalize wr.setCell ⟨w1.heap.size + 1, 3, none⟩ (.int .i64 k) = w3 at *
      have HR3 : Hid (w3.heap[w1.heap.size + 1]? = some (.cells #[.int .u32 e, .int .u32 s, .int .u32 p, .int .i64 k, .int .i64 n, .int .i64 0] 116 (0, 0))) := HS3.out.row (by simp)
      have HI3 : Hid (BIn w3 (some ⟨b, o, none⟩) xs) := HB.out.below HS3.out.bel
      have k1 : IntKind.i64.wrap ((k : Int) * 128) = (k : Int) * 128 := by rw [IntKind.wrap_i64]; omega
      have t1 : ((k : Int) * 128).toNat = k * 128 := by omega
      have hhi : (k : Int) * 128 ≤ (m : Int) := by have := HM.out; have := HL.out; omega
      have hlo : (0 : Int) ≤ (k : Int) * 128 := by omega
      have hck : ¬ c = k * 128 := by have := HM.out; have := HL.out; omega
      have hck3 : (128 : Int) ≤ ((c - k * 128 : Nat) : Int) := by have := HM.out; have := HL.out; omega
      have HSL : Hid ((secAt xs k).length = 128 ∧ 128 ≤ c - k * 128 ∧ c - k * 128 ≤ maxLen ∧ k < 256 ∧ n < 256) := ⟨secAt_len HK.out.2, by have := HM.out; have := HL.out; omega, by have := HM.out; omega, by have := HL.out; omega, HL.out.2⟩
      by_cases hsec : OkSec e s p k n (secAt xs k)
      · have HSE : Hid (OkSec e s p k n (secAt xs k)) := hsec
        clear hsec
        go_region_held3 (fun w' => (w'.cell? ⟨w1.heap.size + 1, 0, none⟩ = some (.int .u32 e) ∧ w'.cell? ⟨w1.heap.size + 1, 1, none⟩ = some (.int .u32 s) ∧ w'.cell? ⟨w1.heap.size + 1, 2, none⟩ = some (.int .u32 p) ∧ w'.cell? ⟨w1.heap.size + 1, 3, none⟩ = some (.int .i64 k) ∧ w'.cell? ⟨w1.heap.size + 1, 4, none⟩ = some (.int .i64 n) ∧ w'.cell? ⟨w1.heap.size + 1, 5, none⟩ = some (.int .i64 0)) ∧ Below w3.heap.size w3 w')
          (with_reducible first | exact ⟨sixB HR3.out (Below.refl _ _).drew, (Below.refl _ _).drew⟩ | exact ⟨sixB HR3.out (below_dw (by assumption)), below_dw (by assumption)⟩ | assumption)
          (first | (go_at_call 67; refine (part_ok e s p k n b (o + k * 128) (c - k * 128) (secAt xs k) _ HSL.out.1 HSL.out.2.1 HSL.out.2.2.1 (sec_in (HI3.out.below (Below.refl _ _).drew)) HSL.out.2.2.2.1 HSL.out.2.2.2.2 HSE.out).mono ?_; rintro e4 w4 ⟨rfl, hb4⟩) | fail)
        rename_i hh
        have HB4 : Hid (Below w3.heap.size w3 w4) := hh.2
        have HS4 : Hid (St w [(w1.heap.size + 1, #[.int .u32 e, .int .u32 s, .int .u32 p, .int .i64 k, .int .i64 n, .int .i64 0], 116), (w1.heap.size, #[.int .u32 y0, .int .u32 s, .int .u32 y2, .int .i64 y3, .int .i64 n, .int .i64 y5], 116), (w.heap.size, #[.string ByteArray.empty, .int .u32 0, .int .i64 0], 100)] w4 _ (decK xs k)) := HS3.out.call HB4.out
        have HI4 : Hid (BIn w4 (some ⟨b, o, none⟩) xs) := HI3.out.below HB4.out
        have hz4 := HS4.out.size
        obtain ⟨z, hz⟩ : ∃ z, sizeOf2 (secAt xs k) = z := ⟨_, rfl⟩
        have HZ : Hid (sizeOf2 (secAt xs k) = z ∧ z ≤ 112) := ⟨hz, by have := HSE.out.le; omega⟩
        rw [hz]
        clear hh hb4 HS3 HI3 hz
        go_wp2_with (at_builtin; go_loud (refine wpList_append_bytes _ rfl _ _ rfl w.heap.size _ _ (bodyOf (secAt xs k)) (some ⟨b, o + k * 128 + 16, none⟩) _ _ rfl rfl (body_len HK.out.2 HZ.out.1 HZ.out.2).symm HS4.out.own (body_in HI4.out rfl) (fun h => by cases h) (by have := HDL.out; rw [body_len HK.out.2 HZ.out.1 HZ.out.2]; have := HZ.out.2; omega) hz4 ?_); intro va ua hoa hga; have ta := HS4.out.app hoa hga; have HTA : Hid _ := ta; clear ta hoa hga)
        go_roundw
        case rel => exact ⟨k + 1, k, by have := HK.out; omega, by go_num, HTA.out.eq (decK_snoc xs k).symm, fun j hj => by
          rcases Nat.lt_or_ge j k with h' | h'
          · exact HOK.out j h'
          · obtain rfl : j = k := by omega
            exact HSE.out⟩
        case measure => simp [intOf]; omega
      · have HSE : Hid (¬ OkSec e s p k n (secAt xs k)) := hsec
        clear hsec
        go_region_held3 (fun w' => (w'.cell? ⟨w1.heap.size + 1, 0, none⟩ = some (.int .u32 e) ∧ w'.cell? ⟨w1.heap.size + 1, 1, none⟩ = some (.int .u32 s) ∧ w'.cell? ⟨w1.heap.size + 1, 2, none⟩ = some (.int .u32 p) ∧ w'.cell? ⟨w1.heap.size + 1, 3, none⟩ = some (.int .i64 k) ∧ w'.cell? ⟨w1.heap.size + 1, 4, none⟩ = some (.int .i64 n) ∧ w'.cell? ⟨w1.heap.size + 1, 5, none⟩ = some (.int .i64 0)) ∧ Below w3.heap.size w3 w')
          (with_reducible first | exact ⟨sixB HR3.out (Below.refl _ _).drew, (Below.refl _ _).drew⟩ | exact ⟨sixB HR3.out (below_dw (by assumption)), below_dw (by assumption)⟩ | assumption)
          (first | (go_at_call 67; refine (part_bad e s p k n b (o + k * 128) (c - k * 128) (secAt xs k) _ HSL.out.1 HSL.out.2.1 HSL.out.2.2.1 (sec_in (HI3.out.below (Below.refl _ _).drew)) HSL.out.2.2.2.1 HSL.out.2.2.2.2 HSE.out).mono ?_; rintro e4 w4 ⟨rfl, hb4⟩) | fail)
        rename_i hh
        have HB4 : Hid (Below w3.heap.size w3 w4) := hh.2
        have HS4 : Hid (St w [(w1.heap.size + 1, #[.int .u32 e, .int .u32 s, .int .u32 p, .int .i64 k, .int .i64 n, .int .i64 0], 116), (w1.heap.size, #[.int .u32 y0, .int .u32 s, .int .u32 y2, .int .i64 y3, .int .i64 n, .int .i64 y5], 116), (w.heap.size, #[.string ByteArray.empty, .int .u32 0, .int .i64 0], 100)] w4 _ (decK xs k)) := HS3.out.call HB4.out
        clear hh hb4
        have HR6 : Hid (w4.heap[w.heap.size]? = some (.cells #[.string ByteArray.empty, .int .u32 0, .int .i64 0] 100 (0, 0))) := HS4.out.row (by simp)
        obtain ⟨f0, f1, f2, f3, f4, f5⟩ := box3 HR6.out
        go_wp2
        (try simp only [Exit.inBlock, Exit.then])
        refine bodyPost_ret (v := foundV (openR e p xs)) ?_ rfl ⟨rfl, below_set3 HS4.out.bel⟩
        rw [results_cell1 rfl, found_no HE.out.1 (no_sec' HE.out.2.1 HE.out.2.2 HSN.out.2 HSN.out.1 HK.out.1 HSE.out)]
        go_simp
        rfl
    · obtain rfl : k = n := by omega
      obtain ⟨q5, m5, hv5, _, _, hq5⟩ := own_form HST.out.own
      subst hv5
      have HBY : Hid (∀ c ∈ decK xs k, c < 256) := decK_byte HB.out.2 k
      have cv : (convert 22 9 (.slice q5 (decK xs k).length m5)).run Try.prog wr = .ok (.string (strOf (decK xs k))) wr := conv_at (own_at HST.out.own rfl HBY.out) rfl
      have HR6 : Hid (wr.heap[w.heap.size]? = some (.cells #[.string ByteArray.empty, .int .u32 0, .int .i64 0] 100 (0, 0))) := HST.out.row (by simp)
      have HR7 : Hid (wr.heap[w1.heap.size]? = some (.cells #[.int .u32 y0, .int .u32 s, .int .u32 y2, .int .i64 y3, .int .i64 k, .int .i64 y5] 116 (0, 0))) := HST.out.row (by simp)
      obtain ⟨f0, f1, f2, f3, f4, f5⟩ := box3 HR6.out
      obtain ⟨_, e1, _, _, e4, _, _⟩ := box6 HR7.out
      clear hq5
      by_cases hlong : 4096 < (decK xs k).length
      · have HNO : Hid (∀ s r, ¬ IsRec e p xs s r) := no_long HE.out.2.1 HE.out.2.2 HSN.out.2 hlong
        have g5 : decide ((4096 : Int) < ((decK xs k).length : Int)) = true := decide_eq_true (by omega)
        clear hlong
        go_wp2
        (try simp only [Exit.inBlock, Exit.then])
        refine bodyPost_ret (v := foundV (openR e p xs)) ?_ rfl ⟨rfl, below_set3 HST.out.bel⟩
        rw [results_cell1 rfl, found_no HE.out.1 HNO.out]
        go_simp
        rfl
      · have HLG : Hid ((decK xs k).length ≤ 4096) := by show _ ≤ _; omega
        have g5 : decide ((4096 : Int) < ((decK xs k).length : Int)) = false := decide_eq_false (by omega)
        clear hlong
        go_wp2
        (try simp only [Exit.inBlock, Exit.then])
        refine bodyPost_ret (v := foundV (openR e p xs)) ?_ rfl ⟨rfl, below_set3 HST.out.bel⟩
        have hrec := rec_of (e := e) (p := p) (n := k) HB.out.2 (by have := HN0.out; omega) HS0.out HS32.out (by have := HM.out; have := HL.out; omega) HOK.out HLG.out
        have hneed := (rec_dec HE.out.2.1 HE.out.2.2 hrec).2.1.symm.trans HSN.out.2
        rw [results_cell1 rfl, found_yes HE.out.1 HE.out.2.1 HE.out.2.2 hrec hneed]
        go_simp
end Go.Proofs.Ytpbfoppaeeafhaa
namespace Go.Proofs.Ytpbfoppaeeafhaa
open Go.RowKit Go.WideShapes

theorem openR_err {e p : Nat} {xs : List Nat} (he0 : e ≠ 0) : (openR e p xs).2.2.2 = 0 := by
  unfold openR
  rw [if_neg he0]
  split <;> rfl
theorem open_any (e p m c : Nat) (q : Option Addr) (xs : List Nat) (w : World) (he0 : e ≠ 0) (he : e < 4294967296) (hp : p < 4294967296) (hm : m = xs.length) (hmc : m ≤ c) (hcm : c ≤ maxLen) (hb : BIn w q xs) (hL : m ≤ 10000) :
    Calls Try.prog 49 #[.int .u32 e, .int .u32 p, .slice q m c] w fun x w' => x = .returned (foundV (openR e p xs)) ∧ Below w.heap.size w w' := by
  by_cases h1 : m < 128
  · have g1 : decide ((m : Int) < 128) = true := decide_eq_true (by omega)
    have HN : Hid (xs.length < 128) := by show _ < _; omega
    have HE : Hid (e ≠ 0) := he0
    clear h1 he0 hm hmc hcm hL he hp hb
    go_enter Try.func49, Try.ntmps49
    go_wp2
    (try simp only [Exit.inBlock, Exit.then])
    refine bodyPost_ret (v := foundV (openR e p xs)) ?_ rfl ⟨rfl, below_alloc _ _⟩
    rw [results_cell1 rfl, found_no HE.out (no_short HN.out)]
    go_simp
    rfl
  · obtain ⟨b, o, rfl⟩ := hb.addr (by omega)
    exact open_main e p b o m c xs w he0 he hp hm (by omega) hmc hcm hb hL
theorem Open_any (e p m c : Nat) (q : Option Addr) (xs : List Nat) (w : World) (he : e < 4294967296) (hp : p < 4294967296) (hm : m = xs.length) (hmc : m ≤ c) (hcm : c ≤ maxLen) (hb : BIn w q xs) (hL : m ≤ 10000) (R : OpenT) (hR : openR e p xs = R) :
    Calls Try.prog 17 #[.int .u32 e, .int .u32 p, .slice q m c] w fun x w' => x = .returned (openE R) ∧ Below w.heap.size w w' := by
  by_cases h0 : e = 0
  · subst h0
    rw [openR_zero] at hR
    subst hR
    clear he hp hcm
    go_enter Try.func17, Try.ntmps17
    go_wp2
    (try simp only [Exit.inBlock, Exit.then]); refine bodyPost_ret (results_tmp4 rfl _ _ _) rfl ?_
    exact ⟨rfl, Below.refl _ _⟩
  · have g0 := beq0 h0
    have HO := open_any e p m c q xs w h0 he hp hm hmc hcm hb hL
    have HZ : Hid (R.2.2.2 = 0) := by rw [← hR]; exact openR_err h0
    rw [hR] at HO
    obtain ⟨r0, r1, r2, r3⟩ := R
    unfold foundV at HO
    clear hR h0 he hp hm hmc hcm hb hL
    go_enter Try.func17, Try.ntmps17
    go_wp2_with fail
    refine HO.mono ?_
    rintro x w1 ⟨rfl, hb1⟩
    have HB1 : Hid (Below w.heap.size w (w1.alloc (.cells #[.string r0, .int .u32 r1, .int .i64 r2] 100))) := below_bt hb1 (below_alloc _ _)
    clear hb1 HO
    go_wp2
    go_quiet (fail)
    go_wp2
    (try simp only [Exit.inBlock, Exit.then]); refine bodyPost_ret (results_tmp4 rfl _ _ _) rfl ?_
    have hz : r3 = 0 := HZ.out
    subst hz
    exact ⟨rfl, below_bt HB1.out (below_dr _ _)⟩
end Go.Proofs.Ytpbfoppaeeafhaa
namespace Go.Proofs.Ytpbfoppaeeafhaa
open Go.RowKit

/-- Writes that wait: the sector, its bytes. -/
abbrev Puts := List (Int × List Nat)
/-- A disk may be. -/
structure Okay (count : Int) (data : List Nat) (ws : Puts) : Prop where
  lo : 1 ≤ count
  hi : count ≤ 4096
  len : (data.length : Int) = count * 128
  few : ws.length ≤ 4096
  each : ∀ y ∈ ws, 0 ≤ y.1 ∧ y.1 < count ∧ y.2.length = 128

/-- The bytes of sector n. -/
def secN (data : List Nat) (n : Nat) : List Nat := (data.drop (n * 128)).take 128
/-- A write made sure. -/
def putS (data : List Nat) (y : Int × List Nat) : List Nat := splice data (y.1.toNat * 128) y.2
/-- The first k writes made sure. -/
def settleK (data : List Nat) (ws : Puts) : Nat → List Nat
  | 0 => data
  | k + 1 => putS (settleK data ws k) (ws.getD k (0, []))
/-- Of the first k writes those made sure that are kept. -/
def crashK (data : List Nat) (ws : Puts) (keep : List Bool) : Nat → List Nat
  | 0 => data
  | k + 1 => if keep.getD k false = true then putS (crashK data ws keep k) (ws.getD k (0, [])) else crashK data ws keep k
/-- The last one of the first k writes that are of sector n. -/
def nowK (ws : Puts) (n : Int) : Nat → Option (List Nat)
  | 0 => none
  | k + 1 => if (ws.getD k (0, [])).1 = n then some (ws.getD k (0, [])).2 else nowK ws n k
/-- A sector now. -/
def nowN (data : List Nat) (ws : Puts) (n : Int) : List Nat := (nowK ws n ws.length).getD (secN data n.toNat)
def settleN (data : List Nat) (ws : Puts) : List Nat := settleK data ws ws.length
def crashN (data : List Nat) (ws : Puts) (keep : List Bool) : List Nat := crashK data ws keep ws.length

theorem getD_mem {ws : Puts} {k : Nat} (h : k < ws.length) : ws.getD k (0, []) ∈ ws := by
  simp [List.getD, List.getElem?_eq_getElem h]
theorem Okay.wait {count : Int} {data : List Nat} {ws : Puts} (h : Okay count data ws) {k : Nat} (hk : k < ws.length) : 0 ≤ (ws.getD k (0, [])).1 ∧ (ws.getD k (0, [])).1 < count ∧ (ws.getD k (0, [])).2.length = 128 := h.each _ (getD_mem hk)
theorem secN_len {data : List Nat} {n : Nat} (h : (n + 1) * 128 ≤ data.length) : (secN data n).length = 128 := by
  simp [secN]; omega
theorem putS_len {data : List Nat} {y : Int × List Nat} (h : y.1.toNat * 128 + y.2.length ≤ data.length) : (putS data y).length = data.length := length_splice _ _ _ h
theorem settleK_len {count : Int} {data : List Nat} {ws : Puts} (h : Okay count data ws) : ∀ k, k ≤ ws.length → (settleK data ws k).length = data.length
  | 0, _ => rfl
  | k + 1, hk => by
    have ih := settleK_len h k (by omega)
    have hw := h.wait (show k < ws.length from hk)
    have := h.len
    rw [settleK, putS_len (by rw [ih, hw.2.2]; omega), ih]
theorem crashK_len {count : Int} {data : List Nat} {ws : Puts} (h : Okay count data ws) (keep : List Bool) : ∀ k, k ≤ ws.length → (crashK data ws keep k).length = data.length
  | 0, _ => rfl
  | k + 1, hk => by
    have ih := crashK_len h keep k (by omega)
    have hw := h.wait (show k < ws.length from hk)
    have := h.len
    rw [crashK]
    split
    · rw [putS_len (by rw [ih, hw.2.2]; omega), ih]
    · exact ih
theorem nowK_len {count : Int} {data : List Nat} {ws : Puts} (h : Okay count data ws) {n : Int} {xs : List Nat} : ∀ k, k ≤ ws.length → nowK ws n k = some xs → xs.length = 128 ∧ ∃ y ∈ ws, y.1 = n ∧ y.2 = xs
  | 0, _, e => by simp [nowK] at e
  | k + 1, hk, e => by
    rw [nowK] at e
    split at e
    · rename_i hn
      simp only [Option.some.injEq] at e
      exact ⟨by rw [← e]; exact (h.wait (show k < ws.length from hk)).2.2, _, getD_mem hk, hn, e⟩
    · exact nowK_len h k (by omega) e
theorem nowN_len {count : Int} {data : List Nat} {ws : Puts} (h : Okay count data ws) {n : Nat} (hn : (n : Int) < count) : (nowN data ws n).length = 128 := by
  unfold nowN
  cases e : nowK ws n ws.length with
  | none => have := h.len; exact secN_len (by simp; omega)
  | some xs => exact (nowK_len h _ (Nat.le_refl _) e).1
theorem okay_settled {count : Int} {data : List Nat} {ws : Puts} (h : Okay count data ws) : Okay count (settleN data ws) [] :=
  ⟨h.lo, h.hi, by rw [settleN, settleK_len h _ (Nat.le_refl _)]; exact h.len, by simp, by simp⟩
theorem okay_crashed {count : Int} {data : List Nat} {ws : Puts} (h : Okay count data ws) (keep : List Bool) : Okay count (crashN data ws keep) [] :=
  ⟨h.lo, h.hi, by rw [crashN, crashK_len h _ _ (Nat.le_refl _)]; exact h.len, by simp, by simp⟩
/-- Sectors behind a write. -/
theorem sec_put {data : List Nat} {y : Int × List Nat} {n : Nat} (h0 : 0 ≤ y.1) (h1 : y.2.length = 128) (h2 : y.1.toNat * 128 + 128 ≤ data.length) (hn : n * 128 + 128 ≤ data.length) :
    secN (putS data y) n = if y.1 = n then y.2 else secN data n := by
  obtain ⟨s, b⟩ := y
  obtain ⟨m, rfl⟩ := Int.eq_ofNat_of_zero_le h0
  simp only [Int.toNat_natCast, secN, putS, splice] at *
  split
  · rename_i e
    obtain rfl : m = n := by omega
    rw [List.drop_append_of_le_length (by simp; omega), List.drop_eq_nil_of_le (by simp; omega), List.nil_append, ← h1, List.take_left]
  · rename_i e
    have hne : m ≠ n := by omega
    apply List.ext_getElem?
    intro i
    simp only [List.getElem?_take, List.getElem?_drop]
    split
    · rename_i hi
      rcases Nat.lt_or_gt_of_ne hne with h | h
      · rw [List.getElem?_append_right (by simp; omega), List.getElem?_append_right (by simp; omega), List.getElem?_drop]
        congr 1
        simp; omega
      · rw [List.getElem?_append_left (by simp; omega), List.getElem?_take, if_pos (by omega)]
    · rfl
theorem sec_crash {count : Int} {data : List Nat} {ws : Puts} (h : Okay count data ws) (keep : List Bool) {n : Nat} (hn : (n : Int) < count) : ∀ k, k ≤ ws.length →
    secN (crashK data ws keep k) n = secN data n ∨ ∃ y ∈ ws, y.1 = n ∧ y.2 = secN (crashK data ws keep k) n
  | 0, _ => .inl rfl
  | k + 1, hk => by
    have ih := sec_crash h keep hn k (by omega)
    have hw := h.wait (show k < ws.length from hk)
    have hl := crashK_len h keep k (by omega)
    have hlen := h.len
    rw [crashK]
    split
    · rw [sec_put hw.1 hw.2.2 (by omega) (by omega)]
      split
      · rename_i e
        exact .inr ⟨_, getD_mem hk, e, rfl⟩
      · exact ih
    · exact ih
theorem sec_settle {count : Int} {data : List Nat} {ws : Puts} (h : Okay count data ws) {n : Nat} (hn : (n : Int) < count) : ∀ k, k ≤ ws.length → secN (settleK data ws k) n = (nowK ws n k).getD (secN data n)
  | 0, _ => rfl
  | k + 1, hk => by
    have ih := sec_settle h hn k (by omega)
    have hw := h.wait (show k < ws.length from hk)
    have hl := settleK_len h k (by omega)
    have hlen := h.len
    rw [settleK, sec_put hw.1 hw.2.2 (by omega) (by omega), nowK]
    split
    · rfl
    · exact ih
/-- A flush changes nothing that is read. -/
theorem now_settled {count : Int} {data : List Nat} {ws : Puts} (h : Okay count data ws) {n : Nat} (hn : (n : Int) < count) : nowN (settleN data ws) [] n = nowN data ws n := by
  have := sec_settle h hn ws.length (Nat.le_refl _)
  simpa [nowN, nowK, settleN] using this
theorem crash_all {data : List Nat} {ws : Puts} {keep : List Bool} (hk : ∀ k, k < ws.length → keep.getD k false = true) : ∀ k, k ≤ ws.length → crashK data ws keep k = settleK data ws k
  | 0, _ => rfl
  | k + 1, h => by rw [crashK, settleK, if_pos (hk k h), crash_all hk k (by omega)]
theorem crash_none {data : List Nat} {ws : Puts} : ∀ k, crashK data ws [] k = data
  | 0 => rfl
  | k + 1 => by rw [crashK, if_neg (by simp), crash_none k]
theorem getD_app_left {ws : Puts} {y : Int × List Nat} {k : Nat} (h : k < ws.length) : (ws ++ [y]).getD k (0, []) = ws.getD k (0, []) := by
  simp [List.getD, List.getElem?_append_left h]
theorem nowK_app {ws : Puts} {y : Int × List Nat} {n : Int} : ∀ k, k ≤ ws.length → nowK (ws ++ [y]) n k = nowK ws n k
  | 0, _ => rfl
  | k + 1, h => by rw [nowK, nowK, getD_app_left (show k < ws.length from h), nowK_app k (by omega)]
/-- What was written is read; all else as it was. -/
theorem now_written {data : List Nat} {ws : Puts} {y : Int × List Nat} {n : Int} : nowN data (ws ++ [y]) n = if y.1 = n then y.2 else nowN data ws n := by
  unfold nowN
  have e : (ws ++ [y]).length = ws.length + 1 := by simp
  rw [e, nowK]
  have e2 : (ws ++ [y]).getD ws.length (0, []) = y := by simp [List.getD]
  rw [e2, nowK_app _ (Nat.le_refl _)]
  split <;> rfl

/-- Acts: whether it flushes, its sector, its bytes. -/
abbrev Acts := List (Bool × Int × List Nat)
/-- One act: an error, or the disk then. -/
def stepA (count : Int) (s : List Nat × Puts) (a : Bool × Int × List Nat) : Except Int (List Nat × Puts) :=
  if a.1 = true then .ok (settleN s.1 s.2, [])
  else if ¬ (0 ≤ a.2.1 ∧ a.2.1 < count) then .error 21
  else if a.2.2.length ≠ 128 then .error 8
  else if 4096 ≤ s.2.length then .error 4
  else .ok (s.1, s.2 ++ [a.2])
def doN (count : Int) : List Nat × Puts → Acts → Except Int (List Nat × Puts)
  | s, [] => .ok s
  | s, a :: l => match stepA count s a with
    | .ok s' => doN count s' l
    | .error e => .error e
theorem doN_app (count : Int) (l m : Acts) : ∀ s, doN count s (l ++ m) = match doN count s l with | .ok s' => doN count s' m | .error e => .error e := by
  induction l with
  | nil => intro s; rfl
  | cons a l ih =>
    intro s
    simp only [List.cons_append, doN]
    cases stepA count s a with
    | ok s' => exact ih s'
    | error e => rfl
theorem take_succ_getD {l : Acts} {k : Nat} (h : k < l.length) : l.take (k + 1) = l.take k ++ [l.getD k (false, 0, [])] := by
  rw [List.take_succ_eq_append_getElem h]; simp [List.getD, List.getElem?_eq_getElem h]
theorem doN_step {count : Int} {s s' : List Nat × Puts} {l : Acts} {k : Nat} (h : k < l.length) (e : doN count s (l.take k) = .ok s') : doN count s (l.take (k + 1)) = stepA count s' (l.getD k (false, 0, [])) := by
  rw [take_succ_getD h, doN_app, e]
  show doN count s' _ = _
  simp only [doN]
  cases stepA count s' (l.getD k (false, 0, [])) <;> rfl
theorem doN_fail {count : Int} {s : List Nat × Puts} {l : Acts} {k : Nat} {c : Int} (e : doN count s (l.take k) = .error c) : doN count s l = .error c := by
  rw [← List.take_append_drop k l, doN_app, e]
theorem okay_step {count : Int} {s s' : List Nat × Puts} {a : Bool × Int × List Nat} (h : Okay count s.1 s.2) (e : stepA count s a = .ok s') : Okay count s'.1 s'.2 := by
  unfold stepA at e
  split at e
  · simp only [Except.ok.injEq] at e; subst e; exact okay_settled h
  · split at e
    · cases e
    · split at e
      · cases e
      · split at e
        · cases e
        · rename_i h1 h2 h3 h4
          simp only [Except.ok.injEq] at e
          subst e
          refine ⟨h.lo, h.hi, h.len, by simp; omega, ?_⟩
          intro y hy
          simp only [List.mem_append, List.mem_singleton] at hy
          rcases hy with hy | rfl
          · exact h.each y hy
          · have := Decidable.not_not.1 h2
            exact ⟨this.1, this.2, Decidable.not_not.1 h3⟩
theorem okay_do {count : Int} (l : Acts) : ∀ {s s' : List Nat × Puts}, Okay count s.1 s.2 → doN count s l = .ok s' → Okay count s'.1 s'.2 := by
  induction l with
  | nil => intro s s' h e; simp only [doN, Except.ok.injEq] at e; subst e; exact h
  | cons a l ih =>
    intro s s' h e
    simp only [doN] at e
    cases e1 : stepA count s a with
    | ok t => rw [e1] at e; exact ih (okay_step h e1) e
    | error c => rw [e1] at e; cases e
end Go.Proofs.Ytpbfoppaeeafhaa
namespace Go.Proofs.Ytpbfoppaeeafhaa
open Go.RowKit Go.WideShapes

theorem info_u8 : (Try.prog.info? 5).map (fun i => (i.zero, i.size, i.bytes)) = some (some (.int .u8 0), 1, 1) := by kernel_rfl
theorem size_u8 : (Try.prog.info? 5).map (·.size) = some 1 := by kernel_rfl

/-- A row that the call made, whole. -/
theorem row_full {w : World} {base e g n : Nat} {xs : List Value} (h : w.ownsRow base e 1 (.slice (some ⟨g, 0, none⟩) n n) n xs) : w.heap[g]? = some (.cells xs.toArray e (0, 0)) := by
  rcases h.2 with ⟨h, _⟩ | ⟨g', cap, cur, hv, _, hg, _, _, hs, ht⟩
  · cases h
  · simp only [Value.slice.injEq, Option.some.injEq, Addr.mk.injEq, and_true, true_and] at hv
    obtain ⟨rfl, rfl⟩ := hv
    rw [hg]
    rw [List.take_of_length_le (by simp; omega)] at ht
    rw [← ht, Array.toArray_toList]
theorem zeros_madeD (n : Nat) : (madeCells #[Value.int .u8 0] n).toList = Bs (List.replicate n 0) := by
  rw [toList_madeCells_one]
  simp [Bs]
theorem splice_all {α : Type} {L cs : List α} (h : cs.length = L.length) : splice L 0 cs = cs := by
  simp [splice, h]
theorem Bs_spliceD (xs ys : List Nat) (o : Nat) : splice (Bs xs) o (Bs ys) = Bs (splice xs o ys) := by simp [splice, Bs]
theorem mayCount_any (n : Int) (w : World) : Calls Try.prog 35 #[.int .i64 n] w fun e w' => e = .returned (.bool (decide (1 ≤ n ∧ n ≤ 4096))) ∧ w' = w := by
  by_cases h1 : 1 ≤ n
  · go_enter Try.func35, Try.ntmps35
    go_wp2
    go_ret
    exact ⟨by simp [h1], rfl⟩
  · go_enter Try.func35, Try.ntmps35
    go_wp2
    go_ret
    exact ⟨by simp; omega, rfl⟩

theorem has_any (count n : Int) (a b : Value) (w : World) : Calls Try.prog 65 #[.agg #[.int .i64 count, a, b], .int .i64 n] w fun e w' => e = .returned (.bool (decide (0 ≤ n ∧ n < count))) ∧ ∃ o, w' = w.alloc o := by
  by_cases h1 : 0 ≤ n
  · go_enter Try.func65, Try.ntmps65
    go_wp2
    go_ret
    exact ⟨by simp [h1], _, rfl⟩
  · go_enter Try.func65, Try.ntmps65
    go_wp2
    go_ret
    exact ⟨by simp; omega, _, rfl⟩

/-- The place of sector n. -/
theorem sector_any (b o len cap n : Nat) (w : World) (hn : n < 4096) (hl : (n + 1) * 128 ≤ len) (hc : len ≤ cap) :
    Calls Try.prog 59 #[.slice (some ⟨b, o, none⟩) len cap, .int .i64 n] w fun e w' => e = .returned (.slice (some ⟨b, o + n * 128, none⟩) 128 (cap - n * 128)) ∧ w' = w := by
  go_enter Try.func59, Try.ntmps59
  go_wp2
  go_ret
  exact ⟨by show Ending.returned (.slice _ ((n + 1) * 128 - n * 128) _) = _; rw [show (n + 1) * 128 - n * 128 = 128 from by omega], rfl⟩

/-- Bytes in new memory: 128 of them. -/
theorem copyOf_any (p : Option Addr) (cap : Nat) (xs : List Nat) (w : World) (hb : BIn w p xs) (hx : xs.length = 128) :
    Calls Try.prog 66 #[.slice p 128 cap] w fun e w' => ∃ g, e = .returned (.slice (some ⟨g, 0, none⟩) 128 128) ∧ w.heap.size ≤ g ∧ w'.heap[g]? = some (.cells (Bs xs).toArray 5 (0, 0)) ∧ Below w.heap.size w w' := by
  obtain ⟨i0, hi, hz0, hz1, hz2⟩ := info_parts info_u8
  go_enter Try.func66, Try.ntmps66
  go_wp2_with (at_make; refine wpList_make_full _ rfl _ _ 22 rfl w.heap.size 5 i0 (.int .u8 0) 1 Try.underlying22 hi hz0 hz1 .i64 .i64 _ _ 128 rfl rfl rfl rfl (by rw [hz2]; decide) (by decide) (Nat.le_refl _) ?_)
  intro w1 hown hgrow
  have hrow := row_full hown
  rw [zeros_madeD] at hrow
  have hb1 : Below w.heap.size w w1 := (Below.refl _ _).grown hgrow (Nat.le_refl _) (fun k hk => by cases hk)
  obtain ⟨b, o, rfl, hc⟩ := hb.1 (by omega)
  have hsrc : Hid (∀ j v, (Bs xs)[j]? = some v → w1.cell? ((⟨b, o, none⟩ : Addr).add j) = some v) := bin_news (hb.below hb1)
  have HR : Hid (w1.heap[w.heap.size]? = some (.cells (Bs (List.replicate 128 0)).toArray 5 (0, 0))) := hrow
  have HL : Hid ((Bs xs).length = Nat.min 128 128) := by show _ = _; rw [Bs_len, hx]; rfl
  have HF : Hid (0 + (Bs xs).length ≤ (Bs (List.replicate 128 0)).length) := by show _ ≤ _; rw [Bs_len, Bs_len, hx]; simp
  clear hown hgrow hrow hb hc
  go_wp2_with (refine wpList_copy_splice (o := ⟨some 9, _, _, _, _, _⟩) rfl (.tmp 7) (.tmp 8) 22 22 rfl 5 Try.underlying22 size_u8 (some ⟨w.heap.size, 0, none⟩) (some ⟨b, o, none⟩) 128 128 128 cap rfl rfl w.heap.size 0 (Bs (List.replicate 128 0)) 5 HR.out (Bs xs) HL.out (fun _ => ⟨rfl, _, rfl, hsrc.out⟩) HF.out (Bs_oneCell xs) w.heap.size w hb1 (Nat.le_refl _) ?_)
  intro w2 hrow2 hb2
  go_wp2
  go_ret
  refine ⟨_, rfl, Nat.le_refl _, ?_, hb2⟩
  rw [hrow2.out, splice_all (by rw [HL.out, Bs_len]; simp)]
end Go.Proofs.Ytpbfoppaeeafhaa
namespace Go.Proofs.Ytpbfoppaeeafhaa
open Go.RowKit Go.WideShapes

/-- Where a disk lies that is handed in: its parts written out. -/
theorem DiskIn.parts {w : World} {v : Value} {count : Int} {data : List Nat} {ws : Puts} (h : DiskIn w v count data ws) :
    ∃ p c q m, v = .agg #[.int .i64 count, .slice p data.length c, .slice q ws.length m] ∧ BIn w p data ∧ data.length ≤ c ∧ c ≤ maxLen ∧ (p = none → c = 0) ∧ PutsIn w q ws ∧ ws.length ≤ m ∧ m ≤ maxLen ∧ (q = none → m = 0) := by
  obtain ⟨dv, q, m, rfl, hr, hp, h1, h2, h3⟩ := h.lies
  obtain ⟨p, c, rfl, g1, g2, g3, g4⟩ := hr.lies
  exact ⟨p, c, q, m, rfl, g1, g2, g3, g4, hp, h1, h2, h3⟩
theorem i64_bounds {n : Int} (h : (Lit.int .i64 n).wf = true) : -9223372036854775808 ≤ n ∧ n ≤ 9223372036854775807 := bounds_i64 h
/-- One wait of a row of them. -/
theorem PutsIn.at {w : World} {b o : Nat} {ws : Puts} (h : PutsIn w (some ⟨b, o, none⟩) ws) {k : Nat} (hk : k < ws.length) :
    w.cell? ⟨b, o + k * 2, none⟩ = some (.int .i64 (ws.getD k (0, [])).1) ∧ ∃ p c, w.cell? ⟨b, o + (k * 2 + 1), none⟩ = some (.slice p (ws.getD k (0, [])).2.length c) ∧ BIn w p (ws.getD k (0, [])).2 ∧ (ws.getD k (0, [])).2.length ≤ c ∧ c ≤ maxLen ∧ (p = none → c = 0) := by
  obtain ⟨b', o', e, hc⟩ := h (by omega)
  simp only [Option.some.injEq, Addr.mk.injEq, and_true] at e
  obtain ⟨rfl, rfl⟩ := e
  obtain ⟨h1, v, h2, hr⟩ := hc k hk
  obtain ⟨p, c, rfl, g⟩ := hr.lies
  exact ⟨h1, p, c, h2, g⟩

theorem box_cells {w wr : World} {a b c : Value} {t : TypeId} (h : Below (w.heap.size + 1) (w.alloc (.cells #[a, b, c] t)) wr) :
    wr.cell? ⟨w.heap.size, 0, none⟩ = some a ∧ wr.cell? ⟨w.heap.size, 1, none⟩ = some b ∧ wr.cell? ⟨w.heap.size, 2, none⟩ = some c := by
  have hh : wr.heap[w.heap.size]? = some (.cells #[a, b, c] t (0, 0)) := (h.block _ (by omega)).trans (heap_alloc_new w _)
  exact ⟨cell_of_row _ _ _ _ _ _ hh, cell_of_row _ _ _ _ _ _ hh, cell_of_row _ _ _ _ _ _ hh⟩
theorem box_below {w wr : World} {o : Obj} (h : Below (w.heap.size + 1) (w.alloc o) wr) : Below w.heap.size w wr := (below_alloc w o).trans (h.mono (by omega))
theorem PutsIn.addr {w : World} {q : Option Addr} {ws : Puts} (h : PutsIn w q ws) (hw : 0 < ws.length) : ∃ b o, q = some ⟨b, o, none⟩ := by
  obtain ⟨b, o, e, _⟩ := h hw
  exact ⟨b, o, e⟩
theorem PutsIn.at' {w : World} {b o : Nat} {ws : Puts} (h : PutsIn w (some ⟨b, o, none⟩) ws) {k : Nat} (hk : k < ws.length) :
    w.cell? ⟨b, o + k * 2, none⟩ = some (.int .i64 (ws.getD k (0, [])).1) ∧ ∃ p c, w.cell? ⟨b, o + k * 2 + 1, none⟩ = some (.slice p (ws.getD k (0, [])).2.length c) ∧ (ws.getD k (0, [])).2.length ≤ c ∧ c ≤ 9223372036854775807 := by
  obtain ⟨h1, p, c, h2, _, h3, h4, _⟩ := h.at hk
  unfold maxLen at h4
  exact ⟨h1, p, c, by rw [Nat.add_assoc]; exact h2, h3, by omega⟩
theorem box_size {w wr : World} {o : Obj} (h : Below (w.heap.size + 1) (w.alloc o) wr) : w.heap.size < wr.heap.size := by
  have := h.size
  simp at this
  omega
/-- What the waits must be, the first k of them. -/
def GoodK (count : Int) (ws : Puts) (k : Nat) : Prop := ∀ i, i < k → 0 ≤ (ws.getD i (0, [])).1 ∧ (ws.getD i (0, [])).1 < count ∧ (ws.getD i (0, [])).2.length = 128
theorem GoodK.step {count : Int} {ws : Puts} {k : Nat} (h : GoodK count ws k) (h1 : 0 ≤ (ws.getD k (0, [])).1 ∧ (ws.getD k (0, [])).1 < count) (h2 : (ws.getD k (0, [])).2.length = 128) : GoodK count ws (k + 1) := by
  intro i hi
  rcases Nat.lt_or_ge i k with h' | h'
  · exact h i h'
  · obtain rfl : i = k := by omega
    exact ⟨h1.1, h1.2, h2⟩
theorem GoodK.bad {count : Int} {data : List Nat} {ws : Puts} {k : Nat} (hk : k < ws.length) (h : ¬ ((0 ≤ (ws.getD k (0, [])).1 ∧ (ws.getD k (0, [])).1 < count) ∧ (ws.getD k (0, [])).2.length = 128)) : ¬ Okay count data ws := by
  intro ho
  have := ho.wait hk
  exact h ⟨⟨this.1, this.2.1⟩, this.2.2⟩
theorem GoodK.okay {count : Int} {data : List Nat} {ws : Puts} (h : GoodK count ws ws.length) (h1 : 1 ≤ count) (h2 : count ≤ 4096) (h3 : (data.length : Int) = count * 128) (h4 : ws.length ≤ 4096) : Okay count data ws := by
  refine ⟨h1, h2, h3, h4, fun y hy => ?_⟩
  obtain ⟨i, hi, rfl⟩ := List.getElem_of_mem hy
  have := h i hi
  simpa [List.getD, List.getElem?_eq_getElem hi] using this
open Classical in
noncomputable def errC (count : Int) (data : List Nat) (ws : Puts) : Int := if Okay count data ws then 0 else 20
theorem errC_ok {count : Int} {data : List Nat} {ws : Puts} (h : Okay count data ws) : errC count data ws = 0 := if_pos h
theorem errC_bad {count : Int} {data : List Nat} {ws : Puts} (h : ¬ Okay count data ws) : errC count data ws = 20 := if_neg h

set_option maxHeartbeats 1000000 in
theorem check_any (v : Value) (count : Int) (data : List Nat) (ws : Puts) (w : World) (hd : DiskIn w v count data ws) :
    Calls Try.prog 44 #[v] w fun e w' => e = .returned (.int .i64 (errC count data ws)) ∧ Below w.heap.size w w' := by
  obtain ⟨p, c, q, m, rfl, hb, hc, hcm, hp, hq, hm, hmm, hqn⟩ := hd.parts
  have hcount := i64_bounds hd.count_wf
  clear hd hb hp hqn
  unfold maxLen at hcm hmm
  by_cases h1 : 1 ≤ count ∧ count ≤ 4096
  · by_cases h2 : (data.length : Int) = count * 128
    · by_cases h3 : ws.length ≤ 4096
      · go_enter Try.func44, Try.ntmps44
        go_wp2_with (go_at_call 35; refine (mayCount_any count _).mono ?_; rintro e w1 ⟨rfl, rfl⟩; rw [decide_eq_true h1])
        go_loopw [27] (fun i wr => ∃ k : Nat, k ≤ ws.length ∧ i = .int .i64 k ∧ GoodK count ws k ∧ Below (w.heap.size + 1) (w.alloc (.cells #[.int .i64 count, .slice p data.length c, .slice q ws.length m] 25)) wr) (fun i _ => ws.length - (intOf i).toNat)
        case atStart => exact ⟨0, by omega, rfl, fun i hi => absurd hi (by omega), Below.refl _ _⟩
        case round =>
          obtain ⟨k, hk, rfl, hgood, hbel⟩ := hrel
          have HG : Hid _ := hgood
          clear hgood
          obtain ⟨hc0, hc1, hc2⟩ := box_cells hbel
          have hsz := box_size hbel
          by_cases hkl : k < ws.length
          · obtain ⟨b, o, rfl⟩ := hq.addr (by omega)
            obtain ⟨e1, pk, ck, e2, f1, f2⟩ := (hq.below (box_below hbel)).at' hkl
            clear hq
            have HS := GoodK.step (k := k) HG.out
            have HE := GoodK.bad (data := data) (k := k) (count := count) hkl
            generalize ws.getD k (0, []) = y at *
            obtain ⟨s, xs⟩ := y
            have HS' : Hid _ := HS
            have HE' : Hid _ := HE
            clear HS HE
            simp only at e1 e2 f1
            by_cases g1 : 0 ≤ s ∧ s < count
            · by_cases g2 : xs.length = 128
              · have HG2 : Hid (GoodK count ws (k + 1)) := HS'.out g1 g2
                go_wp2_with (go_at_call 65; refine (has_any count s _ _ _).mono ?_; rintro e w1 ⟨rfl, ob, rfl⟩; rw [decide_eq_true g1])
                go_roundw
                case rel => exact ⟨k + 1, by omega, by go_num, HG2.out, (hbel.alloc (by omega) _).alloc (by simp; omega) _⟩
                case measure => simp [intOf]; omega
              · have HB : Hid (errC count data ws = 20) := errC_bad (HE'.out (fun h => g2 h.2))
                have hne : ((xs.length : Int) != 128) = true := by simp; omega
                go_wp2_with (go_at_call 65; refine (has_any count s _ _ _).mono ?_; rintro e w1 ⟨rfl, ob, rfl⟩; rw [decide_eq_true g1])
                go_ret
                exact ⟨by rw [HB.out]; rfl, box_below ((hbel.alloc (by omega) _).alloc (by simp; omega) _)⟩
            · have HB : Hid (errC count data ws = 20) := errC_bad (HE'.out (fun h => g1 h.1))
              go_wp2_with (go_at_call 65; refine (has_any count s _ _ _).mono ?_; rintro e w1 ⟨rfl, ob, rfl⟩; rw [decide_eq_false g1])
              go_ret
              exact ⟨by rw [HB.out]; rfl, box_below ((hbel.alloc (by omega) _).alloc (by simp; omega) _)⟩
          · obtain rfl : k = ws.length := by omega
            have HO : Hid (errC count data ws = 0) := errC_ok (GoodK.okay HG.out h1.1 h1.2 h2 h3)
            clear HG
            go_wp2
            go_ret
            exact ⟨by rw [HO.out]; rfl, box_below hbel⟩
      · have HB : Hid (errC count data ws = 20) := errC_bad (fun h => h3 h.few)
        go_enter Try.func44, Try.ntmps44
        go_wp2_with (go_at_call 35; refine (mayCount_any count _).mono ?_; rintro e w1 ⟨rfl, rfl⟩; rw [decide_eq_true h1])
        go_ret
        exact ⟨by rw [HB.out]; rfl, below_alloc _ _⟩
    · have HB : Hid (errC count data ws = 20) := errC_bad (fun h => h2 h.len)
      have hne : ((data.length : Int) != count * 128) = true := by simpa using h2
      clear h2
      go_enter Try.func44, Try.ntmps44
      go_wp2_with (go_at_call 35; refine (mayCount_any count _).mono ?_; rintro e w1 ⟨rfl, rfl⟩; rw [decide_eq_true h1])
      go_ret
      exact ⟨by rw [HB.out]; rfl, below_alloc _ _⟩
  · have HB : Hid (errC count data ws = 20) := errC_bad (fun h => h1 ⟨h.lo, h.hi⟩)
    go_enter Try.func44, Try.ntmps44
    go_wp2_with (go_at_call 35; refine (mayCount_any count _).mono ?_; rintro e w1 ⟨rfl, rfl⟩; rw [decide_eq_false h1])
    go_ret
    exact ⟨by rw [HB.out]; rfl, below_alloc _ _⟩
theorem check_ok (v : Value) (count : Int) (data : List Nat) (ws : Puts) (w : World) (hd : DiskIn w v count data ws) (ho : Okay count data ws) :
    Calls Try.prog 44 #[v] w fun e w' => e = .returned (.int .i64 0) ∧ Below w.heap.size w w' := by
  have := check_any v count data ws w hd
  rwa [errC_ok ho] at this
theorem check_bad (v : Value) (count : Int) (data : List Nat) (ws : Puts) (w : World) (hd : DiskIn w v count data ws) (ho : ¬ Okay count data ws) :
    Calls Try.prog 44 #[v] w fun e w' => e = .returned (.int .i64 20) ∧ Below w.heap.size w w' := by
  have := check_any v count data ws w hd
  rwa [errC_bad ho] at this
end Go.Proofs.Ytpbfoppaeeafhaa
