/-
  The limits and errors of package log have their numbers, and the chapter's examples are so.
-/
import Derived.Test.YtpbfoppaeeafhaaJ13
import Derived.Lib.ConvBytes
import Derived.Test.YtpbfoppaeeafhaaRows
import Derived.WalkKit
import Derived.ProofKit
import Derived.OpenShut
import Derived.ShutString
import Derived.ChangeOld
import Derived.Below
namespace Go.Proofs.Ytpbfoppaeeafhaa
open Go.RowKit Go.WideShapes

def z113 : List Nat := List.replicate 113 0
def twoF : List Nat := frameN 1 1 1 z113
def twoW : Puts := [(17, abcF)] ++ putsK ((17 + 1 : Nat) : Int) twoF 2
theorem z113_byte : ∀ c ∈ z113, c < 256 := fun c hc => by rw [(List.mem_replicate.1 hc).2]; decide
theorem z113_len : z113.length = 113 := List.length_replicate
theorem needs113 : needsN z113.length = 2 := by rw [z113_len]; rfl
theorem twoF_len : twoF.length = 2 * 128 := by unfold twoF; rw [frameN_len, needs113]
theorem do_two : doAny 100 firstD [(17, abcF)] (actsK ((17 + 1 : Nat) : Int) twoF 2) = .ok (firstD, twoW) := by
  rw [doAny_ok _ okay_abc]
  exact do_puts (by omega) 2 (fun i hi => secAt_len (by have := twoF_len; omega)) (by omega) (by decide)
theorem hasTwo : HasLog 100 firstD twoW := ⟨doAny_okay do_two, by decide⟩
theorem epochN_take {xs ys : List Nat} (h : xs.take 128 = ys.take 128) : epochN xs = epochN ys := by
  have g : ∀ j, j < 128 → xs.getD j 0 = ys.getD j 0 := fun j hj => by
    have := congrArg (fun l => l.getD j 0) h
    simpa [List.getD, List.getElem?_take, hj] using this
  unfold epochN
  rw [g 0 (by omega), g 1 (by omega), g 2 (by omega), g 3 (by omega), g 4 (by omega), g 5 (by omega), g 6 (by omega), g 7 (by omega), h]
theorem epoch_two : epochN (logN firstD twoW) = 1 := by
  have e : epochN (logN firstD twoW) = epochN (logN firstD [(17, abcF)]) := epochN_take (log_added hasAbc hasTwo (by decide) twoF_len).1
  rw [e, log_abc, epoch_head]
theorem drop_abc : (logN firstD [(17, abcF)]).drop 128 = abcF ++ List.replicate 7936 0 := by rw [log_abc]; exact List.drop_left' (headL_len 1)
theorem recs_two : Recs 1 0 ((logN firstD twoW).drop 128) ([abcL] ++ [z113]) (1 + 2) 1 ((List.replicate 7936 0).drop (2 * 128)) := by
  obtain ⟨_, h1, h2, h3⟩ := log_added hasAbc hasTwo (by decide) twoF_len
  have hr : Recs 1 0 ((logN firstD [(17, abcF)]).drop 128) [abcL] 1 1 (List.replicate 7936 0) := by rw [drop_abc]; exact recs_abc
  have hd : ((logN firstD [(17, abcF)]).drop 128).drop (1 * 128) = List.replicate 7936 0 := by rw [drop_abc]; exact List.drop_left' abc_len
  have h := hr.more (ys' := (logN firstD twoW).drop 128) (n := 63) (S := 1) (r := z113) (by decide) (by rw [List.length_drop, log_len hasAbc]) (by rw [mostS_zero]) (by decide) (by rw [z113_len]; decide) z113_byte h1 (by rw [needs113]; exact h2) (by rw [needs113]; rw [hd] at h3; exact h3)
  rw [needs113] at h
  exact h
end Go.Proofs.Ytpbfoppaeeafhaa
namespace Go.Proofs.Ytpbfoppaeeafhaa
open Go.RowKit Go.WideShapes

theorem records_zero (v : Value) (w : World) (hd : DiskIn w v 100 zeroD []) : Calls Try.prog 10 #[v] w fun e w' => e = .returned (.tuple #[.slice none 0 0, .int .i64 50]) ∧ Below w.heap.size w w' :=
  Records_no v 100 zeroD [] w hd hasZero (by rw [log_zero, epoch_zero])
theorem drop_first : (logN firstD []).drop 128 = List.replicate 8064 0 := by rw [log_first]; exact List.drop_left' (headL_len 1)
theorem epoch_first (v : Value) (w : World) (hd : DiskIn w v 100 firstD []) : Calls Try.prog 13 #[v] w fun e w' => e = .returned (.tuple #[.int .u32 1, .int .i64 0]) ∧ Below w.heap.size w w' :=
  (Epoch_ok v 100 firstD [] w hd hasFirst 1 (by rw [log_first, epoch_head]) (by decide)).mono (by
    rintro e w' ⟨rv, l, a, la, t, rfl, _, _, hb⟩
    exact ⟨rfl, hb⟩)
theorem records_first (v : Value) (w : World) (hd : DiskIn w v 100 firstD []) : Calls Try.prog 10 #[v] w fun e w' => ∃ q c, e = .returned (.tuple #[.slice q 0 c, .int .i64 0]) ∧ Below w.heap.size w w' :=
  (Records_ok v 100 firstD [] w hd hasFirst 1 (by rw [log_first, epoch_head]) (by decide)).mono (by
    rintro e w' ⟨rv, l, a, la, t, rfl, hrec, hown, hb⟩
    rw [drop_first] at hrec
    obtain ⟨rfl, rfl, rfl, rfl⟩ := (recs_zero 8064 (by decide) (by decide)).only (by decide) (by decide) hrec
    obtain ⟨q, c, rfl, _⟩ := own_form hown
    exact ⟨q, c, rfl, hb⟩)
/-- One act of a row of one's own: its cells. -/
theorem AOwn.at {w : World} {base : Nat} {q : Option Addr} {n m : Nat} {l : List ActC} {L : List (Bool × Int × List Nat)} (h : AOwn w base (.slice q n m) l) (hl : l.map Prod.fst = L) (h0 : 0 < L.length) :
    n = L.length ∧ L.length ≤ m ∧ m ≤ maxLen ∧ ∃ b o, q = some ⟨b, o, none⟩ ∧ ∀ i, i < L.length → w.cell? ⟨b, o + i * 3, none⟩ = some (.bool (L.getD i (false, 0, [])).1) ∧ w.cell? ⟨b, o + (i * 3 + 1), none⟩ = some (.int .i64 (L.getD i (false, 0, [])).2.1) ∧ ∃ v, w.cell? ⟨b, o + (i * 3 + 2), none⟩ = some v ∧ Row w v (L.getD i (false, 0, [])).2.2 := by
  obtain ⟨h1, h2, h3, h4⟩ := h.lies
  rw [hl] at h2
  have e : l.length = L.length := by rw [← hl, List.length_map]
  exact ⟨h1.trans e, e ▸ h3, h4, h2 h0⟩
theorem clear_zero2 (v : Value) (w : World) (hd : DiskIn w v 100 zeroD []) : Calls Try.prog 11 #[v] w fun e w' => ∃ b o m, e = .returned (.tuple #[.slice (some ⟨b, o, none⟩) 2 m, .int .i64 0]) ∧ w'.cell? ⟨b, o + 1, none⟩ = some (.int .i64 16) ∧ w'.cell? ⟨b, o + 3, none⟩ = some (.bool true) ∧ 2 ≤ m ∧ m ≤ maxLen ∧ Below w.heap.size w w' :=
  (clear_zero v w hd).mono (by
    rintro e w' ⟨q, n, m, l, rfl, ha, hl, hb⟩
    obtain ⟨h1, h2, h3, b, o, rfl, h4⟩ := ha.at hl (by decide)
    obtain rfl : n = 2 := h1
    exact ⟨b, o, m, rfl, (h4 0 (by decide)).2.1, (h4 1 (by decide)).1, h2, h3, hb⟩)
theorem add_abc2 (v : Value) (w : World) (hd : DiskIn w v 100 firstD []) : Calls Try.prog 14 #[v, .string { data := #[97, 98, 99] }] w fun e w' => ∃ b o m l p c, e = .returned (.tuple #[.slice (some ⟨b, o, none⟩) 1 m, .int .i64 0]) ∧ AOwn w' 0 (.slice (some ⟨b, o, none⟩) 1 m) l ∧ l.map Prod.fst = [(false, 17, abcF)] ∧ w'.cell? ⟨b, o + 1, none⟩ = some (.int .i64 17) ∧ w'.cell? ⟨b, o + 2, none⟩ = some (.slice p 128 c) ∧ BIn w' p abcF ∧ Below w.heap.size w w' :=
  (add_abc v w hd).mono (by
    rintro e w' ⟨q, n, m, l, rfl, ha, hl, hb⟩
    obtain ⟨h1, h2, h3, b, o, rfl, h4⟩ := ha.at hl (by decide)
    obtain rfl : n = 1 := h1
    obtain ⟨_, c1, dv, c2, hr⟩ := h4 0 (by decide)
    obtain ⟨p, c, rfl, hbin, _⟩ := hr.lies
    refine ⟨b, o, m, l, p, c, rfl, ha, hl, c1, ?_, hbin, hb⟩
    have e : ([(false, (17 : Int), abcF)].getD 0 (false, 0, [])).2.2.length = 128 := abc_len
    rw [e] at c2
    exact c2)
theorem add_113 (v : Value) (w : World) (hd : DiskIn w v 100 firstD [(17, abcF)]) : Calls Try.prog 14 #[v, .string (strOf z113)] w fun e w' => ∃ q n m l, e = .returned (.tuple #[.slice q n m, .int .i64 0]) ∧ AOwn w' 0 (.slice q n m) l ∧ l.map Prod.fst = actsK ((17 + 1 : Nat) : Int) twoF 2 ∧ Below w.heap.size w w' := by
  have hn : numsOf (strOf z113) = z113 := nums_strOf z113_byte
  have hsz : (strOf z113).size = 113 := by rw [← numsOf_len, hn, z113_len]
  refine (Add_ok v (strOf z113) 100 firstD [(17, abcF)] w hd hasAbc (log_len hasAbc) 1 (by rw [log_abc, epoch_head]) (by decide) (by omega) [abcL] 1 1 (List.replicate 7936 0) 1 (by rw [drop_abc]; exact recs_abc) (by rw [mostS_zero]) (by decide) (by rw [hsz]; decide)).mono ?_
  rintro e w' ⟨v', l, rfl, ha, hm, hb⟩
  obtain ⟨q, m, rfl, _, _⟩ := ha.form
  refine ⟨q, _, m, l, rfl, ha.zero, ?_, hb⟩
  rw [hm, hn, hsz]
  rfl
theorem do_two_any (v : Value) (w : World) (q : Option Addr) (n m : Nat) (l : List ActC) (hd : DiskIn w v 100 firstD [(17, abcF)]) (ha : AOwn w 0 (.slice q n m) l) (hl : l.map Prod.fst = actsK ((17 + 1 : Nat) : Int) twoF 2) :
    Calls Try.prog 15 #[v, .slice q n m] w fun e w' => ∃ v', e = .returned (.tuple #[v', .int .i64 0]) ∧ DiskF w.heap.size w' v' 100 firstD twoW ∧ Below w.heap.size w w' := by
  obtain ⟨hn, hi, _, _⟩ := ha.lies
  rw [hl] at hi
  have hln : n = (actsK ((17 + 1 : Nat) : Int) twoF 2).length := by rw [hn, ← hl, List.length_map]
  refine (do_all v 100 firstD [(17, abcF)] w hd q n m _ hln hi (by rw [show (actsK ((17 + 1 : Nat) : Int) twoF 2).length = 2 from rfl]; decide) _ do_two).mono ?_
  rintro e w' ⟨⟨v', he, hf⟩, hb⟩
  exact ⟨v', he, hf, hb⟩
theorem at_two (v : Value) (w : World) (hd : DiskIn w v 100 firstD twoW) : Calls Try.prog 16 #[v] w fun e w' => e = .returned (.tuple #[.int .i64 3, .int .i64 0]) ∧ Below w.heap.size w w' :=
  (At_ok v 100 firstD twoW w hd hasTwo 1 epoch_two (by decide)).mono (by
    rintro e w' ⟨rv, l, a, la, t, rfl, hrec, _, hb⟩
    obtain ⟨_, ha, _, _⟩ := recs_two.only (by decide) (by decide) hrec
    subst ha
    exact ⟨rfl, hb⟩)
end Go.Proofs.Ytpbfoppaeeafhaa
namespace Go.Proofs.Ytpbfoppaeeafhaa
open Go.RowKit Go.WideShapes

theorem zeros113 : (madeCells (Value.int .u8 0).cells (113 * 1)).toList = Bs z113 := zeros_made 113
theorem cellsB {w w' : World} {a : Addr} {v : Value} (h : w.cell? a = some v) (hb : Below w.heap.size w w') : w'.cell? a = some v := (hb.cell (World.block_lt_of_cell? _ _ h)).trans h
def litS : ByteArray := { data := #[1, 0, 0, 0, 1, 0, 0, 0, 0, 0, 0, 0, 0, 1, 3, 0, 97, 98, 99, 0] }
theorem abcF_twenty : (strOf abcF).extract 0 20 = { data := #[1, 0, 0, 0, 1, 0, 0, 0, 0, 0, 0, 0, 0, 1, 3, 0, 97, 98, 99, 0] } := by kernel_rfl
theorem abcF_size : (strOf abcF).size = 128 := by rw [strOf_size, abc_len]
theorem conv_new (s : ByteArray) (n : Nat) (w : World) (hn : s.size = n) (h1 : n ≤ 1000) : ∃ W cap, (convert 9 22 (.string s)).run Try.prog w = .ok (.slice (some ⟨w.heap.size, 0, none⟩) n cap) W ∧ Below w.heap.size w W ∧ BIn W (some ⟨w.heap.size, 0, none⟩) (numsOf s) ∧ n ≤ cap ∧ cap ≤ maxLen := by
  subst hn
  refine ⟨_, _, Lib.run_convert_string_bytes w 9 22 5 s Try.underlying9 Try.underlying22 Try.underlying5, ⟨rfl, rfl, rfl, ?_, fun k hk => Lib.bytesWorld_at_old w 5 s k hk⟩, ⟨fun _ => ⟨w.heap.size, 0, rfl, fun i hi => ?_⟩, numsOf_lt s⟩, grownCap_ge _ _ _ _, grownCap_le_maxLen _ _ _ _ (by unfold maxLen; omega)⟩
  · rw [Lib.bytesWorld_size]; omega
  · rw [numsOf_len] at hi
    rw [Nat.zero_add, Lib.bytesWorld_cell w 5 s i hi]
    unfold numsOf
    simp [List.getD, hi]
theorem abc_rec : IsRec 1 0 abcF 1 abcL := by
  refine ⟨by decide, by decide, by decide, by decide, ?_⟩
  rw [show needsN abcL.length * 128 = 128 from rfl]
  exact List.take_of_length_le (by rw [abc_len]; exact Nat.le_refl _)
theorem abc_byte : ∀ c ∈ abcF, c < 256 := frameN_byte (by decide)
theorem rec_two {e p e' p' s s' : Nat} {b r r' : List Nat} (he : e < 4294967296) (hp : p < 4294967296) (he' : e' < 4294967296) (hp' : p' < 4294967296) (h : IsRec e p b s r) (h' : IsRec e' p' b s' r') : e = e' ∧ p = p' := by
  obtain ⟨_, _, _, h4⟩ := rec_dec he hp h
  obtain ⟨_, _, _, h5⟩ := rec_dec he' hp' h'
  have a := h4 0 (needsN_pos _)
  have b := h5 0 (needsN_pos _)
  exact ⟨a.he.symm.trans b.he, a.hp.symm.trans b.hp⟩
theorem open_q (e p c : Nat) (q : Option Addr) (w : World) (he : e < 4294967296) (hp : p < 4294967296) (hmc : 128 ≤ c) (hcm : c ≤ maxLen) (hb : BIn w q abcF) (r0 : ByteArray) (r1 r2 : Nat) (hR : openR e p abcF = (r0, r1, r2, 0)) :
    Calls Try.prog 17 #[.int .u32 e, .int .u32 p, .slice q 128 c] w fun x w' => x = .returned (.tuple #[.string r0, .int .u32 r1, .int .i64 r2, .int .i64 0]) ∧ Below w.heap.size w w' :=
  (Open_any e p 128 c q abcF w he hp abc_len.symm hmc hcm hb (by omega) _ hR).mono (by rintro x w' ⟨rfl, hb⟩; exact ⟨rfl, hb⟩)
theorem open1 (c : Nat) (q : Option Addr) (w : World) (hmc : 128 ≤ c) (hcm : c ≤ maxLen) (hb : BIn w q abcF) : Calls Try.prog 17 #[.int .u32 1, .int .u32 0, .slice q 128 c] w fun x w' => x = .returned (.tuple #[.string { data := #[97, 98, 99] }, .int .u32 1, .int .i64 1, .int .i64 0]) ∧ Below w.heap.size w w' :=
  open_q 1 0 c q w (by decide) (by decide) hmc hcm hb _ 1 1 (by rw [openR_yes (by decide) (by decide) (by decide) abc_rec, str_abc]; rfl)
theorem open2 (c : Nat) (q : Option Addr) (w : World) (hmc : 128 ≤ c) (hcm : c ≤ maxLen) (hb : BIn w q abcF) : Calls Try.prog 17 #[.int .u32 2, .int .u32 0, .slice q 128 c] w fun x w' => x = .returned (.tuple #[.string ByteArray.empty, .int .u32 0, .int .i64 0, .int .i64 0]) ∧ Below w.heap.size w w' :=
  open_q 2 0 c q w (by decide) (by decide) hmc hcm hb _ 0 0 (openR_no (by decide) (fun s r h => absurd (rec_two (by decide) (by decide) (by decide) (by decide) abc_rec h).1 (by decide)))
theorem open3 (c : Nat) (q : Option Addr) (w : World) (hmc : 128 ≤ c) (hcm : c ≤ maxLen) (hb : BIn w q abcF) : Calls Try.prog 17 #[.int .u32 1, .int .u32 1, .slice q 128 c] w fun x w' => x = .returned (.tuple #[.string ByteArray.empty, .int .u32 0, .int .i64 0, .int .i64 0]) ∧ Below w.heap.size w w' :=
  open_q 1 1 c q w (by decide) (by decide) hmc hcm hb _ 0 0 (openR_no (by decide) (fun s r h => absurd (rec_two (by decide) (by decide) (by decide) (by decide) abc_rec h).2 (by decide)))
set_option maxRecDepth 8000 in
set_option maxHeartbeats 4000000 in
theorem names_walk (w : World) : Calls Try.prog 3 #[] w fun e w' => e = .returned (.bool true) ∧ Below w.heap.size w w' := by
  obtain ⟨A, hA⟩ : ∃ A, strOf abcF = A := ⟨_, rfl⟩
  have HA : Hid (strOf abcF = A) := hA
  have hA20 := abcF_twenty
  have hAs := abcF_size
  rw [hA] at hA20 hAs
  have hAI : (20 : Int) ≤ (A.size : Int) := by omega
  have HAS : Hid (A.size = 128) := hAs
  clear hA hAs
  go_enter Try.func3, Try.ntmps3
  go_wp2_with fail
  refine (new_100 _).mono ?_
  rintro e w1 ⟨v1, rfl, hd1, hb1⟩
  obtain ⟨p, c, q, m, rfl, _⟩ := (hd1 _ (Below.refl _ _)).parts
  obtain ⟨D, hD⟩ : ∃ D, zeroD.length = D := ⟨_, rfl⟩
  obtain ⟨z, hz⟩ : ∃ z, List.length (α := Int × List Nat) [] = z := ⟨_, rfl⟩
  rw [hD, hz] at hd1 ⊢
  have HD1 : Hid (∀ w2, Below w1.heap.size w1 w2 → DiskIn w2 (.agg #[.int .i64 100, .slice p D c, .slice q z m]) 100 zeroD []) := hd1
  have HB1 : Hid (Below w.heap.size w w1) := hb1
  clear hd1 hb1 hD hz
  go_wp2_with fail
  refine (records_zero _ _ (HD1.out _ (below_alloc _ _))).mono ?_
  rintro e w2 ⟨rfl, hb2⟩
  have HX2 : Hid (w2.heap[w1.heap.size]? = some (.cells #[.int .i64 100, .slice p D c, .slice q z m] 25 (0, 0))) := (hb2.block _ (by simp)).trans (heap_alloc_new w1 _)
  obtain ⟨c0, c1, c2, _⟩ := box3 HX2.out
  have HB2 : Hid (Below w1.heap.size w1 w2) := below_bt (below_alloc _ _) hb2
  clear hb2
  go_wp2_with fail
  refine (clear_zero2 _ _ (HD1.out _ HB2.out)).mono ?_
  rintro e w3 ⟨b3, o3, m3, rfl, k1, k3, km, km2, hb3⟩
  have HB3 : Hid (Below w.heap.size w w3) := below_bt (below_bt HB1.out HB2.out) hb3
  have HK3 : Hid (w3.cell? ⟨b3, o3 + 1, none⟩ = some (.int .i64 16) ∧ w3.cell? ⟨b3, o3 + 3, none⟩ = some (.bool true)) := ⟨k1, k3⟩
  have hm3 : (2 : Int) ≤ m3 := by omega
  clear hb3 c0 c1 c2 HX2 HD1 HB1 HB2 k1 k3 km km2
  go_wp2_with fail
  refine (cleared_any _).mono ?_
  rintro e w4 ⟨v4, rfl, hd4, hb4⟩
  obtain ⟨p4, c4, q4, m4, rfl, _⟩ := (hd4 _ (Below.refl _ _)).parts
  obtain ⟨D4, hD4⟩ : ∃ D, firstD.length = D := ⟨_, rfl⟩
  obtain ⟨z4, hz4⟩ : ∃ z, List.length (α := Int × List Nat) [] = z := ⟨_, rfl⟩
  rw [hD4, hz4] at hd4 ⊢
  have HD4 : Hid (∀ w2, Below w4.heap.size w4 w2 → DiskIn w2 (.agg #[.int .i64 100, .slice p4 D4 c4, .slice q4 z4 m4]) 100 firstD []) := hd4
  have HB4 : Hid (Below w3.heap.size w3 w4) := hb4
  clear hd4 hb4 hD4 hz4
  go_wp2_with fail
  refine (epoch_first _ _ (HD4.out _ (below_alloc _ _))).mono ?_
  rintro e w5 ⟨rfl, hb5⟩
  have HX5 : Hid (w5.heap[w4.heap.size]? = some (.cells #[.int .i64 100, .slice p4 D4 c4, .slice q4 z4 m4] 25 (0, 0))) := (hb5.block _ (by simp)).trans (heap_alloc_new w4 _)
  obtain ⟨c0, c1, c2, _⟩ := box3 HX5.out
  have HB5 : Hid (Below w4.heap.size w4 w5) := below_bt (below_alloc _ _) hb5
  clear hb5
  go_wp2_with fail
  refine (records_first _ _ (HD4.out _ HB5.out)).mono ?_
  rintro e w6 ⟨q6, cc6, rfl, hb6⟩
  have HX6 : Hid (w6.heap[w4.heap.size]? = some (.cells #[.int .i64 100, .slice p4 D4 c4, .slice q4 z4 m4] 25 (0, 0))) := (hb6.block _ (lt_heap HX5.out)).trans HX5.out
  have HB6 : Hid (Below w4.heap.size w4 w6) := below_bt HB5.out hb6
  have k1 := cellsB HK3.out.1 (below_bt HB4.out HB6.out)
  have k3 := cellsB HK3.out.2 (below_bt HB4.out HB6.out)
  clear hb6 c0 c1 c2 HX5 HB5 HK3
  obtain ⟨c0, c1, c2, _⟩ := box3 HX6.out
  go_wp2_with fail
  refine (add_abc2 _ _ (HD4.out _ HB6.out)).mono ?_
  rintro e w7 ⟨b7, o7, m7, l7, p7, c7, rfl, ha7, hl7, s1, s2, hi7, hb7⟩
  have HX7 : Hid (w7.heap[w4.heap.size]? = some (.cells #[.int .i64 100, .slice p4 D4 c4, .slice q4 z4 m4] 25 (0, 0))) := (hb7.block _ (lt_heap HX6.out)).trans HX6.out
  have HB7 : Hid (Below w4.heap.size w4 w7) := below_bt HB6.out hb7
  have HA7 : Hid (AOwn w7 0 (.slice (some ⟨b7, o7, none⟩) 1 m7) l7 ∧ l7.map Prod.fst = [(false, 17, abcF)]) := ⟨ha7, hl7⟩
  have cv : (convert 22 9 (.slice p7 128 c7)).run Try.prog w7 = .ok (.string A) w7 := by rw [← HA.out]; exact conv_at hi7 abc_len.symm
  clear hb7 c0 c1 c2 HX6 HB6 k1 k3 ha7 hl7 hi7
  obtain ⟨c0, c1, c2, _⟩ := box3 HX7.out
  go_wp2_with fail
  refine (do_abc_any _ _ _ _ _ l7 (HD4.out _ HB7.out) HA7.out.1 HA7.out.2).mono ?_
  rintro e w8 ⟨v8, rfl, hf8, hb8⟩
  obtain ⟨p8, c8, q8, m8, rfl, _⟩ := hf8.self.parts
  obtain ⟨D8, hD8⟩ : ∃ D, firstD.length = D := ⟨_, rfl⟩
  obtain ⟨z8, hz8⟩ : ∃ z, List.length (α := Int × List Nat) [(17, abcF)] = z := ⟨_, rfl⟩
  rw [hD8, hz8] at hf8 ⊢
  have HF8 : Hid (DiskF w7.heap.size w8 (.agg #[.int .i64 100, .slice p8 D8 c8, .slice q8 z8 m8]) 100 firstD [(17, abcF)]) := hf8
  have HB8 : Hid (Below w.heap.size w w8) := below_bt (below_bt (below_bt HB3.out HB4.out) HB7.out) hb8
  clear hf8 hb8 hD8 hz8 c0 c1 c2 cv s1 s2 HX7 HA7 HB7 HD4 HB3 HB4
  go_upto_region 16 with fail
  obtain ⟨W, hW⟩ : ∃ W, W = w8.alloc (.cells #[.int .i64 100, .slice p8 D8 c8, .slice q8 z8 m8] 25) := ⟨_, rfl⟩
  have HH : Hid (W.heap[w8.heap.size]? = some (.cells #[.int .i64 100, .slice p8 D8 c8, .slice q8 z8 m8] 25 (0, 0))) := by rw [hW]; exact heap_alloc_new _ _
  have HD8 : Hid (∀ w', Below W.heap.size W w' → DiskIn w' (.agg #[.int .i64 100, .slice p8 D8 c8, .slice q8 z8 m8]) 100 firstD [(17, abcF)]) := by
    intro w' h
    rw [hW] at h
    exact HF8.out.below (below_bt (below_alloc _ _) h)
  have HBW : Hid (Below w.heap.size w W) := by rw [hW]; exact below_bt HB8.out (below_alloc _ _)
  have HBW8 : Hid (w.heap.size ≤ w8.heap.size) := HB8.out.size
  rw [← hW]
  clear hW HF8 HB8
  have HS0 : (W.drew.cell? ⟨w8.heap.size, 0, none⟩ = some (.int .i64 100) ∧ W.drew.cell? ⟨w8.heap.size, 1, none⟩ = some (.slice p8 D8 c8) ∧ W.drew.cell? ⟨w8.heap.size, 2, none⟩ = some (.slice q8 z8 m8)) ∧ Hid (Below W.heap.size W W.drew) := ⟨cells3 HH.out, (Below.refl _ _).drew⟩
  obtain ⟨i0, hi, hz0, hz1, hz2⟩ := info_parts info5
  go_cut [20, 21] from 143 (fun s20 s21 w9 => ∃ q9 n9 m9 l9, s20 = .slice q9 n9 m9 ∧ s21 = .int .i64 0 ∧ AOwn w9 0 (.slice q9 n9 m9) l9 ∧ l9.map Prod.fst = actsK ((17 + 1 : Nat) : Int) twoF 2 ∧ Below W.heap.size W w9)
  case first =>
    refine wp_region_noPanic ?_
    refine wp_region_held_drew (S := (fun w' => (w'.cell? ⟨w8.heap.size, 0, none⟩ = some (.int .i64 100) ∧ w'.cell? ⟨w8.heap.size, 1, none⟩ = some (.slice p8 D8 c8) ∧ w'.cell? ⟨w8.heap.size, 2, none⟩ = some (.slice q8 z8 m8)) ∧ Hid (Below W.heap.size W w'))) (by kernel_rfl) HS0 (fun hS0 => ?_)
    clear HS0
    refine takeH 0 144 (v := ?_) rfl rfl (by kernel_rfl) (by kernel_rfl) (by kernel_rfl) (fun _ _ _ h => h) (by rfl) ?_ (by assumption) ?_
    rotate_left
    · intro w hSw; go_simp; first | done | with_reducible rfl
    simp only [Act.put, List.setIfInBounds_toArray, List.set_cons_zero, List.set_cons_succ]
    refine wpAnyH_ready (rs := [1]) (by kernel_rfl) (by simp) ?_
    refine AllReadyH.cons rfl (fun K hK => ?_) AllReadyH.nil
    refine step_make (by rfl) (.const (.int .i64 113)) (.const (.int .i64 113)) 22 (by rfl) W.drew.heap.size 5 i0 (.int .u8 0) 1 Try.underlying22 hi hz0 hz1 .i64 .i64 113 113 113 (by rfl) (by rfl) rfl rfl (by rw [hz2]; decide) (by decide) (Nat.le_refl _) ?_
    intro wm1 hown1 hgr1
    have hro := row_full' hown1
    rw [zeros113] at hro
    have hbm : Below W.drew.heap.size W.drew wm1 := (Below.refl _ _).grown hgr1 (Nat.le_refl _) (fun k hk => by cases hk)
    have hib : BIn wm1 (some ⟨W.drew.heap.size, 0, none⟩) z113 := bin_row hro z113_byte
    have cvz : (convert 22 9 (.slice (some ⟨W.drew.heap.size, 0, none⟩) 113 113)).run Try.prog wm1 = .ok (.string (strOf z113)) wm1 := conv_at hib z113_len.symm
    have cvz2 : (convert 22 9 (.slice (some ⟨W.heap.size, 0, none⟩) 113 113)).run Try.prog wm1 = .ok (.string (strOf z113)) wm1 := conv_at hib z113_len.symm
    clear hown1 hgr1 hro hib
    refine hK.out _ _ (keepS (Nat.le_refl _) hS0 hbm) (fun hS1 => ?_)
    clear hK K
    show wpAnyH _ _ _ _ _ _ _ (Act.put _ (some 145) _) _
    simp only [Act.put, List.setIfInBounds_toArray, List.set_cons_zero, List.set_cons_succ]
    refine wpAnyH_ready (rs := [2]) (by kernel_rfl) (by simp) ?_
    refine AllReadyH.cons rfl (fun K hK => ?_) AllReadyH.nil
    go_simp
    refine hK.out _ _ hS1 (fun hS2 => ?_)
    clear hK K
    refine wpAnyH_ready (rs := [3]) (by kernel_rfl) (by simp) ?_
    refine AllReadyH.cons rfl (fun K hK => ?_) AllReadyH.nil
    go_simp
    refine (add_113 _ _ (HD8.out _ hS2.2.out)).mono ?_
    rintro e w9 ⟨q9, n9, m9, l9, rfl, ha9, hl9, hb9⟩
    go_simp
    refine hK.out _ _ (keepS (Nat.le_refl _) hS2 hb9) (fun hS3 => ?_)
    clear hK K
    refine takeH 4 143 (v := ?_) rfl rfl (by kernel_rfl) (by kernel_rfl) (by kernel_rfl) (fun _ _ _ h => h) (by rfl) ?_ (by assumption) ?_
    rotate_left
    · intro w hSw; go_simp; first | done | with_reducible rfl
    simp only [Act.put, List.setIfInBounds_toArray, List.set_cons_zero, List.set_cons_succ]
    refine takeH 5 148 (v := ?_) rfl rfl (by kernel_rfl) (by kernel_rfl) (by kernel_rfl) (fun _ _ _ h => h) (by rfl) ?_ (by assumption) ?_
    rotate_left
    · intro w hSw; go_simp; first | done | with_reducible rfl
    simp only [Act.put, List.setIfInBounds_toArray, List.set_cons_zero, List.set_cons_succ]
    refine takeH 6 149 (v := ?_) rfl rfl (by kernel_rfl) (by kernel_rfl) (by kernel_rfl) (fun _ _ _ h => h) (by rfl) ?_ (by assumption) ?_
    rotate_left
    · intro w hSw; go_simp; first | done | with_reducible rfl
    simp only [Act.put, List.setIfInBounds_toArray, List.set_cons_zero, List.set_cons_succ]
    refine takeH 7 20 (v := ?_) rfl rfl (by kernel_rfl) (by kernel_rfl) (by kernel_rfl) (fun _ _ _ h => h) (by rfl) ?_ (by assumption) ?_
    rotate_left
    · intro w hSw; go_simp; first | done | with_reducible rfl
    simp only [Act.put, List.setIfInBounds_toArray, List.set_cons_zero, List.set_cons_succ]
    refine takeH 8 21 (v := ?_) rfl rfl (by kernel_rfl) (by kernel_rfl) (by kernel_rfl) (fun _ _ _ h => h) (by rfl) ?_ (by assumption) ?_
    rotate_left
    · intro w hSw; go_simp; first | done | with_reducible rfl
    simp only [Act.put, List.setIfInBounds_toArray, List.set_cons_zero, List.set_cons_succ]
    refine wpAnyH_done (by kernel_rfl) (NoPanic.normal ?_) _
    go_wp2
    go_meet
    case rel => exact ⟨q9, n9, m9, l9, rfl, rfl, ha9, hl9, hS3.2.out⟩
  case rest =>
    clear HS0
    obtain ⟨q9, n9, m9, l9, rfl, rfl, ha9, hl9, hb9⟩ := hcut
    have HX9 : Hid (wc.heap[w8.heap.size]? = some (.cells #[.int .i64 100, .slice p8 D8 c8, .slice q8 z8 m8] 25 (0, 0))) := (hb9.block _ (lt_heap HH.out)).trans HH.out
    obtain ⟨c0, c1, c2, _⟩ := box3 HX9.out
    have HB9 : Hid (Below W.heap.size W wc) := hb9
    have HA9 : Hid (AOwn wc 0 (.slice q9 n9 m9) l9 ∧ l9.map Prod.fst = actsK ((17 + 1 : Nat) : Int) twoF 2) := ⟨ha9, hl9⟩
    have HNA : Hid (numsOf A = abcF) := by show _ = _; rw [← HA.out]; exact nums_strOf abc_byte
    clear hb9 ha9 hl9
    go_wp2_with fail
    refine (do_two_any _ _ q9 n9 m9 l9 (HD8.out _ HB9.out) HA9.out.1 HA9.out.2).mono ?_
    rintro e w10 ⟨v10, rfl, hf10, hb10⟩
    obtain ⟨p10, c10, q10, m10, rfl, _⟩ := hf10.self.parts
    obtain ⟨D10, hD10⟩ : ∃ D, firstD.length = D := ⟨_, rfl⟩
    obtain ⟨z10, hz10⟩ : ∃ z, twoW.length = z := ⟨_, rfl⟩
    rw [hD10, hz10] at hf10 ⊢
    have HX10 : Hid (w10.heap[w8.heap.size]? = some (.cells #[.int .i64 100, .slice p8 D8 c8, .slice q8 z8 m8] 25 (0, 0))) := (hb10.block _ (lt_heap HX9.out)).trans HX9.out
    have HF10 : Hid (DiskIn (((w10.setCell ⟨w8.heap.size, 0, none⟩ (.int .i64 100)).setCell ⟨w8.heap.size, 1, none⟩ (.slice p10 D10 c10)).setCell ⟨w8.heap.size, 2, none⟩ (.slice q10 z10 m10)) (.agg #[.int .i64 100, .slice p10 D10 c10, .slice q10 z10 m10]) 100 firstD twoW) := hf10.set3 (lt_heap HX9.out) _ _ _
    have hsz8 : w.heap.size ≤ w8.heap.size := by have := HBW.out.size; have := lt_heap HH.out; have h := HBW8.out; omega
    have HB10 : Hid (Below w.heap.size w (((w10.setCell ⟨w8.heap.size, 0, none⟩ (.int .i64 100)).setCell ⟨w8.heap.size, 1, none⟩ (.slice p10 D10 c10)).setCell ⟨w8.heap.size, 2, none⟩ (.slice q10 z10 m10))) := (((below_bt (below_bt HBW.out HB9.out) hb10).setCell hsz8 _).setCell hsz8 _).setCell hsz8 _
    clear hf10 hb10 hD10 hz10 c0 c1 c2 HX9
    obtain ⟨x0, x1, x2, y0, y1, y2⟩ := box3 HX10.out
    go_wp2_with fail
    refine (at_two _ _ HF10.out).mono ?_
    rintro e w11 ⟨rfl, hb11⟩
    have HB11 : Hid (Below w.heap.size w w11) := below_bt HB10.out hb11
    clear hb11 x0 x1 x2 y0 y1 y2 HX10 HF10 HB10
    obtain ⟨w12, cap1, cv1, hbc1, hic1, hcc1, hcm1⟩ := conv_new A 128 w11 HAS.out (by decide)
    rw [HNA.out] at hic1
    have HC1 : Hid (BIn w12 (some ⟨w11.heap.size, 0, none⟩) abcF ∧ 128 ≤ cap1 ∧ cap1 ≤ maxLen ∧ Below w11.heap.size w11 w12) := ⟨hic1, hcc1, hcm1, hbc1⟩
    clear hbc1 hic1 hcc1 hcm1
    go_wp2_with fail
    refine (open1 cap1 _ _ HC1.out.2.1 HC1.out.2.2.1 HC1.out.1).mono ?_
    rintro e w13 ⟨rfl, hb1o⟩
    have HB13 : Hid (Below w.heap.size w w13) := below_bt (below_bt HB11.out HC1.out.2.2.2) hb1o
    clear hb1o cv1
    obtain ⟨w14, cap2, cv2, hbc2, hic2, hcc2, hcm2⟩ := conv_new A 128 w13 HAS.out (by decide)
    rw [HNA.out] at hic2
    have HC2 : Hid (BIn w14 (some ⟨w13.heap.size, 0, none⟩) abcF ∧ 128 ≤ cap2 ∧ cap2 ≤ maxLen ∧ Below w13.heap.size w13 w14) := ⟨hic2, hcc2, hcm2, hbc2⟩
    clear hbc2 hic2 hcc2 hcm2
    go_wp2_with fail
    refine (open2 cap2 _ _ HC2.out.2.1 HC2.out.2.2.1 HC2.out.1).mono ?_
    rintro e w15 ⟨rfl, hb2o⟩
    have HB15 : Hid (Below w.heap.size w w15) := below_bt (below_bt HB13.out HC2.out.2.2.2) hb2o
    clear hb2o cv2
    obtain ⟨w16, cap3, cv3, hbc3, hic3, hcc3, hcm3⟩ := conv_new A 128 w15 HAS.out (by decide)
    rw [HNA.out] at hic3
    have HC3 : Hid (BIn w16 (some ⟨w15.heap.size, 0, none⟩) abcF ∧ 128 ≤ cap3 ∧ cap3 ≤ maxLen ∧ Below w15.heap.size w15 w16) := ⟨hic3, hcc3, hcm3, hbc3⟩
    clear hbc3 hic3 hcc3 hcm3
    go_wp2_with fail
    refine (open3 cap3 _ _ HC3.out.2.1 HC3.out.2.2.1 HC3.out.1).mono ?_
    rintro e w17 ⟨rfl, hb3o⟩
    have HB17 : Hid (Below w.heap.size w w17) := below_bt (below_bt HB15.out HC3.out.2.2.2) hb3o
    clear hb3o cv3
    go_wp2_with (go_at_call 18; refine (alive_any _).mono ?_; rintro x w18 ⟨rfl, hb18⟩; have HB18 : Hid _ := hb18; clear hb18)
    go_ret
    exact ⟨rfl, below_bt HB17.out HB18.out⟩
end Go.Proofs.Ytpbfoppaeeafhaa
namespace Go.Proofs.Ytpbfoppaeeafhaa.logNames
open Go.ChangeShapes Go.WideShapes Go.ChangeAt Go.RowKit
open Go.ChangeMaps (open_string shut_string)
set_option linter.unusedVariables false

theorem own : ownKnob Try.prog.godebug = none := by kernel_rfl
theorem laidOut : laidOutB Try.prog = true := by kernel_rfl

theorem walk (w : World) : Calls Try.prog 3 #[] w fun e w' => e = .returned (.bool true) ∧ Below w.heap.size w w' := names_walk w

/-! ### THE ROW's STEP -/
set_option maxRecDepth 100000 in
theorem lifted (os : Os) (started : os.Started) (H : Type) (enc : TypeId × Value → H) :
    ReturnsInHanded {} Try.checked os 3 .any (Rows.logNamesSpec.pre6 enc Try.prog Try.f3 Rows.logNamesRow.domain false) (Rows.logNamesSpec.post enc Try.prog Try.f3 false true false false) := by
  refine returnsInHanded_of_change (C := Try.checked) own started (by kernel_rfl) Try.func3
    (ChangeSpec.witness6 (enc := enc) (C := Try.checked) false ⟨#[], #[], []⟩ 8 (by kernel_rfl) (by kernel_rfl) (by kernel_rfl) (by kernel_rfl)) ?_
  intro W base args ds gs before hval0 hW hcnd _
  have hval : ∀ (j : Nat) t v, Try.f3.params[j]? = some t → args[j]? = some v → Value.okWide Try.prog W .any base t v := hval0
  have hW' := hW
  obtain ⟨p, q, hA0, hV, rfl, hfz, hnd⟩ := hW
  have hA : DataW.TrodAll enc Try.prog W 0 (fun _ => true) true Try.f3.params.toList args.toList ds p := hA0
  rw [Try.params3] at hA hval
  obtain ⟨hargs, rfl, rfl⟩ := trodAll_nil hA
  obtain rfl : args = #[] := by cases args; simp_all
  obtain ⟨rfl, rfl⟩ := trodVars_none hV
  clear hA0 hval0
  refine (walk  W ).mono fun e W' ⟨he, bel⟩ => ?_
  subst he
  exact ⟨_, rfl, _, _, _, [], _, [], hW', trodAll_mk1 (shut_bool Try.underlying4 _), trodAll_mk0, rfl, bel.frame _, fun h => by cases h⟩

theorem over : Rows.logNamesRow.holds Try.pinned (OpenSpec.ofChange Rows.logNamesSpec) :=
  OpenClaim.holds_of_wide 3 Try.f3 rfl rfl rfl rfl rfl rfl rfl ⟨rfl, rfl, rfl, rfl, rfl⟩ rfl rfl rfl rfl rfl (by kernel_rfl) Try.func3 (by kernel_rfl)
    (of_decide_eq_true (by kernel_rfl)) (by unfold Func.isWrapper; first | (rw [if_pos (by decide +kernel)]; kernel_rfl) | (rw [if_neg (by decide +kernel)]; exact ⟨rfl, rfl⟩))
    (fun os started H enc _ => lifted os started H enc)

theorem proved : Rows.LogNamesSaid := over
end Go.Proofs.Ytpbfoppaeeafhaa.logNames
namespace Go.Proofs.Ytpbfoppaeeafhaa
theorem logNames_holds : Rows.LogNamesSaid := logNames.proved
#print axioms logNames_holds
end Go.Proofs.Ytpbfoppaeeafhaa
