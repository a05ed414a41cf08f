/-
  What Open answers. No program but the last lemmas.
-/
import Derived.Test.YtpbfoppaeeafhaaJ03
import Derived.Lib.BufferWrite
import Derived.Laws.MakeOwn
import Derived.Laws.StructEq
namespace Go.Proofs.Ytpbfoppaeeafhaa
open Go.RowKit Go.WideShapes

theorem row_full' {w : World} {base e g n : Nat} {xs : List Value} (h : w.ownsRow base e 1 (.slice (some ⟨g, 0, none⟩) n n) n xs) : w.heap[g]? = some (.cells xs.toArray e (0, 0)) := by
  rcases h.2 with ⟨h, _⟩ | ⟨g', cap, cur, hv, _, hg, _, _, hs, ht⟩
  · cases h
  · simp only [Value.slice.injEq, Option.some.injEq, Addr.mk.injEq, and_true, true_and] at hv
    obtain ⟨rfl, rfl⟩ := hv
    rw [hg]
    rw [List.take_of_length_le (by simp; omega)] at ht
    rw [← ht]
theorem zeros_made (n : Nat) : (madeCells #[Value.int .u8 0] n).toList = Bs (List.replicate n 0) := by
  rw [toList_madeCells_one]
  simp [Bs]
theorem byteCells_Bs (s : ByteArray) : Lib.byteCells s.data.toList = Bs (numsOf s) := by unfold Lib.byteCells Bs numsOf; rw [List.map_map]; rfl
theorem wpList_copy_str {P : Program} {w : World} {ops : Array Oper} {rest : List Oper} {o : Oper} {a : Act} {Q : Exit → Act → World → Prop} (hgd : o.guard = none) (d s : Operand) (dT sT : TypeId)
    (ho : o.op = .call { callee := .builtin .copy, args := #[d, s], argTypes := #[dT, sT] }) (elem : TypeId) (hu : P.underlying dT = some (.slice elem)) (hsz : (P.info? elem).map (·.size) = some 1)
    (g off dLen dCap : Nat) (str : ByteArray) (hd : a.eval d = .slice (some ⟨g, off, none⟩) dLen dCap) (hs : a.eval s = .string str)
    (cur : List Value) (t : TypeId) (hg : w.heap[g]? = some (.cells cur.toArray t (0, 0))) (hle : str.size ≤ dLen) (hfit : off + str.size ≤ cur.length) (B : Nat) (w0 : World) (hb : Below B w0 w) (hBg : B ≤ g)
    (h : ∀ w', Hid (w'.heap[g]? = some (.cells (splice cur off (Bs (numsOf str))).toArray t (0, 0))) → Below B w0 w' → wpList P ops Q rest (a.put o.dst (goInt str.size)) w') : wpList P ops Q (o :: rest) a w := by
  refine wpList_plain hgd fun K hK => ?_
  have hrun := Lib.run_copy_row_string (P := P) w dT sT o.type elem g off dLen dCap str cur.toArray t hu hsz hg hle (by simpa using hfit)
  unfold Oper.wp
  simp [execOp, ho, resolve, invoke, builtin, hd, hs, hrun, Result.andThen]
  refine hK _ _ (h _ ?_ (below_setRow hb hBg _))
  have e : (splice cur off (Bs (numsOf str))) = cur.take off ++ Lib.byteCells str.data.toList ++ cur.drop (off + str.size) := by
    unfold splice; rw [byteCells_Bs, Bs_len, numsOf_len, List.append_assoc]
  show _ = _
  rw [e]
  simpa using setRow_heap w g _ _ t _ hg
def z128 : List Nat := List.replicate 128 0
theorem sec_splice {y1 mk x : List Nat} (h1 : y1 = mk ++ List.replicate 112 0) (h2 : mk.length = 16) (h3 : x.length ≤ 112) : y1.take 16 ++ (x ++ y1.drop (16 + x.length)) = mk ++ (x ++ List.replicate (112 - x.length) 0) := by
  subst h1
  rw [List.take_append_of_le_length (by omega), List.take_of_length_le (by omega), ← h2, List.drop_append, List.drop_replicate]
  congr 2
  rw [List.drop_eq_nil_of_le (by omega), List.nil_append]
  congr 1
  omega
def strPiece (r : ByteArray) (k : Nat) : ByteArray := r.extract (k * 112) (min ((k + 1) * 112) r.size)
theorem numsOf_extract (r : ByteArray) (a b : Nat) : numsOf (r.extract a b) = ((numsOf r).drop a).take (b - a) := by
  unfold numsOf
  rw [ByteArray.data_extract, Array.toList_extract]
  simp [List.map_drop, List.map_take]
theorem strPiece_nums (r : ByteArray) (k : Nat) : numsOf (strPiece r k) = pieceL (numsOf r) k := by
  unfold strPiece pieceL
  rw [numsOf_extract]
  by_cases h : (k + 1) * 112 ≤ r.size
  · rw [Nat.min_eq_left h]; congr 1; omega
  · rw [Nat.min_eq_right (by omega)]
    rw [List.take_of_length_le (by rw [List.length_drop, numsOf_len]; omega), List.take_of_length_le (by rw [List.length_drop, numsOf_len]; omega)]
set_option maxRecDepth 8000 in
set_option maxHeartbeats 4000000 in
theorem frame_any (e s p : Nat) (r : ByteArray) (w : World) (he : e < 4294967296) (hs : s < 4294967296) (hp : p < 4294967296) (hr : r.size ≤ 4096) :
    Calls Try.prog 43 #[.int .u32 e, .int .u32 s, .int .u32 p, .string r] w fun x w' => ∃ v, x = .returned v ∧ w'.ownsRow w.heap.size 5 1 v (frameN e s p (numsOf r)).length (Bs (frameN e s p (numsOf r))) ∧ Below w.heap.size w w' := by
  obtain ⟨i0, hi, hz0, hz1, hz2⟩ := info_parts info5
  have HE : Hid (e < 4294967296 ∧ s < 4294967296 ∧ p < 4294967296) := ⟨he, hs, hp⟩
  have HR : Hid (r.size ≤ 4096) := hr
  have hrI : (r.size : Int) ≤ 1000000 := by omega
  obtain ⟨n, hn⟩ : ∃ n, needsN r.size = n := ⟨_, rfl⟩
  have HN : Hid (needsN r.size = n) := hn
  have hn37 : (n : Int) ≤ 200 := by have := needsN_le hr; omega
  clear he hs hp hr hn
  go_enter Try.func43, Try.ntmps43
  go_wp2_with (go_at_call 42; refine (needs_any r n _ (by have := HR.out; omega) HN.out).mono ?_; rintro x w1 ⟨rfl, rfl⟩)
  go_loopw [9, 18] (fun m i wr => ∃ k : Nat, k ≤ n ∧ i = .int .i64 k ∧ St w1 [] wr m (framesK e s p n (numsOf r) k)) (fun _ i _ => n - (intOf i).toNat)
  case atStart => exact ⟨0, by omega, rfl, St.start (fun p hp => by simp at hp)⟩
  case round =>
    obtain ⟨k, hk, rfl, hst⟩ := hrel
    have HS : Hid _ := hst
    clear hst
    by_cases hkn : k < n
    · have hkI : (k : Int) < (n : Int) := by omega
      have k1 : IntKind.i64.wrap ((k : Int) * 112) = (k : Int) * 112 := by rw [IntKind.wrap_i64]; omega
      have k2 : IntKind.i64.wrap ((k : Int) + 1) = (k : Int) + 1 := by rw [IntKind.wrap_i64]; omega
      have k3 : IntKind.i64.wrap (((k : Int) + 1) * 112) = ((k : Int) + 1) * 112 := by rw [IntKind.wrap_i64]; omega
      have hlo : (k : Int) * 112 ≤ (r.size : Int) := by have := HN.out; unfold needsN at this; omega
      by_cases hfull : (k + 1) * 112 ≤ r.size
      · have g1 : ((k : Int) + 1) * 112 ≤ (r.size : Int) := by omega
        go_wp2_with (at_make; refine wpList_make_full _ rfl _ _ 22 rfl (wr.heap.size + 1) 5 i0 (.int .u8 0) 1 Try.underlying22 hi hz0 hz1 .i64 .i64 _ _ 128 rfl rfl rfl rfl (by rw [hz2]; decide) (by decide) (by simp) ?_)
        intro w2 hown hgrow
        generalize hps : r.extract (k * 112) ((k + 1) * 112) = ps
        generalize hpl : (k + 1) * 112 - k * 112 = pl at hgrow ⊢
        have HX : Hid (numsOf ps = pieceL (numsOf r) k ∧ ps.size = pl ∧ pl ≤ 112) := by
          have e1 : numsOf ps = pieceL (numsOf r) k := by rw [← hps, ← strPiece_nums]; unfold strPiece; rw [Nat.min_eq_left hfull]
          have e2 : ps.size = pl := by rw [← numsOf_len, e1, pieceL_len, numsOf_len]; omega
          exact ⟨e1, e2, by omega⟩
        clear hps hpl k1 k2 k3 hlo hfull g1
        have hsa := HS.out.alloc #[.int .u32 e, .int .u32 s, .int .u32 p, .int .i64 k, .int .i64 n, .int .i64 pl] 116 (by decide)
        have HSA : Hid _ := hsa
        have hsz0 := hsa.size
        have hb2 : Below (wr.alloc (.cells #[.int .u32 e, .int .u32 s, .int .u32 p, .int .i64 k, .int .i64 n, .int .i64 pl] 116)).heap.size (wr.alloc (.cells #[.int .u32 e, .int .u32 s, .int .u32 p, .int .i64 k, .int .i64 n, .int .i64 pl] 116)) w2 := (Below.refl _ _).grown hgrow (Nat.le_refl _) (fun k hk => by cases hk)
        have hbx := (hsa.call hb2).box _ (List.Mem.head _)
        have hrow := row_full' hown
        rw [zeros_made] at hrow
        simp only at hbx
        have q0 : w2.cell? ⟨wr.heap.size, 0, none⟩ = some (.int .u32 e) := cell_of_row w2 _ 0 _ _ _ hbx.1
        have q1 : w2.cell? ⟨wr.heap.size, 1, none⟩ = some (.int .u32 s) := cell_of_row w2 _ 1 _ _ _ hbx.1
        have q2 : w2.cell? ⟨wr.heap.size, 2, none⟩ = some (.int .u32 p) := cell_of_row w2 _ 2 _ _ _ hbx.1
        have q3 : w2.cell? ⟨wr.heap.size, 3, none⟩ = some (.int .i64 k) := cell_of_row w2 _ 3 _ _ _ hbx.1
        have q4 : w2.cell? ⟨wr.heap.size, 4, none⟩ = some (.int .i64 n) := cell_of_row w2 _ 4 _ _ _ hbx.1
        have q5 : w2.cell? ⟨wr.heap.size, 5, none⟩ = some (.int .i64 pl) := cell_of_row w2 _ 5 _ _ _ hbx.1
        have HB2 : Hid (Below (wr.heap.size + 1) (wr.alloc (.cells #[.int .u32 e, .int .u32 s, .int .u32 p, .int .i64 k, .int .i64 n, .int .i64 pl] 116)) w2) := by
          have h := hb2
          rw [show (wr.alloc (.cells #[.int .u32 e, .int .u32 s, .int .u32 p, .int .i64 k, .int .i64 n, .int .i64 pl] 116)).heap.size = wr.heap.size + 1 by simp] at h
          exact h
        have HR2 : Hid (w2.heap[wr.heap.size + 1]? = some (.cells (Bs z128).toArray 5 (0, 0))) := hrow
        have hlt2 := lt_heap hrow
        clear hsa HS hb2 hrow hbx hown hgrow
        go_wp2_with fail
        refine (bytes_any e s p k n pl w2 HE.out.1 HE.out.2.1 HE.out.2.2 (by omega) (by omega) HX.out.2.2).mono ?_
        rintro x w3 ⟨v3, rfl, ho3, hb3⟩
        obtain ⟨pq3, m3, rfl, _, _, hn3⟩ := own_form ho3
        have hi3 := own_in ho3 (markL_byte _ _ _ _ _ _)
        have HR3 : Hid (w3.heap[wr.heap.size + 1]? = some (.cells (Bs z128).toArray 5 (0, 0))) := (hb3.block _ hlt2).trans HR2.out
        have HB3 : Hid (Below (wr.heap.size + 1) (wr.alloc (.cells #[.int .u32 e, .int .u32 s, .int .u32 p, .int .i64 k, .int .i64 n, .int .i64 pl] 116)) w3) := HB2.out.trans (hb3.mono (by omega))
        obtain ⟨mk, HMK⟩ : ∃ mk, Hid (mk = markL e s p k n pl) := ⟨_, rfl⟩
        have HML : Hid (mk.length = 16) := by show _ = _; rw [HMK.out]; rfl
        rw [← HMK.out] at hi3
        have HI3 : Hid (0 < (Bs mk).length → ∃ ad, pq3 = some ad ∧ ∀ j v, (Bs mk)[j]? = some v → w3.cell? (ad.add j) = some v) := by
          intro h
          obtain ⟨b, o, rfl⟩ := hi3.addr (by rw [Bs_len] at h; exact h)
          exact ⟨_, rfl, bin_cells hi3⟩
        have HL3 : Hid ((Bs mk).length = Nat.min (markL e s p k n pl).length 128) := by show _ = _; rw [Bs_len, HML.out]; rfl
        have HF3 : Hid (0 + (Bs mk).length ≤ (Bs z128).length) := by show _ ≤ _; rw [Bs_len, HML.out, Bs_len]; decide
        clear hi3 ho3 hb3 HR2 HB2 hlt2 q0 q1 q2 q3 q4 q5
        go_wp2_with (refine wpList_copy_splice (o := ⟨some 43, _, _, _, _, _⟩) rfl (.tmp 40) (.tmp 42) 22 22 rfl 5 Try.underlying22 size5 (some ⟨wr.heap.size + 1, 0, none⟩) pq3 128 128 (markL e s p k n pl).length m3 rfl rfl (wr.heap.size + 1) 0 (Bs z128) 5 HR3.out (Bs mk) HL3.out (fun h => ⟨rfl, HI3.out h⟩) HF3.out (Bs_one _) (wr.heap.size + 1) (wr.alloc (.cells #[.int .u32 e, .int .u32 s, .int .u32 p, .int .i64 k, .int .i64 n, .int .i64 pl] 116)) HB3.out (Nat.le_refl _) ?_)
        intro w4 hrow4 hb4
        obtain ⟨y1, HY1⟩ : ∃ y1, Hid (y1 = mk ++ List.replicate 112 0) := ⟨mk ++ List.replicate 112 0, (rfl : mk ++ List.replicate 112 0 = _)⟩
        have HR4 : Hid (w4.heap[wr.heap.size + 1]? = some (.cells (Bs y1).toArray 5 (0, 0))) := by
          show _ = _
          rw [hrow4.out, Bs_splice, HY1.out, HML.out]
          rfl
        have HB4 : Hid (Below (wr.heap.size + 1) (wr.alloc (.cells #[.int .u32 e, .int .u32 s, .int .u32 p, .int .i64 k, .int .i64 n, .int .i64 pl] 116)) w4) := hb4
        have HF4 : Hid (16 + ps.size ≤ (Bs y1).length) := by
          have h := HX.out.2
          have hm := HML.out
          show _ ≤ _
          rw [Bs_len, HY1.out, List.length_append, List.length_replicate]
          omega
        have HPS : Hid (ps.size ≤ 112) := by have h := HX.out.2; show _ ≤ _; omega
        clear hrow4 hb4 HR3 HB3 HI3 HL3 HF3 hn3
        go_wp2_with (refine wpList_copy_str (o := ⟨some 47, _, _, _, _, _⟩) rfl (.tmp 45) (.tmp 46) 22 9 rfl 5 Try.underlying22 size5 (wr.heap.size + 1) 16 112 112 ps rfl rfl (Bs y1) 5 HR4.out HPS.out HF4.out (wr.heap.size + 1) (wr.alloc (.cells #[.int .u32 e, .int .u32 s, .int .u32 p, .int .i64 k, .int .i64 n, .int .i64 pl] 116)) HB4.out (Nat.le_refl _) ?_)
        intro w5 hrow5 hb5
        have HR5 : w5.heap[wr.heap.size + 1]? = some (.cells (Bs (secL e s p k n (pieceL (numsOf r) k))).toArray 5 (0, 0)) := by
          have h := HX.out
          rw [hrow5.out, Bs_splice, sec_splice (by rw [HY1.out]) HML.out (by rw [h.1]; exact pieceL_le _ _), h.1, HMK.out]
          unfold secL
          rw [show pl = (pieceL (numsOf r) k).length by rw [← h.1, numsOf_len]; exact h.2.1.symm]
        have HI5 : Hid (BIn w5 (some ⟨wr.heap.size + 1, 0, none⟩) (secL e s p k n (pieceL (numsOf r) k))) := bin_row HR5 (secL_byte (pieceL_byte (numsOf_lt r) k))
        have hb5' : Below (wr.alloc (.cells #[.int .u32 e, .int .u32 s, .int .u32 p, .int .i64 k, .int .i64 n, .int .i64 pl] 116)).heap.size (wr.alloc (.cells #[.int .u32 e, .int .u32 s, .int .u32 p, .int .i64 k, .int .i64 n, .int .i64 pl] 116)) w5 := by
          rw [show (wr.alloc (.cells #[.int .u32 e, .int .u32 s, .int .u32 p, .int .i64 k, .int .i64 n, .int .i64 pl] 116)).heap.size = wr.heap.size + 1 by simp]
          exact hb5
        have hs5 := (HSA.out.call hb5').drop
        have HS5 : Hid _ := hs5
        have hsz5 := hs5.size
        have HLS : Hid (128 = (secL e s p k n (pieceL (numsOf r) k)).length) := (secL_len (pieceL_le _ _)).symm
        have HLF : Hid ((framesK e s p n (numsOf r) k).length + (secL e s p k n (pieceL (numsOf r) k)).length ≤ 140737488355328) := by
          show _ ≤ _
          rw [framesK_len, secL_len (pieceL_le _ _)]
          omega
        clear hs5 hb5' HR5 hrow5 hb5 HR4 HB4 HF4 HPS HSA
        go_wp2_with (at_builtin; refine wpList_append_bytes _ rfl _ _ rfl w1.heap.size _ _ (secL e s p k n (pieceL (numsOf r) k)) (some ⟨wr.heap.size + 1, 0, none⟩) _ 128 rfl rfl HLS.out HS5.out.own HI5.out (fun h => by cases h) HLF.out hsz5 ?_; intro v6 w6 ho6 hg6; have S6 := HS5.out.app ho6 hg6)
        have HS6 : Hid _ := S6.eq (framesK_snoc e s p n (numsOf r) k).symm
        clear S6 ho6 hg6
        go_roundw
        case rel => exact ⟨k + 1, by omega, by go_num, HS6.out⟩
        case measure => simp [intOf]; omega
      · have g1 : (r.size : Int) < ((k : Int) + 1) * 112 := by omega
        go_wp2_with (at_make; refine wpList_make_full _ rfl _ _ 22 rfl (wr.heap.size + 1) 5 i0 (.int .u8 0) 1 Try.underlying22 hi hz0 hz1 .i64 .i64 _ _ 128 rfl rfl rfl rfl (by rw [hz2]; decide) (by decide) (by simp) ?_)
        intro w2 hown hgrow
        generalize hps : r.extract (k * 112) r.size = ps
        generalize hpl : r.size - k * 112 = pl at hgrow ⊢
        have HX : Hid (numsOf ps = pieceL (numsOf r) k ∧ ps.size = pl ∧ pl ≤ 112) := by
          have e1 : numsOf ps = pieceL (numsOf r) k := by rw [← hps, ← strPiece_nums]; unfold strPiece; rw [Nat.min_eq_right (by omega)]
          have e2 : ps.size = pl := by rw [← numsOf_len, e1, pieceL_len, numsOf_len]; omega
          exact ⟨e1, e2, by omega⟩
        clear hps hpl k1 k2 k3 hlo hfull g1
        have hsa := HS.out.alloc #[.int .u32 e, .int .u32 s, .int .u32 p, .int .i64 k, .int .i64 n, .int .i64 pl] 116 (by decide)
        have HSA : Hid _ := hsa
        have hsz0 := hsa.size
        have hb2 : Below (wr.alloc (.cells #[.int .u32 e, .int .u32 s, .int .u32 p, .int .i64 k, .int .i64 n, .int .i64 pl] 116)).heap.size (wr.alloc (.cells #[.int .u32 e, .int .u32 s, .int .u32 p, .int .i64 k, .int .i64 n, .int .i64 pl] 116)) w2 := (Below.refl _ _).grown hgrow (Nat.le_refl _) (fun k hk => by cases hk)
        have hbx := (hsa.call hb2).box _ (List.Mem.head _)
        have hrow := row_full' hown
        rw [zeros_made] at hrow
        simp only at hbx
        have q0 : w2.cell? ⟨wr.heap.size, 0, none⟩ = some (.int .u32 e) := cell_of_row w2 _ 0 _ _ _ hbx.1
        have q1 : w2.cell? ⟨wr.heap.size, 1, none⟩ = some (.int .u32 s) := cell_of_row w2 _ 1 _ _ _ hbx.1
        have q2 : w2.cell? ⟨wr.heap.size, 2, none⟩ = some (.int .u32 p) := cell_of_row w2 _ 2 _ _ _ hbx.1
        have q3 : w2.cell? ⟨wr.heap.size, 3, none⟩ = some (.int .i64 k) := cell_of_row w2 _ 3 _ _ _ hbx.1
        have q4 : w2.cell? ⟨wr.heap.size, 4, none⟩ = some (.int .i64 n) := cell_of_row w2 _ 4 _ _ _ hbx.1
        have q5 : w2.cell? ⟨wr.heap.size, 5, none⟩ = some (.int .i64 pl) := cell_of_row w2 _ 5 _ _ _ hbx.1
        have HB2 : Hid (Below (wr.heap.size + 1) (wr.alloc (.cells #[.int .u32 e, .int .u32 s, .int .u32 p, .int .i64 k, .int .i64 n, .int .i64 pl] 116)) w2) := by
          have h := hb2
          rw [show (wr.alloc (.cells #[.int .u32 e, .int .u32 s, .int .u32 p, .int .i64 k, .int .i64 n, .int .i64 pl] 116)).heap.size = wr.heap.size + 1 by simp] at h
          exact h
        have HR2 : Hid (w2.heap[wr.heap.size + 1]? = some (.cells (Bs z128).toArray 5 (0, 0))) := hrow
        have hlt2 := lt_heap hrow
        clear hsa HS hb2 hrow hbx hown hgrow
        go_wp2_with fail
        refine (bytes_any e s p k n pl w2 HE.out.1 HE.out.2.1 HE.out.2.2 (by omega) (by omega) HX.out.2.2).mono ?_
        rintro x w3 ⟨v3, rfl, ho3, hb3⟩
        obtain ⟨pq3, m3, rfl, _, _, hn3⟩ := own_form ho3
        have hi3 := own_in ho3 (markL_byte _ _ _ _ _ _)
        have HR3 : Hid (w3.heap[wr.heap.size + 1]? = some (.cells (Bs z128).toArray 5 (0, 0))) := (hb3.block _ hlt2).trans HR2.out
        have HB3 : Hid (Below (wr.heap.size + 1) (wr.alloc (.cells #[.int .u32 e, .int .u32 s, .int .u32 p, .int .i64 k, .int .i64 n, .int .i64 pl] 116)) w3) := HB2.out.trans (hb3.mono (by omega))
        obtain ⟨mk, HMK⟩ : ∃ mk, Hid (mk = markL e s p k n pl) := ⟨_, rfl⟩
        have HML : Hid (mk.length = 16) := by show _ = _; rw [HMK.out]; rfl
        rw [← HMK.out] at hi3
        have HI3 : Hid (0 < (Bs mk).length → ∃ ad, pq3 = some ad ∧ ∀ j v, (Bs mk)[j]? = some v → w3.cell? (ad.add j) = some v) := by
          intro h
          obtain ⟨b, o, rfl⟩ := hi3.addr (by rw [Bs_len] at h; exact h)
          exact ⟨_, rfl, bin_cells hi3⟩
        have HL3 : Hid ((Bs mk).length = Nat.min (markL e s p k n pl).length 128) := by show _ = _; rw [Bs_len, HML.out]; rfl
        have HF3 : Hid (0 + (Bs mk).length ≤ (Bs z128).length) := by show _ ≤ _; rw [Bs_len, HML.out, Bs_len]; decide
        clear hi3 ho3 hb3 HR2 HB2 hlt2 q0 q1 q2 q3 q4 q5
        go_wp2_with (refine wpList_copy_splice (o := ⟨some 43, _, _, _, _, _⟩) rfl (.tmp 40) (.tmp 42) 22 22 rfl 5 Try.underlying22 size5 (some ⟨wr.heap.size + 1, 0, none⟩) pq3 128 128 (markL e s p k n pl).length m3 rfl rfl (wr.heap.size + 1) 0 (Bs z128) 5 HR3.out (Bs mk) HL3.out (fun h => ⟨rfl, HI3.out h⟩) HF3.out (Bs_one _) (wr.heap.size + 1) (wr.alloc (.cells #[.int .u32 e, .int .u32 s, .int .u32 p, .int .i64 k, .int .i64 n, .int .i64 pl] 116)) HB3.out (Nat.le_refl _) ?_)
        intro w4 hrow4 hb4
        obtain ⟨y1, HY1⟩ : ∃ y1, Hid (y1 = mk ++ List.replicate 112 0) := ⟨mk ++ List.replicate 112 0, (rfl : mk ++ List.replicate 112 0 = _)⟩
        have HR4 : Hid (w4.heap[wr.heap.size + 1]? = some (.cells (Bs y1).toArray 5 (0, 0))) := by
          show _ = _
          rw [hrow4.out, Bs_splice, HY1.out, HML.out]
          rfl
        have HB4 : Hid (Below (wr.heap.size + 1) (wr.alloc (.cells #[.int .u32 e, .int .u32 s, .int .u32 p, .int .i64 k, .int .i64 n, .int .i64 pl] 116)) w4) := hb4
        have HF4 : Hid (16 + ps.size ≤ (Bs y1).length) := by
          have h := HX.out.2
          have hm := HML.out
          show _ ≤ _
          rw [Bs_len, HY1.out, List.length_append, List.length_replicate]
          omega
        have HPS : Hid (ps.size ≤ 112) := by have h := HX.out.2; show _ ≤ _; omega
        clear hrow4 hb4 HR3 HB3 HI3 HL3 HF3 hn3
        go_wp2_with (refine wpList_copy_str (o := ⟨some 47, _, _, _, _, _⟩) rfl (.tmp 45) (.tmp 46) 22 9 rfl 5 Try.underlying22 size5 (wr.heap.size + 1) 16 112 112 ps rfl rfl (Bs y1) 5 HR4.out HPS.out HF4.out (wr.heap.size + 1) (wr.alloc (.cells #[.int .u32 e, .int .u32 s, .int .u32 p, .int .i64 k, .int .i64 n, .int .i64 pl] 116)) HB4.out (Nat.le_refl _) ?_)
        intro w5 hrow5 hb5
        have HR5 : w5.heap[wr.heap.size + 1]? = some (.cells (Bs (secL e s p k n (pieceL (numsOf r) k))).toArray 5 (0, 0)) := by
          have h := HX.out
          rw [hrow5.out, Bs_splice, sec_splice (by rw [HY1.out]) HML.out (by rw [h.1]; exact pieceL_le _ _), h.1, HMK.out]
          unfold secL
          rw [show pl = (pieceL (numsOf r) k).length by rw [← h.1, numsOf_len]; exact h.2.1.symm]
        have HI5 : Hid (BIn w5 (some ⟨wr.heap.size + 1, 0, none⟩) (secL e s p k n (pieceL (numsOf r) k))) := bin_row HR5 (secL_byte (pieceL_byte (numsOf_lt r) k))
        have hb5' : Below (wr.alloc (.cells #[.int .u32 e, .int .u32 s, .int .u32 p, .int .i64 k, .int .i64 n, .int .i64 pl] 116)).heap.size (wr.alloc (.cells #[.int .u32 e, .int .u32 s, .int .u32 p, .int .i64 k, .int .i64 n, .int .i64 pl] 116)) w5 := by
          rw [show (wr.alloc (.cells #[.int .u32 e, .int .u32 s, .int .u32 p, .int .i64 k, .int .i64 n, .int .i64 pl] 116)).heap.size = wr.heap.size + 1 by simp]
          exact hb5
        have hs5 := (HSA.out.call hb5').drop
        have HS5 : Hid _ := hs5
        have hsz5 := hs5.size
        have HLS : Hid (128 = (secL e s p k n (pieceL (numsOf r) k)).length) := (secL_len (pieceL_le _ _)).symm
        have HLF : Hid ((framesK e s p n (numsOf r) k).length + (secL e s p k n (pieceL (numsOf r) k)).length ≤ 140737488355328) := by
          show _ ≤ _
          rw [framesK_len, secL_len (pieceL_le _ _)]
          omega
        clear hs5 hb5' HR5 hrow5 hb5 HR4 HB4 HF4 HPS HSA
        go_wp2_with (at_builtin; refine wpList_append_bytes _ rfl _ _ rfl w1.heap.size _ _ (secL e s p k n (pieceL (numsOf r) k)) (some ⟨wr.heap.size + 1, 0, none⟩) _ 128 rfl rfl HLS.out HS5.out.own HI5.out (fun h => by cases h) HLF.out hsz5 ?_; intro v6 w6 ho6 hg6; have S6 := HS5.out.app ho6 hg6)
        have HS6 : Hid _ := S6.eq (framesK_snoc e s p n (numsOf r) k).symm
        clear S6 ho6 hg6
        go_roundw
        case rel => exact ⟨k + 1, by omega, by go_num, HS6.out⟩
        case measure => simp [intOf]; omega
    · obtain rfl : k = n := by omega
      go_wp2
      go_ret
      have h := HS.out.eq (show framesK e s p k (numsOf r) k = frameN e s p (numsOf r) by unfold frameN; rw [numsOf_len, HN.out])
      exact ⟨_, rfl, h.own, h.bel⟩
end Go.Proofs.Ytpbfoppaeeafhaa
namespace Go.Proofs.Ytpbfoppaeeafhaa
open Go.RowKit Go.WideShapes

def frameR (e s p : Nat) (xs : List Nat) : List Nat × Nat := if e = 0 ∨ s = 0 then ([], 2) else if 4096 < xs.length then ([], 3) else (frameN e s p xs, 0)
structure Framed (w : World) (e s p : Nat) (r : ByteArray) (x : Ending) (w' : World) : Prop where
  is : ∃ v, x = .returned (.tuple #[v, .int .i64 (frameR e s p (numsOf r)).2]) ∧ w'.ownsRow w.heap.size 5 1 v (frameR e s p (numsOf r)).1.length (Bs (frameR e s p (numsOf r)).1)
  bel : Below w.heap.size w w'
theorem framed_bad {w : World} {e s p : Nat} {r : ByteArray} (h : e = 0 ∨ s = 0) : Framed w e s p r (.returned (.tuple #[.slice none 0 0, .int .i64 2])) w := by
  have : frameR e s p (numsOf r) = ([], 2) := by unfold frameR; rw [if_pos h]
  exact ⟨by rw [this]; exact ⟨_, rfl, World.ownsRow_nil _ _ _ _⟩, Below.refl _ _⟩
theorem framed_long {w : World} {e s p : Nat} {r : ByteArray} (h : ¬ (e = 0 ∨ s = 0)) (hl : 4096 < r.size) : Framed w e s p r (.returned (.tuple #[.slice none 0 0, .int .i64 3])) w := by
  have : frameR e s p (numsOf r) = ([], 3) := by unfold frameR; rw [if_neg h, if_pos (by rw [numsOf_len]; exact hl)]
  exact ⟨by rw [this]; exact ⟨_, rfl, World.ownsRow_nil _ _ _ _⟩, Below.refl _ _⟩
theorem framed_ok {w w' : World} {e s p : Nat} {r : ByteArray} {v : Value} (h : ¬ (e = 0 ∨ s = 0)) (hl : r.size ≤ 4096) (ho : w'.ownsRow w.heap.size 5 1 v (frameN e s p (numsOf r)).length (Bs (frameN e s p (numsOf r)))) (hb : Below w.heap.size w w') : Framed w e s p r (.returned (.tuple #[v, .int .i64 0])) w' := by
  have : frameR e s p (numsOf r) = (frameN e s p (numsOf r), 0) := by unfold frameR; rw [if_neg h, if_neg (by rw [numsOf_len]; omega)]
  exact ⟨by rw [this]; exact ⟨_, rfl, ho⟩, hb⟩
theorem beq0 {e : Nat} (h : e ≠ 0) : ((e : Int) == 0) = false := by simp; exact h
theorem Frame_any (e s p : Nat) (r : ByteArray) (w : World) (he : e < 4294967296) (hs : s < 4294967296) (hp : p < 4294967296) (hr : (r.size : Int) ≤ 10000) :
    Calls Try.prog 19 #[.int .u32 e, .int .u32 s, .int .u32 p, .string r] w fun x w' => Framed w e s p r x w' := by
  by_cases h0 : e = 0
  · subst h0
    go_enter Try.func19, Try.ntmps19
    go_wp2
    go_ret2
    exact framed_bad (.inl rfl)
  · have g0 := beq0 h0
    by_cases h1 : s = 0
    · subst h1
      have HH : Hid (e ≠ 0) := h0
      clear h0 he hs hp
      go_enter Try.func19, Try.ntmps19
      go_wp2
      go_ret2
      exact framed_bad (.inr rfl)
    · have g1 := beq0 h1
      have HH : Hid (¬ (e = 0 ∨ s = 0)) := by intro h; rcases h with h | h <;> contradiction
      have HE : Hid (e < 4294967296 ∧ s < 4294967296 ∧ p < 4294967296) := ⟨he, hs, hp⟩
      clear he hs hp h0 h1
      by_cases hl : 4096 < r.size
      · have hlI : (4096 : Int) < r.size := by omega
        have HL : Hid (4096 < r.size) := hl
        clear hl
        go_enter Try.func19, Try.ntmps19
        go_wp2
        go_ret2
        exact framed_long HH.out HL.out
      · have hlI : (r.size : Int) ≤ 4096 := by omega
        have HL : Hid (r.size ≤ 4096) := by show _ ≤ _; omega
        clear hl hr
        go_enter Try.func19, Try.ntmps19
        go_wp2_with (go_at_call 43; refine (frame_any e s p r _ HE.out.1 HE.out.2.1 HE.out.2.2 HL.out).mono ?_; rintro x w1 ⟨v, rfl, ho, hb⟩)
        go_ret2
        exact framed_ok HH.out HL.out ho hb
end Go.Proofs.Ytpbfoppaeeafhaa
namespace Go.Proofs.Ytpbfoppaeeafhaa
open Go.RowKit Go.WideShapes

set_option maxRecDepth 8000 in
theorem rneeds_any (m r : Nat) (w : World) (hs : m ≤ 10000) (hr : needsN m = r) :
    Calls Try.prog 50 #[.int .i64 m] w fun e w' => e = .returned (.int .i64 r) ∧ w' = w := by
  have HR : Hid (needsN m = r) := hr
  have k1 : IntKind.i64.wrap ((m : Int) + 112) = (m : Int) + 112 := by rw [IntKind.wrap_i64]; omega
  have k2 : IntKind.i64.wrap ((m : Int) + 112 - 1) = (m : Int) + 112 - 1 := by rw [IntKind.wrap_i64]; omega
  have HS : Hid (m ≤ 10000) := hs
  clear hs hr
  go_enter Try.func50, Try.ntmps50
  go_wp2
  all_goals
    go_ret
    refine ⟨?_, rfl⟩
    rw [← HR.out]
    unfold needsN
    refine ret_int ?_
    have e := needs_div m HS.out
    omega
/-- The first four bytes of a number's eight. -/
theorem rfour_any (n : Nat) (w : World) (hn : n < 4294967296) :
    Calls Try.prog 51 #[.int .u32 n] w fun e w' => ∃ p c, e = .returned (.slice p 4 c) ∧ BIn w' p (le4 n) ∧ (p = none → c = 0) ∧ Below w.heap.size w w' := by
  have hw : IntKind.u64.wrap (n : Int) = n := by rw [IntKind.wrap_u64]; omega
  have HN : Hid (n < 4294967296) := hn
  clear hn
  go_enter Try.func51, Try.ntmps51
  go_wp2_with fail
  refine (refPut_any n _ (by have := HN.out; omega)).mono ?_
  rintro x w1 ⟨v, rfl, ho, hb⟩
  obtain ⟨q, m, rfl, h8, hm, hq⟩ := own_form ho
  have hin := (own_at ho rfl (putN_bytes n (by have := HN.out; omega))).take' 4
  rw [le4_put n HN.out] at hin
  have HI : Hid (BIn w1 q (le4 n)) := hin
  have HB : Hid (Below w.heap.size w w1) := hb
  have HQ : Hid (q = none → m = 0) := hq
  have hmI : (4 : Int) ≤ m := by omega
  have HM8 : Hid (8 ≤ m) := h8
  clear ho hin hb hq hm h8
  obtain ⟨b, o, hqe⟩ := HI.out.addr (by rw [le4_len]; omega)
  subst hqe
  go_wp2
  go_ret
  exact ⟨_, _, rfl, HI.out, (fun h => by cases h), HB.out⟩
theorem number_bytes {a0 a1 a2 a3 : Nat} (h : a0 < 256 ∧ a1 < 256 ∧ a2 < 256 ∧ a3 < 256) : ∀ c ∈ [a0, a1, a2, a3, 0, 0, 0, 0], c < 256 := by
  intro c hc
  simp only [List.mem_cons, List.not_mem_nil, or_false] at hc
  omega
set_option maxRecDepth 8000 in
set_option maxHeartbeats 4000000 in
theorem rnumber_any (p : Option Addr) (xs : List Nat) (n c : Nat) (w : World) (hn : n = xs.length) (h4 : 4 ≤ xs.length) (hb : BIn w p xs) :
    Calls Try.prog 52 #[.slice p n c] w fun e w' => e = .returned (.int .u32 (numAt xs 0 : Nat)) ∧ Below w.heap.size w w' := by
  obtain ⟨b, o, rfl⟩ := hb.addr (by omega)
  obtain ⟨a0, e0⟩ : ∃ a, xs.getD 0 0 = a := ⟨_, rfl⟩
  obtain ⟨a1, e1⟩ : ∃ a, xs.getD 1 0 = a := ⟨_, rfl⟩
  obtain ⟨a2, e2⟩ : ∃ a, xs.getD 2 0 = a := ⟨_, rfl⟩
  obtain ⟨a3, e3⟩ : ∃ a, xs.getD 3 0 = a := ⟨_, rfl⟩
  have c0 : w.cell? ⟨b, o, none⟩ = some (.int .u8 a0) := by have := hb.cell 0 (by omega); rw [e0] at this; exact this
  have c1 : w.cell? ⟨b, o + 1, none⟩ = some (.int .u8 a1) := by have := hb.cell 1 (by omega); rw [e1] at this; exact this
  have c2 : w.cell? ⟨b, o + 2, none⟩ = some (.int .u8 a2) := by have := hb.cell 2 (by omega); rw [e2] at this; exact this
  have c3 : w.cell? ⟨b, o + 3, none⟩ = some (.int .u8 a3) := by have := hb.cell 3 (by omega); rw [e3] at this; exact this
  have H4 : Hid (a0 < 256 ∧ a1 < 256 ∧ a2 < 256 ∧ a3 < 256) := ⟨e0 ▸ getD_lt hb.2 0, e1 ▸ getD_lt hb.2 1, e2 ▸ getD_lt hb.2 2, e3 ▸ getD_lt hb.2 3⟩
  have HV : Hid (joinN a0 a1 a2 a3 0 0 0 0 = numAt xs 0) := by show _ = _; rw [join8]; unfold numAt; rw [e0, e1, e2, e3]
  have HLT : Hid (numAt xs 0 < 4294967296) := numAt_lt hb.2 0
  have n0 : (0 : Int) < n := by omega
  have n0' : 0 < n := by omega
  have n0'' : ¬ n = 0 := by omega
  have HBI : Hid (BIn ((w.alloc (.cells #[.int .u8 a0, .int .u8 a1, .int .u8 a2, .int .u8 a3, .int .u8 0, .int .u8 0, .int .u8 0, .int .u8 0] 5)).drew) (some ⟨w.heap.size, 0, none⟩) [a0, a1, a2, a3, 0, 0, 0, 0]) := (bin_lit w _ _ 5 (0, 0) [a0, a1, a2, a3, 0, 0, 0, 0] rfl (by simp [Bs]) (number_bytes H4.out)).below ((Below.refl _ _).drew)
  have n1 : (1 : Int) < n := by omega
  have n2 : (2 : Int) < n := by omega
  have n3 : (3 : Int) < n := by omega
  clear hb hn h4 e0 e1 e2 e3
  go_enter Try.func52, Try.ntmps52
  go_wp2
  go_region_held3 (fun w' => (w'.cell? ⟨b, o, none⟩ = some (.int .u8 a0) ∧ w'.cell? ⟨b, o + 1, none⟩ = some (.int .u8 a1) ∧ w'.cell? ⟨b, o + 2, none⟩ = some (.int .u8 a2) ∧ w'.cell? ⟨b, o + 3, none⟩ = some (.int .u8 a3)) ∧ Below w.heap.size w w')
    (first | exact ⟨⟨c0, c1, c2, c3⟩, (Below.refl _ _).drew⟩ | (refine ⟨⟨(World.cell?_alloc_lt _ _ _ (World.block_lt_of_cell? _ _ c0)).trans c0, (World.cell?_alloc_lt _ _ _ (World.block_lt_of_cell? _ _ c1)).trans c1, (World.cell?_alloc_lt _ _ _ (World.block_lt_of_cell? _ _ c2)).trans c2, (World.cell?_alloc_lt _ _ _ (World.block_lt_of_cell? _ _ c3)).trans c3⟩, ((Below.refl _ _).drew).alloc (Nat.le_refl _) _⟩) | assumption)
    (first | (go_at_call 68; refine (refGet_ok (some ⟨w.heap.size, 0, none⟩) 8 a0 a1 a2 a3 0 0 0 0 _ HBI.out).mono ?_; rintro e w1 ⟨rfl, rfl⟩) | fail)
  rename_i hh
  have hbe := hh.2
  have HBE : Hid _ := hbe
  clear hh hbe
  rw [HV.out]
  go_wp2
  go_ret
  refine ⟨?_, HBE.out⟩
  have := HLT.out
  exact ret_int (by omega)
end Go.Proofs.Ytpbfoppaeeafhaa
namespace Go.Proofs.Ytpbfoppaeeafhaa
open Go.RowKit Go.WideShapes

theorem St.appStr {w : World} {bx : List Box} {wc w2 : World} {v v2 : Value} {xs : List Nat} {s : ByteArray} (h : St w bx wc v xs) (ho : w2.ownsRow w.heap.size 5 1 v2 (xs.length + s.size) (Bs xs ++ Lib.strCells s)) (hg : wc.grownBy w2 v.ownBlock) : St w bx w2 v2 (xs ++ numsOf s) := by
  refine h.app ?_ hg
  rw [List.length_append, numsOf_len, Bs_app, ← strCells_Bs]
  exact ho
def lenV : Value → Nat
  | .slice _ n _ => n
  | _ => 0
def onWay (e s p n k : Nat) (r : List Nat) (z : Nat) : List Nat := framesK e s p n r k ++ (markL e s p k n (pieceL r k).length ++ (pieceL r k ++ List.replicate z 0))
theorem onWay_len (e s p n k : Nat) (r : List Nat) (z : Nat) : (onWay e s p n k r z).length = k * 128 + 16 + (pieceL r k).length + z := by
  unfold onWay; rw [List.length_append, framesK_len, List.length_append, markL_len, List.length_append, List.length_replicate]; omega
theorem onWay_snoc (e s p n k : Nat) (r : List Nat) (z : Nat) : onWay e s p n k r z ++ [0] = onWay e s p n k r (z + 1) := by
  unfold onWay; rw [List.replicate_succ']; simp only [List.append_assoc]
theorem onWay_full (e s p n k : Nat) (r : List Nat) (z : Nat) (h : (pieceL r k).length + z = 112) : onWay e s p n k r z = framesK e s p n r (k + 1) := by
  rw [framesK_snoc]; unfold onWay secL; rw [show 112 - (pieceL r k).length = z by omega]
theorem onWay_zero (e s p n k : Nat) (r : List Nat) (h1 : k < 256) (h2 : n < 256) (pl : Nat) (hp : (pieceL r k).length = pl) (h3 : pl ≤ 112) : framesK e s p n r k ++ le4 e ++ le4 s ++ le4 p ++ [k, n, pl % 256, pl / 256] ++ pieceL r k = onWay e s p n k r 0 := by
  unfold onWay markL
  rw [hp, show k % 256 = k by omega, show n % 256 = n by omega, show pl / 256 % 256 = pl / 256 by omega]
  simp only [List.append_assoc, List.replicate_zero, List.append_nil]
set_option maxRecDepth 8000 in
set_option maxHeartbeats 4000000 in
theorem rframe_ok (e s p : Nat) (r : ByteArray) (w : World) (he : e < 4294967296) (hs : s < 4294967296) (hp : p < 4294967296) (hr : r.size ≤ 4096) (h0 : ¬ (e = 0 ∨ s = 0)) :
    Calls Try.prog 20 #[.int .u32 e, .int .u32 s, .int .u32 p, .string r] w fun x w' => Framed w e s p r x w' := by
  obtain ⟨i0, hi, hz0, hz1, hz2⟩ := info_parts info5
  have g0 : ((e : Int) == 0) = false := beq0 (fun h => h0 (.inl h))
  have g1 : ((s : Int) == 0) = false := beq0 (fun h => h0 (.inr h))
  have HH : Hid (¬ (e = 0 ∨ s = 0)) := h0
  have HE : Hid (e < 4294967296 ∧ s < 4294967296 ∧ p < 4294967296) := ⟨he, hs, hp⟩
  have HR : Hid (r.size ≤ 4096) := hr
  have hrI : (r.size : Int) ≤ 4096 := by omega
  obtain ⟨n, hn⟩ : ∃ n, needsN r.size = n := ⟨_, rfl⟩
  have HN : Hid (needsN r.size = n) := hn
  have hn37 : (n : Int) ≤ 200 := by have := needsN_le hr; omega
  clear he hs hp hr hn h0
  go_enter Try.func20, Try.ntmps20
  go_wp2_with (go_at_call 50; refine (rneeds_any r.size n _ (by have := HR.out; omega) HN.out).mono ?_; rintro x w1 ⟨rfl, rfl⟩)
  go_loopw [10, 12] (fun m i wr => ∃ k : Nat, k ≤ n ∧ i = .int .i64 k ∧ St w1 [] wr m (framesK e s p n (numsOf r) k)) (fun _ i _ => n - (intOf i).toNat)
  case atStart => exact ⟨0, by omega, rfl, St.start (fun p hp => by simp at hp)⟩
  case round =>
    obtain ⟨k, hk, rfl, hst⟩ := hrel
    have HS : Hid _ := hst
    clear hst
    by_cases hkn : k < n
    · have hkI : (k : Int) < (n : Int) := by omega
      have HFL : Hid ((framesK e s p n (numsOf r) k).length ≤ 30000) := by show _ ≤ _; rw [framesK_len]; omega
      have k1 : IntKind.i64.wrap ((k : Int) * 112) = (k : Int) * 112 := by rw [IntKind.wrap_i64]; omega
      have k2 : IntKind.i64.wrap ((k : Int) * 112 + 112) = (k : Int) * 112 + 112 := by rw [IntKind.wrap_i64]; omega
      have hlo : (k : Int) * 112 ≤ (r.size : Int) := by have := HN.out; unfold needsN at this; omega
      by_cases hfull : r.size ≤ k * 112 + 112
      · have g2 : (r.size : Int) ≤ (k : Int) * 112 + 112 := by omega
        go_wp2_with fail
        refine (rfour_any e _ HE.out.1).mono ?_
        rintro x w5 ⟨q5, m5, rfl, hi5, hq5, hb5⟩
        generalize hps : r.extract (k * 112) r.size = ps
        have HX : Hid (numsOf ps = pieceL (numsOf r) k ∧ ps.size ≤ 112) := by
          have e1 : numsOf ps = pieceL (numsOf r) k := by rw [← hps, ← strPiece_nums]; unfold strPiece; rw [Nat.min_eq_right (by omega)]
          exact ⟨e1, by rw [← numsOf_len, e1]; exact pieceL_le _ _⟩
        clear hps k1 k2 hlo hfull g2
        have s5 := HS.out.call hb5
        have HS5 : Hid _ := s5
        have hz5 := s5.size
        have HI5 : Hid (BIn w5 q5 (le4 e)) := hi5
        clear s5 HS hi5 hb5
        go_wp2_with (at_builtin; refine wpList_append_bytes _ rfl _ _ rfl w1.heap.size _ _ (le4 e) q5 _ m5 rfl rfl rfl HS5.out.own HI5.out hq5 (by have := HFL.out; have := le4_len e; have := le4_len e; omega) hz5 ?_; intro v5 u5 ho5 hg5; have t5 := HS5.out.app ho5 hg5)
        have HT1 : Hid _ := t5
        clear t5 ho5 hg5 HS5 HI5 hq5
        go_wp2_with fail
        refine (rfour_any s _ HE.out.2.1).mono ?_
        rintro x w6 ⟨q6, m6, rfl, hi6, hq6, hb6⟩
        have s6 := HT1.out.call hb6
        have HS6 : Hid _ := s6
        have hz6 := s6.size
        have HI6 : Hid (BIn w6 q6 (le4 s)) := hi6
        clear s6 HT1 hi6 hb6
        go_wp2_with (at_builtin; refine wpList_append_bytes _ rfl _ _ rfl w1.heap.size _ _ (le4 s) q6 _ m6 rfl rfl rfl HS6.out.own HI6.out hq6 (by rw [List.length_append]; have := HFL.out; have := le4_len s; have := le4_len e; omega) hz6 ?_; intro v6 u6 ho6 hg6; have t6 := HS6.out.app ho6 hg6)
        have HT2 : Hid _ := t6
        clear t6 ho6 hg6 HS6 HI6 hq6
        have hplI : (ps.size : Int) ≤ 112 := by have := HX.out.2; omega
        have b1 : IntKind.u8.wrap (k : Int) = k := by rw [IntKind.wrap_u8']; omega
        have b2 : IntKind.u8.wrap (n : Int) = n := by rw [IntKind.wrap_u8']; omega
        go_wp2_with fail
        refine (rfour_any p _ HE.out.2.2).mono ?_
        rintro x w7 ⟨q7, m7, rfl, hi7, hq7, hb7⟩
        have s7 := HT2.out.call hb7
        have HS7 : Hid _ := s7
        have hz7 := s7.size
        have HI7 : Hid (BIn w7 q7 (le4 p)) := hi7
        clear s7 HT2 hi7 hb7
        go_wp2_with (first
          | (at_builtin; refine wpList_append_bytes _ rfl _ _ rfl w1.heap.size _ _ (le4 p) q7 _ m7 rfl rfl rfl HS7.out.own HI7.out hq7 (by simp only [List.length_append, le4_len]; have := HFL.out; omega) hz7 ?_; intro v7 u7 ho7 hg7; have t7 := HS7.out.app ho7 hg7; have s8 := t7.call (below_alloc u7 (.cells #[.int .u8 k, .int .u8 n, .int .u8 ((ps.size : Int) % 256), .int .u8 ((ps.size : Int) / 256)] 5)); have hz8 := s8.size; have HS8 : Hid _ := s8; have HI8 : Hid (BIn (u7.alloc (.cells #[.int .u8 k, .int .u8 n, .int .u8 ((ps.size : Int) % 256), .int .u8 ((ps.size : Int) / 256)] 5)) (some ⟨u7.heap.size, 0, none⟩) [k, n, ps.size % 256, ps.size / 256]) := bin_lit u7 _ _ 5 (0, 0) _ rfl (by simp [Bs]) (by intro c hc; simp only [List.mem_cons, List.not_mem_nil, or_false] at hc; omega); clear s8 t7 ho7 hg7 HS7 HI7 hq7)
          | (at_builtin; refine wpList_append_bytes _ rfl _ _ rfl w1.heap.size _ _ [k, n, ps.size % 256, ps.size / 256] (some ⟨u7.heap.size, 0, none⟩) _ 4 rfl rfl rfl HS8.out.own HI8.out (fun h => by cases h) (by simp only [List.length_append, le4_len, List.length_cons, List.length_nil]; have := HFL.out; omega) hz8 ?_; intro v8 u8 ho8 hg8; have t8 := HS8.out.app ho8 hg8; have HS9 : Hid _ := t8; have hz9 := t8.size; clear t8 ho8 hg8 HS8 HI8)
          | (at_builtin; refine Lib.wpList_append_own_string _ rfl _ _ 22 9 rfl w1.heap.size 5 i0 Try.underlying22 Try.underlying9 hi hz0 hz1 hz2 _ _ _ rfl HS9.out.own ps rfl (by unfold maxLen; simp only [List.length_append, le4_len, List.length_cons, List.length_nil]; have := HFL.out; omega) (by simp only [List.length_append, le4_len, List.length_cons, List.length_nil]; have := HFL.out; omega) hz9 ?_; intro v9 u9 ho9 hg9 _; have t9 := HS9.out.appStr ho9 hg9; have HT9 : Hid _ := t9; clear t9 ho9 hg9 HS9))
        have h9 := HT9.out.eq (show _ = onWay e s p n k (numsOf r) 0 by rw [HX.out.1]; exact onWay_zero e s p n k (numsOf r) (by omega) (by omega) ps.size (by rw [← HX.out.1, numsOf_len]) HX.out.2)
        have HP : Hid ((pieceL (numsOf r) k).length ≤ 112) := pieceL_le _ _
        clear HT9
        go_loopw [10] (fun m wr => ∃ z, (pieceL (numsOf r) k).length + z ≤ 112 ∧ St w1 [] wr m (onWay e s p n k (numsOf r) z)) (fun m _ => 100000 - lenV m)
        case atStart => exact ⟨0, by have := HP.out; omega, h9⟩
        case round =>
          clear h9
          obtain ⟨z, hz, hst⟩ := hrel
          obtain ⟨q10, m10, rfl, hlc, hmx, hqn⟩ := own_form hst.own
          have HST : Hid (St w1 [] wr (.slice q10 (onWay e s p n k (numsOf r) z).length m10) (onWay e s p n k (numsOf r) z)) := hst
          have HOL : Hid ((onWay e s p n k (numsOf r) z).length = k * 128 + 16 + (pieceL (numsOf r) k).length + z) := onWay_len _ _ _ _ _ _ _
          have HZ : Hid ((pieceL (numsOf r) k).length + z ≤ 112) := hz
          have HLL : Hid ((onWay e s p n k (numsOf r) z).length ≤ 40000) := by have := HOL.out; show _ ≤ _; omega
          have hLI : ((onWay e s p n k (numsOf r) z).length : Int) ≤ 1000000 := by have := HLL.out; omega
          clear hst hlc hmx hqn
          by_cases hd : (pieceL (numsOf r) k).length + z = 112
          · have HF : Hid (St w1 [] wr (.slice q10 (onWay e s p n k (numsOf r) z).length m10) (framesK e s p n (numsOf r) (k + 1))) := HST.out.eq (onWay_full e s p n k (numsOf r) z hd)
            have hr0 : ((onWay e s p n k (numsOf r) z).length : Int) % 128 = 0 := by have := HOL.out; omega
            have hr1 : ((onWay e s p n k (numsOf r) z).length : Int).tmod 128 = 0 := by rw [Int.tmod_eq_emod_of_nonneg (by omega)]; exact hr0
            clear hz HOL hd HST
            generalize (onWay e s p n k (numsOf r) z).length = L at *
            go_wp2
            go_roundw
            case rel => exact ⟨k + 1, by omega, by go_num, HF.out⟩
            case measure => simp [intOf]; omega
          · have hr0 : (((onWay e s p n k (numsOf r) z).length : Int) % 128 == 0) = false := by have := HOL.out; simp; omega
            have hr1 : (((onWay e s p n k (numsOf r) z).length : Int).tmod 128 == 0) = false := by rw [Int.tmod_eq_emod_of_nonneg (by omega)]; exact hr0
            have hr2 : ¬ ((onWay e s p n k (numsOf r) z).length : Int) % 128 = 0 := by have := HOL.out; omega
            have HD : Hid (¬ (pieceL (numsOf r) k).length + z = 112) := hd
            have sa := HST.out.call (below_alloc wr (.cells #[.int .u8 0] 5))
            have HSA : Hid _ := sa
            have hza := sa.size
            have HIA : Hid (BIn (wr.alloc (.cells #[.int .u8 0] 5)) (some ⟨wr.heap.size, 0, none⟩) [0]) := bin_lit wr _ _ 5 (0, 0) [0] rfl (by simp [Bs]) (by simp)
            clear hz sa HST hd
            go_wp2_with (at_builtin; go_loud (refine wpList_append_bytes _ rfl _ _ rfl w1.heap.size _ _ [0] (some ⟨wr.heap.size, 0, none⟩) _ 1 rfl rfl rfl HSA.out.own HIA.out (fun h => by cases h) (by have := HLL.out; simp only [List.length_cons, List.length_nil]; omega) hza ?_); intro va ua hoa hga; have ta := (HSA.out.app hoa hga).eq (onWay_snoc e s p n k (numsOf r) z); obtain ⟨qa, ma, rfl, _, _, _⟩ := own_form ta.own; have HTA : Hid _ := ta; clear ta hoa hga)
            go_roundw
            case rel => exact ⟨z + 1, by have := HZ.out; have := HD.out; omega, HTA.out⟩
            case measure =>
              have h1 := HOL.out
              have h2 := onWay_len e s p n k (numsOf r) (z + 1)
              have h3 := HLL.out
              simp only [lenV]
              omega
      · have g2 : (k : Int) * 112 + 112 < (r.size : Int) := by omega
        have tn : ((k : Int) * 112 + 112).toNat = k * 112 + 112 := by omega
        go_wp2_with fail
        refine (rfour_any e _ HE.out.1).mono ?_
        rintro x w5 ⟨q5, m5, rfl, hi5, hq5, hb5⟩
        generalize hps : r.extract (k * 112) (k * 112 + 112) = ps
        have HX : Hid (numsOf ps = pieceL (numsOf r) k ∧ ps.size ≤ 112) := by
          have e1 : numsOf ps = pieceL (numsOf r) k := by rw [← hps, ← strPiece_nums]; unfold strPiece; rw [show (k + 1) * 112 = k * 112 + 112 by omega, Nat.min_eq_left (by omega)]
          exact ⟨e1, by rw [← numsOf_len, e1]; exact pieceL_le _ _⟩
        clear hps k1 k2 hlo hfull g2
        have s5 := HS.out.call hb5
        have HS5 : Hid _ := s5
        have hz5 := s5.size
        have HI5 : Hid (BIn w5 q5 (le4 e)) := hi5
        clear s5 HS hi5 hb5
        go_wp2_with (at_builtin; refine wpList_append_bytes _ rfl _ _ rfl w1.heap.size _ _ (le4 e) q5 _ m5 rfl rfl rfl HS5.out.own HI5.out hq5 (by have := HFL.out; have := le4_len e; have := le4_len e; omega) hz5 ?_; intro v5 u5 ho5 hg5; have t5 := HS5.out.app ho5 hg5)
        have HT1 : Hid _ := t5
        clear t5 ho5 hg5 HS5 HI5 hq5
        go_wp2_with fail
        refine (rfour_any s _ HE.out.2.1).mono ?_
        rintro x w6 ⟨q6, m6, rfl, hi6, hq6, hb6⟩
        have s6 := HT1.out.call hb6
        have HS6 : Hid _ := s6
        have hz6 := s6.size
        have HI6 : Hid (BIn w6 q6 (le4 s)) := hi6
        clear s6 HT1 hi6 hb6
        go_wp2_with (at_builtin; refine wpList_append_bytes _ rfl _ _ rfl w1.heap.size _ _ (le4 s) q6 _ m6 rfl rfl rfl HS6.out.own HI6.out hq6 (by rw [List.length_append]; have := HFL.out; have := le4_len s; have := le4_len e; omega) hz6 ?_; intro v6 u6 ho6 hg6; have t6 := HS6.out.app ho6 hg6)
        have HT2 : Hid _ := t6
        clear t6 ho6 hg6 HS6 HI6 hq6
        have hplI : (ps.size : Int) ≤ 112 := by have := HX.out.2; omega
        have b1 : IntKind.u8.wrap (k : Int) = k := by rw [IntKind.wrap_u8']; omega
        have b2 : IntKind.u8.wrap (n : Int) = n := by rw [IntKind.wrap_u8']; omega
        go_wp2_with fail
        refine (rfour_any p _ HE.out.2.2).mono ?_
        rintro x w7 ⟨q7, m7, rfl, hi7, hq7, hb7⟩
        have s7 := HT2.out.call hb7
        have HS7 : Hid _ := s7
        have hz7 := s7.size
        have HI7 : Hid (BIn w7 q7 (le4 p)) := hi7
        clear s7 HT2 hi7 hb7
        go_wp2_with (first
          | (at_builtin; refine wpList_append_bytes _ rfl _ _ rfl w1.heap.size _ _ (le4 p) q7 _ m7 rfl rfl rfl HS7.out.own HI7.out hq7 (by simp only [List.length_append, le4_len]; have := HFL.out; omega) hz7 ?_; intro v7 u7 ho7 hg7; have t7 := HS7.out.app ho7 hg7; have s8 := t7.call (below_alloc u7 (.cells #[.int .u8 k, .int .u8 n, .int .u8 ((ps.size : Int) % 256), .int .u8 ((ps.size : Int) / 256)] 5)); have hz8 := s8.size; have HS8 : Hid _ := s8; have HI8 : Hid (BIn (u7.alloc (.cells #[.int .u8 k, .int .u8 n, .int .u8 ((ps.size : Int) % 256), .int .u8 ((ps.size : Int) / 256)] 5)) (some ⟨u7.heap.size, 0, none⟩) [k, n, ps.size % 256, ps.size / 256]) := bin_lit u7 _ _ 5 (0, 0) _ rfl (by simp [Bs]) (by intro c hc; simp only [List.mem_cons, List.not_mem_nil, or_false] at hc; omega); clear s8 t7 ho7 hg7 HS7 HI7 hq7)
          | (at_builtin; refine wpList_append_bytes _ rfl _ _ rfl w1.heap.size _ _ [k, n, ps.size % 256, ps.size / 256] (some ⟨u7.heap.size, 0, none⟩) _ 4 rfl rfl rfl HS8.out.own HI8.out (fun h => by cases h) (by simp only [List.length_append, le4_len, List.length_cons, List.length_nil]; have := HFL.out; omega) hz8 ?_; intro v8 u8 ho8 hg8; have t8 := HS8.out.app ho8 hg8; have HS9 : Hid _ := t8; have hz9 := t8.size; clear t8 ho8 hg8 HS8 HI8)
          | (at_builtin; refine Lib.wpList_append_own_string _ rfl _ _ 22 9 rfl w1.heap.size 5 i0 Try.underlying22 Try.underlying9 hi hz0 hz1 hz2 _ _ _ rfl HS9.out.own ps rfl (by unfold maxLen; simp only [List.length_append, le4_len, List.length_cons, List.length_nil]; have := HFL.out; omega) (by simp only [List.length_append, le4_len, List.length_cons, List.length_nil]; have := HFL.out; omega) hz9 ?_; intro v9 u9 ho9 hg9 _; have t9 := HS9.out.appStr ho9 hg9; have HT9 : Hid _ := t9; clear t9 ho9 hg9 HS9))
        have h9 := HT9.out.eq (show _ = onWay e s p n k (numsOf r) 0 by rw [HX.out.1]; exact onWay_zero e s p n k (numsOf r) (by omega) (by omega) ps.size (by rw [← HX.out.1, numsOf_len]) HX.out.2)
        have HP : Hid ((pieceL (numsOf r) k).length ≤ 112) := pieceL_le _ _
        clear HT9
        go_loopw [10] (fun m wr => ∃ z, (pieceL (numsOf r) k).length + z ≤ 112 ∧ St w1 [] wr m (onWay e s p n k (numsOf r) z)) (fun m _ => 100000 - lenV m)
        case atStart => exact ⟨0, by have := HP.out; omega, h9⟩
        case round =>
          clear h9
          obtain ⟨z, hz, hst⟩ := hrel
          obtain ⟨q10, m10, rfl, hlc, hmx, hqn⟩ := own_form hst.own
          have HST : Hid (St w1 [] wr (.slice q10 (onWay e s p n k (numsOf r) z).length m10) (onWay e s p n k (numsOf r) z)) := hst
          have HOL : Hid ((onWay e s p n k (numsOf r) z).length = k * 128 + 16 + (pieceL (numsOf r) k).length + z) := onWay_len _ _ _ _ _ _ _
          have HZ : Hid ((pieceL (numsOf r) k).length + z ≤ 112) := hz
          have HLL : Hid ((onWay e s p n k (numsOf r) z).length ≤ 40000) := by have := HOL.out; show _ ≤ _; omega
          have hLI : ((onWay e s p n k (numsOf r) z).length : Int) ≤ 1000000 := by have := HLL.out; omega
          clear hst hlc hmx hqn
          by_cases hd : (pieceL (numsOf r) k).length + z = 112
          · have HF : Hid (St w1 [] wr (.slice q10 (onWay e s p n k (numsOf r) z).length m10) (framesK e s p n (numsOf r) (k + 1))) := HST.out.eq (onWay_full e s p n k (numsOf r) z hd)
            have hr0 : ((onWay e s p n k (numsOf r) z).length : Int) % 128 = 0 := by have := HOL.out; omega
            have hr1 : ((onWay e s p n k (numsOf r) z).length : Int).tmod 128 = 0 := by rw [Int.tmod_eq_emod_of_nonneg (by omega)]; exact hr0
            clear hz HOL hd HST
            generalize (onWay e s p n k (numsOf r) z).length = L at *
            go_wp2
            go_roundw
            case rel => exact ⟨k + 1, by omega, by go_num, HF.out⟩
            case measure => simp [intOf]; omega
          · have hr0 : (((onWay e s p n k (numsOf r) z).length : Int) % 128 == 0) = false := by have := HOL.out; simp; omega
            have hr1 : (((onWay e s p n k (numsOf r) z).length : Int).tmod 128 == 0) = false := by rw [Int.tmod_eq_emod_of_nonneg (by omega)]; exact hr0
            have hr2 : ¬ ((onWay e s p n k (numsOf r) z).length : Int) % 128 = 0 := by have := HOL.out; omega
            have HD : Hid (¬ (pieceL (numsOf r) k).length + z = 112) := hd
            have sa := HST.out.call (below_alloc wr (.cells #[.int .u8 0] 5))
            have HSA : Hid _ := sa
            have hza := sa.size
            have HIA : Hid (BIn (wr.alloc (.cells #[.int .u8 0] 5)) (some ⟨wr.heap.size, 0, none⟩) [0]) := bin_lit wr _ _ 5 (0, 0) [0] rfl (by simp [Bs]) (by simp)
            clear hz sa HST hd
            go_wp2_with (at_builtin; go_loud (refine wpList_append_bytes _ rfl _ _ rfl w1.heap.size _ _ [0] (some ⟨wr.heap.size, 0, none⟩) _ 1 rfl rfl rfl HSA.out.own HIA.out (fun h => by cases h) (by have := HLL.out; simp only [List.length_cons, List.length_nil]; omega) hza ?_); intro va ua hoa hga; have ta := (HSA.out.app hoa hga).eq (onWay_snoc e s p n k (numsOf r) z); obtain ⟨qa, ma, rfl, _, _, _⟩ := own_form ta.own; have HTA : Hid _ := ta; clear ta hoa hga)
            go_roundw
            case rel => exact ⟨z + 1, by have := HZ.out; have := HD.out; omega, HTA.out⟩
            case measure =>
              have h1 := HOL.out
              have h2 := onWay_len e s p n k (numsOf r) (z + 1)
              have h3 := HLL.out
              simp only [lenV]
              omega
    · obtain rfl : k = n := by omega
      go_wp2
      go_ret2
      have h := HS.out.eq (show framesK e s p k (numsOf r) k = frameN e s p (numsOf r) by unfold frameN; rw [numsOf_len, HN.out])
      exact framed_ok HH.out HR.out h.own h.bel
set_option maxRecDepth 8000 in
theorem rFrame_any (e s p : Nat) (r : ByteArray) (w : World) (he : e < 4294967296) (hs : s < 4294967296) (hp : p < 4294967296) (hr : (r.size : Int) ≤ 40000) :
    Calls Try.prog 20 #[.int .u32 e, .int .u32 s, .int .u32 p, .string r] w fun x w' => Framed w e s p r x w' := by
  by_cases h0 : e = 0
  · subst h0
    clear he hs hp
    go_enter Try.func20, Try.ntmps20
    go_wp2
    go_ret2
    exact framed_bad (.inl rfl)
  · have g0 := beq0 h0
    by_cases h1 : s = 0
    · subst h1
      clear h0 he hs hp
      go_enter Try.func20, Try.ntmps20
      go_wp2
      go_ret2
      exact framed_bad (.inr rfl)
    · have g1 := beq0 h1
      have HH : Hid (¬ (e = 0 ∨ s = 0)) := by intro h; rcases h with h | h <;> contradiction
      by_cases hl : 4096 < r.size
      · have hlI : (4096 : Int) < r.size := by omega
        have HL : Hid (4096 < r.size) := hl
        clear hl h0 h1 he hs hp
        go_enter Try.func20, Try.ntmps20
        go_wp2
        go_ret2
        exact framed_long HH.out HL.out
      · exact rframe_ok e s p r w he hs hp (by omega) HH.out
end Go.Proofs.Ytpbfoppaeeafhaa
namespace Go.Proofs.Ytpbfoppaeeafhaa
open Go.RowKit Go.WideShapes

abbrev OpenT := ByteArray × Nat × Nat × Nat
open Classical in
noncomputable def openR (e p : Nat) (xs : List Nat) : OpenT :=
  if e = 0 then (ByteArray.empty, 0, 0, 2)
  else if h : ∃ y : Nat × List Nat, IsRec e p xs y.1 y.2 then (strOf (Classical.choose h).2, (Classical.choose h).1, needsN (Classical.choose h).2.length, 0)
  else (ByteArray.empty, 0, 0, 0)
def openE (r : OpenT) : Value := .tuple #[.string r.1, .int .u32 r.2.1, .int .i64 r.2.2.1, .int .i64 r.2.2.2]
theorem openR_zero (p : Nat) (xs : List Nat) : openR 0 p xs = (ByteArray.empty, 0, 0, 2) := by unfold openR; rw [if_pos rfl]
theorem openR_yes {e p s : Nat} {xs r : List Nat} (he0 : e ≠ 0) (he : e < 4294967296) (hp : p < 4294967296) (h : IsRec e p xs s r) : openR e p xs = (strOf r, s, needsN r.length, 0) := by
  have hx : ∃ y : Nat × List Nat, IsRec e p xs y.1 y.2 := ⟨(s, r), h⟩
  unfold openR
  rw [if_neg he0, dif_pos hx]
  obtain ⟨h1, h2⟩ := rec_only he hp (Classical.choose_spec hx) h
  rw [h1, h2]
theorem openR_no {e p : Nat} {xs : List Nat} (he0 : e ≠ 0) (h : ∀ s r, ¬ IsRec e p xs s r) : openR e p xs = (ByteArray.empty, 0, 0, 0) := by
  unfold openR
  rw [if_neg he0, dif_neg (fun hx => by obtain ⟨y, hy⟩ := hx; exact h _ _ hy)]
/-! ### No record -/
theorem no_short {e p : Nat} {xs : List Nat} (h : xs.length < 128) : ∀ s r, ¬ IsRec e p xs s r := fun s r hr => by
  have h1 := rec_len hr
  have h2 := needsN_pos r.length
  omega
theorem no_head {e p : Nat} {xs : List Nat} (he : e < 4294967296) (hp : p < 4294967296) (h : numAt xs 4 = 0 ∨ xs.getD 13 0 = 0 ∨ xs.length < xs.getD 13 0 * 128) : ∀ s r, ¬ IsRec e p xs s r := fun s r hr => by
  obtain ⟨h1, h2, _, _⟩ := rec_dec he hp hr
  have h3 := rec_len hr
  have h4 := needsN_pos r.length
  have h5 := hr.salt0
  rw [h1, h2] at h
  omega
theorem no_sec {e p n k : Nat} {xs : List Nat} (he : e < 4294967296) (hp : p < 4294967296) (hn : xs.getD 13 0 = n) (hk : k < n) (h : ∀ s, ¬ OkSec e s p k n (secAt xs k)) : ∀ s r, ¬ IsRec e p xs s r := fun s r hr => by
  obtain ⟨h1, h2, _, h4⟩ := rec_dec he hp hr
  rw [hn] at h2
  subst h2
  exact h s (h4 k hk)
theorem no_long {e p n : Nat} {xs : List Nat} (he : e < 4294967296) (hp : p < 4294967296) (hn : xs.getD 13 0 = n) (h : 4096 < (decK xs n).length) : ∀ s r, ¬ IsRec e p xs s r := fun s r hr => by
  obtain ⟨h1, h2, h3, _⟩ := rec_dec he hp hr
  rw [hn] at h2
  subst h2
  rw [h3] at h
  have := hr.len
  omega
theorem no_other {e p n : Nat} {xs : List Nat} (he : e < 4294967296) (hp : p < 4294967296) (hn : xs.getD 13 0 = n) (h : ¬ frameN e (numAt xs 4) p (decK xs n) = xs.take (n * 128)) : ∀ s r, ¬ IsRec e p xs s r := fun s r hr => by
  obtain ⟨h1, h2, h3, _⟩ := rec_dec he hp hr
  rw [hn] at h2
  subst h2
  rw [h3, h1] at h
  exact h hr.pre.symm
theorem yes_other {e p n : Nat} {xs : List Nat} (hb : ∀ c ∈ xs, c < 256) (hs : numAt xs 4 ≠ 0) (hl : n * 128 ≤ xs.length) (hd : (decK xs n).length ≤ 4096) (h : frameN e (numAt xs 4) p (decK xs n) = xs.take (n * 128)) : IsRec e p xs (numAt xs 4) (decK xs n) ∧ needsN (decK xs n).length = n := by
  have hn : needsN (decK xs n).length = n := by
    have := congrArg List.length h
    rw [frameN_len, List.length_take] at this
    omega
  exact ⟨⟨hs, numAt_lt hb 4, hd, decK_byte hb n, by rw [hn]; exact h.symm⟩, hn⟩
theorem nums_strOf {xs : List Nat} (h : ∀ c ∈ xs, c < 256) : numsOf (strOf xs) = xs := by
  unfold numsOf
  rw [strOf_list, List.map_map]
  conv => rhs; rw [← List.map_id xs]
  apply List.map_congr_left
  intro c hc
  have := h c hc
  simp; omega
theorem sec_getD (xs : List Nat) (k j : Nat) (hj : j < 128) : (secAt xs k).getD j 0 = xs.getD (k * 128 + j) 0 := by
  simp [secAt, List.getD, hj]
theorem numAt_sec0 (xs : List Nat) : numAt (xs.drop 4) 0 = numAt xs 4 := numAt_drop xs 4
theorem results_tmp4 {fn : Func} {t u v x : Tmp} (h : fn.results = #[.tmp t, .tmp u, .tmp v, .tmp x]) (tmps : Array Value) (P : Program) (w : World) :
    (results fn tmps).run P w = .ok (.tuple #[tmps.getD t undef, tmps.getD u undef, tmps.getD v undef, tmps.getD x undef]) w := by
  simp [results, h]
theorem conv_at {w : World} {p : Option Addr} {xs : List Nat} {n c : Nat} (h : BIn w p xs) (hn : n = xs.length) : (convert 22 9 (.slice p n c)).run Try.prog w = .ok (.string (strOf xs)) w := bin_conv Try.underlying22 Try.underlying5 Try.underlying9 h hn c
end Go.Proofs.Ytpbfoppaeeafhaa
