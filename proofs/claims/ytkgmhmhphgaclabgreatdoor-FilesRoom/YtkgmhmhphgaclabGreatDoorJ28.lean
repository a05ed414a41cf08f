/-
  The acts that write the files that are put (fileActs), walked.
-/
import Derived.Test.YtkgmhmhphgaclabGreatDoorJ27
import Derived.Lib.BufferWrite
import Derived.Laws.MakeOwn
import Derived.Laws.CopyOwn
namespace Go.Proofs.YtkgmhmhphgaclabGreatDoor
open Go.RowKit Go.WideShapes Rm

theorem blk_growp {w w' : World} {base B : Nat} {v : Value} {l : Pcs} {C : Array Value} (h : POwn w base v l) (hg : w.grownBy w' v.ownBlock) (hB : w.heap[B]? = some (.cells C 52 (0, 0))) : w'.heap[B]? = some (.cells C 52 (0, 0)) := by
  refine (hg.block _ (lt_heap hB) fun e => ?_).trans hB
  obtain ⟨C', h2⟩ := own_blk h e.symm
  rw [hB] at h2
  simp at h2
set_option maxRecDepth 8000 in
set_option maxHeartbeats 4000000 in
theorem place_any (count : Int) (uv : Value) (U0 : Pcs) (base0 : Nat) (q : Option Addr) (n c : Nat) (l : List CV) (w : World) (hu : POwn w base0 uv U0) (hw0 : Wf U0) (hb0 : base0 ≤ w.heap.size) (hq : CsIn w q l) (hqb : ∀ b o, q = some ⟨b, o, none⟩ → some b ≠ uv.ownBlock) (hn0 : n = l.length) (hn1 : n ≤ 1000) (hsz : ∀ x ∈ l, (x.val.size : Int) ≤ 9223372036854775000) (r : Except Int (List FileV)) (hr : placeN count U0 (csOf l) = r) :
    Calls Tryz.prog 49 #[.int .i64 count, uv, .slice q n c] w fun e w' => PlaceP w uv.ownBlock r e w' := by
  obtain ⟨ub, hub⟩ : ∃ ub, uv.ownBlock = ub := ⟨_, rfl⟩
  have HP0 : Hid (Plc w base0 ub uv U0 (.slice none 0 0) [] w) := ⟨hu, .inl hub, fmix_nil _ _ _, (fun x hx => by cases hx), grown_below (Below.refl _ _) _⟩
  obtain ⟨uq, um, rfl, _, _, _⟩ := hu.form
  have HR : Hid (joinR [] (placeN count U0 ((csOf l).drop 0)) = r) := by
    show _ = _
    rw [List.drop_zero, hr]
    cases r <;> rfl
  have HQ : Hid (CsIn w q l ∧ (∀ b o, q = some ⟨b, o, none⟩ → some b ≠ ub) ∧ n = l.length) := ⟨hq, by rw [← hub]; exact hqb, hn0⟩
  have HSZ : Hid (∀ k, k < l.length → ((l.getD k zeroCV).val.size : Int) ≤ 9223372036854775000) := by
    intro k hk
    refine hsz _ ?_
    rw [List.getD_eq_getElem?_getD, List.getElem?_eq_getElem hk]
    exact List.getElem_mem _
  have HW0 : Hid (Wf U0 ∧ base0 ≤ w.heap.size) := ⟨hw0, hb0⟩
  have hnI : (n : Int) ≤ 1000 := by omega
  rw [hub]
  clear hu hw0 hb0 hq hqb hn0 hsz hr hub
  obtain ⟨U0n, hU0n⟩ : ∃ m, U0.length = m := ⟨_, rfl⟩
  rw [hU0n] at HP0 ⊢
  clear hU0n
  go_enter Tryz.func49, Tryz.ntmps49
  go_wp2
  go_loopw [1, 8, 16] (fun u o i wr => ∃ (k : Nat) (U : Pcs) (O : FPs), k ≤ n ∧ i = .int .i64 (k : Int) ∧ Wf U ∧ O.length ≤ k ∧ joinR (O.map Prod.fst) (placeN count U ((csOf l).drop k)) = r ∧ Plc w base0 ub u U o O wr) (fun _ _ i _ => n - (intOf i).toNat)
  case atStart => exact ⟨0, U0, [], by omega, rfl, HW0.out.1, by simp, HR.out, HP0.out⟩
  case round =>
    obtain ⟨k, U, O, hk, rfl, hwf, hol, hj, hz⟩ := hrel
    clear HP0 HR
    obtain ⟨vq, vm, rfl, _, _, _⟩ := hz.used.form
    obtain ⟨oq, om, rfl, _, _, _⟩ := hz.out.form
    have HZ : Hid (Plc w base0 ub (.slice vq U.length vm) U (.slice oq O.length om) O wr) := hz
    have HJ : Hid (joinR (O.map Prod.fst) (placeN count U ((csOf l).drop k)) = r ∧ Wf U ∧ O.length ≤ k) := ⟨hj, hwf, hol⟩
    obtain ⟨ul, hul⟩ : ∃ m, U.length = m := ⟨_, rfl⟩
    obtain ⟨oll, holl⟩ : ∃ m, O.length = m := ⟨_, rfl⟩
    have HUL : Hid (U.length = ul ∧ O.length = oll) := ⟨hul, holl⟩
    rw [hul, holl] at HZ ⊢
    clear hz hj hwf hol hul holl
    by_cases hkl : k < n
    · have hkI : (k : Int) < (n : Int) := by omega
      have k0 : (0 : Int) ≤ (k : Int) := by omega
      have hkl2 : k < l.length := by have := HQ.out.2.2; omega
      have HKL : Hid (k < n) := hkl
      obtain ⟨b, o, rfl⟩ := HQ.out.1.addr (by omega)
      obtain ⟨y0, y1, y2⟩ := HQ.out.1.at hkl2
      have hkp : ∀ (a : Addr) (x : Value), a.block = b → w.cell? a = some x → wr.cell? a = some x := fun a x ha h => by
        rw [World.cell?_of_block (HZ.out.grown.block a.block (World.block_lt_of_cell? _ _ h) (by rw [ha]; exact HQ.out.2.1 b o rfl))]
        exact h
      have z0 := hkp _ _ rfl y0
      have z1 := hkp _ _ rfl y1
      have z2 := hkp _ _ rfl y2
      have hsz := HSZ.out k hkl2
      have HBIG : Hid (4096 < needsN ((l.getD k zeroCV).val.size : Nat) → r = .error 30) := fun h => by rw [← HJ.out.1, place_big hkl2 h]; rfl
      have HERR : Hid (¬ 4096 < needsN ((l.getD k zeroCV).val.size : Nat) → errT 80 count U (needsN ((l.getD k zeroCV).val.size : Nat)) ≠ 0 → r = .error (errT 80 count U (needsN ((l.getD k zeroCV).val.size : Nat)))) := fun h1 h2 => by rw [← HJ.out.1, place_err hkl2 h1 h2]; rfl
      have HGO : Hid (¬ 4096 < needsN ((l.getD k zeroCV).val.size : Nat) → errT 80 count U (needsN ((l.getD k zeroCV).val.size : Nat)) = 0 → joinR (O.map Prod.fst ++ [⟨(l.getD k zeroCV).key, ((l.getD k zeroCV).val.size : Nat), resT 80 count U (needsN ((l.getD k zeroCV).val.size : Nat))⟩]) (placeN count (U ++ resT 80 count U (needsN ((l.getD k zeroCV).val.size : Nat))) ((csOf l).drop (k + 1))) = r) := fun h1 h2 => by rw [← HJ.out.1, place_go hkl2 h1 h2]
      obtain ⟨⟨ck, cv, cg⟩, hc⟩ : ∃ f, l.getD k zeroCV = f := ⟨_, rfl⟩
      rw [hc] at z0 z1 z2 hsz HBIG HERR HGO
      simp only at z0 z1 z2 hsz HBIG HERR HGO
      clear hkp y0 y1 y2 hkl hkl2 hk hc
      obtain ⟨sz, hszz⟩ : ∃ s, cv.size = s := ⟨_, rfl⟩
      have HSZZ : Hid (cv.size = sz) := hszz
      rw [hszz] at hsz HBIG HERR HGO
      have hnd := needs_any (sz : Int) (wr.alloc (.cells #[.string ck, .string cv, .bool cg] 52)) ⟨by omega, hsz⟩
      obtain ⟨N, hN⟩ : ∃ N, needsN (sz : Int) = N := ⟨_, rfl⟩
      rw [hN] at hnd HBIG HERR HGO
      have hNb : 0 ≤ N ∧ N ≤ 9223372036854775000 := by unfold needsN at hN; omega
      clear hN
      have HA : Hid (Plc w base0 ub (.slice vq ul vm) U (.slice oq oll om) O (wr.alloc (.cells #[.string ck, .string cv, .bool cg] 52))) := HZ.out.next (below_alloc _ _)
      go_wp2_with fail
      refine hnd.mono ?_
      rintro e w1 ⟨rfl, rfl⟩
      clear hnd
      by_cases hbig : 4096 < N
      · have HE : Hid (r = .error 30) := HBIG.out hbig
        clear HBIG HERR HGO
        go_wp2
        go_quiet (fail)
        go_wp2
        go_ret2
        rw [HE.out]
        exact ⟨_, rfl, Faults.one _ _, grown_trans HA.out.grown (Rm.grown_drew _ _ _)⟩
      · have hbig' : N ≤ 4096 := by omega
        have htk := Rm.take_any 80 count _ U N _ (HA.out.used.pin HJ.out.2.1)
        clear hbig HBIG
        obtain ⟨E, hE⟩ : ∃ E, errT 80 count U N = E := ⟨_, rfl⟩
        obtain ⟨P, hP⟩ : ∃ P, resT 80 count U N = P := ⟨_, rfl⟩
        have HWP : Hid (Wf P) := by rw [← hP]; exact wf_resT _ _ _ _
        have HPL : Hid (E = 0 → P.length ≤ 4096 ∧ U.length ≤ 4096) := fun h => by
          rw [h] at hE
          obtain ⟨h1, h2, _⟩ := errT_zero hE
          rw [← hP, resT_ok hE]
          have := gotF_len 80 count U N.toNat
          exact ⟨by omega, (errF_zero h2).2.1⟩
        rw [hE, hP] at htk
        rw [hE] at HERR
        rw [hE, hP] at HGO
        clear hE hP
        go_wp2_with fail
        refine htk.mono ?_
        rintro e w2 ⟨pq, pm, rfl, hpo, hb2⟩
        have H2 : Hid (Plc w base0 ub (.slice vq ul vm) U (.slice oq oll om) O w2) := HA.out.next hb2
        have hbk : w2.heap[wr.heap.size]? = some (.cells #[.string ck, .string cv, .bool cg] 52 (0, 0)) := (hb2.block _ (by simp)).trans (heap_alloc_new _ _)
        have HBK : Hid (w2.heap[wr.heap.size]? = some (.cells #[.string ck, .string cv, .bool cg] 52 (0, 0))) := hbk
        obtain ⟨x0, x1, x2⟩ := three_cells hbk
        have HPO : Hid (POwn w2 (wr.alloc (.cells #[.string ck, .string cv, .bool cg] 52)).heap.size (.slice pq P.length pm) P) := hpo
        have HPB : Hid (POwn w2 w.heap.size (.slice pq P.length pm) P) := hpo.mono (by have := HA.out.grown.size; exact this)
        obtain ⟨pl, hpl⟩ : ∃ m, P.length = m := ⟨_, rfl⟩
        have HPLN : Hid (P.length = pl) := hpl
        rw [hpl] at HPO HPB ⊢
        clear hbk htk hb2 hpo hpl
        by_cases hE0 : E = 0
        · subst hE0
          have HG1 : Hid _ := HGO.out (by omega) rfl
          have HPL1 : Hid (P.length ≤ 4096 ∧ U.length ≤ 4096) := HPL.out rfl
          clear HERR HGO HPL
          go_wp2_with (at_builtin; first
            | ((refine wpList_append_pcsX _ rfl _ _ rfl base0 (.slice vq ul vm) U P pq pl pm rfl rfl HPLN.out.symm H2.out.used HPB.out.pcs (by obtain ⟨_, _, e, _, _, h⟩ := HPB.out.form; cases e; exact h) (by have := HPL1.out; omega) (by have := H2.out.grown.size; have := HW0.out.2; omega) ?_); intro v3 w3 ho3 hg3 hw3; have H3 : Hid (Plc w base0 ub v3 (U ++ P) (.slice oq oll om) O w3 ∧ (POwn w3 w.heap.size (.slice pq pl pm) P ∧ ((Value.slice pq pl pm).ownBlock = none ∨ (Value.slice pq pl pm).ownBlock ≠ v3.ownBlock)) ∧ w3.heap[wr.heap.size]? = some (.cells #[.string ck, .string cv, .bool cg] 52 (0, 0))) := ⟨H2.out.use ho3 hg3 hw3, ⟨HPB.out.kept hg3 (pv_apart HA.out.used HPO.out hw3).1, (pv_apart HA.out.used HPO.out hw3).2⟩, blk_growp H2.out.used hg3 HBK.out⟩; obtain ⟨f0, f1, f2⟩ := three_cells H3.out.2.2; clear ho3 hg3 hw3; have H4 : Hid (Plc w base0 ub v3 (U ++ P) (.slice oq oll om) O (w3.alloc (.cells #[.string ck, .int .i64 (sz : Int), .slice pq pl pm] 50))) := H3.out.1.next (below_alloc _ _); have HP4 : Hid (POwn (w3.alloc (.cells #[.string ck, .int .i64 (sz : Int), .slice pq pl pm] 50)) w.heap.size (.slice pq pl pm) P) := H3.out.2.1.1.below (below_alloc _ _); have HC1 : Hid _ := new3 w3 (.string ck) (.int .i64 (sz : Int)) (.slice pq pl pm) 50 w3.heap.size rfl)
            | ((refine wpList_append_mix _ rfl _ _ rfl w.heap.size w.heap.size (.slice oq oll om) O (⟨ck, (sz : Int), P⟩, .slice pq pl pm) ⟨w3.heap.size, 0, none⟩ 1 rfl rfl H4.out.out rfl HP4.out HC1.out.1 HC1.out.2.1 HC1.out.2.2 (by have := HJ.out.2.2; have := HKL.out; omega) H4.out.grown.size ?_); intro v5 w5 ho5 hg5; have H5 : Hid (Plc w base0 ub v3 (U ++ P) v5 (O ++ [(⟨ck, (sz : Int), P⟩, .slice pq pl pm)]) w5) := H4.out.push ho5 hg5 H3.out.2.1.2; clear ho5 hg5))
          go_roundw
          case rel => exact ⟨k + 1, U ++ P, _, HKL.out, by go_num, fun y hy => by rcases List.mem_append.1 hy with h | h; exact HJ.out.2.1 y h; exact HWP.out y h, by have := HJ.out.2.2; simp only [List.length_append, List.length_cons, List.length_nil]; omega, by rw [List.map_append]; exact HG1.out, H5.out⟩
          case measure => have := HKL.out; simp [intOf]; omega
        · have hEn : (E != 0) = true := by simpa using hE0
          have hEn' : (E == 0) = false := by simpa using hE0
          have HE : Hid (r = .error E) := HERR.out (by omega) hE0
          clear HERR HGO HPL hE0
          go_wp2
          go_quiet (fail)
          go_wp2
          go_ret2
          rw [HE.out]
          exact ⟨_, rfl, Faults.one _ _, grown_trans H2.out.grown (Rm.grown_drew _ _ _)⟩
    · have hkI : (n : Int) ≤ (k : Int) := by omega
      have HM : Hid (r = .ok (O.map Prod.fst)) := by
        show r = _
        rw [← HJ.out.1, place_end (by have := HQ.out.2.2; omega)]
        simp [joinR]
      clear hkl
      go_wp2
      go_ret2
      rw [HM.out]
      exact ⟨_, O, rfl, rfl, HZ.out.out, HZ.out.grown⟩
end Go.Proofs.YtkgmhmhphgaclabGreatDoor
namespace Go.Proofs.YtkgmhmhphgaclabGreatDoor
open Go.RowKit Go.WideShapes Rm

theorem bs_bytes (l : List UInt8) : Lib.byteCells l = Bs (l.map UInt8.toNat) := by
  unfold Lib.byteCells Bs
  rw [List.map_map]
  rfl
theorem run_copy_part (w : World) (ty : TypeId) (g n : Nat) (s : ByteArray) (cur : List Nat) (hg : w.heap[g]? = some (.cells (Bs cur).toArray 5 (0, 0))) (hn : cur.length = n) :
    (Builtin.copy_ #[22, 9] ty #[.slice (some ⟨g, 0, none⟩) n n, .string s]).run Tryz.prog w =
      .ok (goInt (Nat.min s.size n)) (w.setRow g (Bs ((numsOf s).take n ++ cur.drop (Nat.min s.size n))).toArray) := by
  obtain ⟨i0, hi, hz0, hz1, hz2⟩ := info_parts' info5
  have hsz : s.data.toList.length = s.size := by rw [Array.length_toList]; rfl
  have hlen : (Lib.byteCells (s.data.toList.take (Nat.min s.size n))).length = Nat.min s.size n := by
    rw [Lib.byteCells_length, List.length_take, hsz]
    exact Nat.min_eq_left (Nat.min_le_left _ _)
  have hst := run_storeCells_at Tryz.prog g 0 5 (Lib.byteCells (s.data.toList.take (Nat.min s.size n))) 0 (Bs cur).toArray w hg (by rw [hlen]; simp [Bs_len, hn]; exact Nat.min_le_right _ _) (Lib.byteCells_one _)
  have htk : List.take (Nat.min s.size n) (List.map (fun b : UInt8 => Value.int IntKind.u8 (b.toNat : Int)) s.data.toList) = Lib.byteCells (s.data.toList.take (Nat.min s.size n)) := by
    rw [← List.map_take]
    rfl
  rw [hlen] at hst
  simp only [Nat.add_zero] at hst
  have hrow : ((Bs cur).toArray.toList.take 0 ++ Lib.byteCells (s.data.toList.take (Nat.min s.size n)) ++ (Bs cur).toArray.toList.drop (0 + Nat.min s.size n)) = Bs ((numsOf s).take n ++ cur.drop (Nat.min s.size n)) := by
    rw [bs_bytes]
    have e0 : s.data.toList.take (Nat.min s.size n) = s.data.toList.take n := by
      rcases Nat.le_total s.size n with h | h
      · rw [show Nat.min s.size n = s.size from Nat.min_eq_left h, List.take_of_length_le (Nat.le_of_eq hsz), List.take_of_length_le (Nat.le_trans (Nat.le_of_eq hsz) h)]
      · rw [show Nat.min s.size n = n from Nat.min_eq_right h]
    have e1 : (s.data.toList.take (Nat.min s.size n)).map UInt8.toNat = (numsOf s).take n := by
      rw [e0]
      unfold numsOf
      exact List.map_take
    rw [e1]
    simp [Bs]
  simp [Builtin.copy_, run_underlying Tryz.underlying22, Builtin.lenOf, Builtin.firstCells, sizeOf, typeInfo, hi]
  rw [htk, hst]
  simp only [Result.andThen]
  rw [hrow]
end Go.Proofs.YtkgmhmhphgaclabGreatDoor
namespace Go.Proofs.YtkgmhmhphgaclabGreatDoor
open Go.RowKit Go.WideShapes Rm

theorem wpList_copy_part (w : World) {ops : Array Oper} {rest : List Oper} {o : Oper} {a : Act} {Q : Exit → Act → World → Prop} (hgd : o.guard = none) (d x : Operand)
    (ho : o.op = .call { callee := .builtin .copy, args := #[d, x], argTypes := #[22, 9] }) (g n : Nat) (s : ByteArray) (cur : List Nat) (hd : a.eval d = .slice (some ⟨g, 0, none⟩) n n) (hx : a.eval x = .string s)
    (hg : w.heap[g]? = some (.cells (Bs cur).toArray 5 (0, 0))) (hn : cur.length = n) (B : Nat) (w0 : World) (hb : Below B w0 w) (hB : B ≤ g)
    (h : ∀ w', w'.heap[g]? = some (.cells (Bs ((numsOf s).take n ++ cur.drop (Nat.min s.size n))).toArray 5 (0, 0)) → Below B w0 w' → wpList Tryz.prog ops Q rest (a.put o.dst (goInt (Nat.min s.size n))) w') : wpList Tryz.prog ops Q (o :: rest) a w := by
  refine wpList_plain hgd fun K hK => ?_
  have hr := run_copy_part w o.type g n s cur hg hn
  unfold Oper.wp execOp
  simp only [ho, resolve, invoke, builtin, Sem.run_bind, Sem.run_pure, Result.andThen_ok, List.map_toArray, List.map_cons, List.map_nil, hd, hx, hr]
  exact hK _ _ (h _ (setRow_heap _ _ _ _ _ _ hg) (below_setRow hb hB _))
/-! ### with no program -/
def fileK (S : List Int) (v : List Nat) (j : Nat) : Acts := (List.range j).map fun k => (false, S.getD k 0, partN v k)
theorem fileK_snoc (S : List Int) (v : List Nat) (j : Nat) : fileK S v (j + 1) = fileK S v j ++ [(false, S.getD j 0, partN v j)] := by
  unfold fileK; rw [List.range_succ, List.map_append]; rfl
theorem filesA_snoc : ∀ {fs : List FileV} {vs : List (List Nat)} {f : FileV} {v : List Nat}, fs.length = vs.length → filesA (fs ++ [f]) (vs ++ [v]) = filesA fs vs ++ fileA f v
  | [], [], f, v, _ => by simp [filesA]
  | g :: fs, u :: vs, f, v, h => by
    have := filesA_snoc (f := f) (v := v) (fs := fs) (vs := vs) (by simpa using h)
    simp only [List.cons_append, filesA, this, List.append_assoc]
  | [], _ :: _, _, _, h => by simp at h
  | _ :: _, [], _, _, h => by simp at h
theorem part_eq (s : ByteArray) (k n : Nat) (h : k * 128 ≤ s.size) (hn : n = Nat.min (s.size - k * 128) 128) : ((numsOf s).drop (k * 128)).take 128 ++ (List.replicate 128 0).drop n = partN (numsOf s) k := by
  unfold partN
  congr 1
  rw [List.drop_replicate, List.length_take, List.length_drop, nums_len, hn]
  congr 1
  show 128 - min (s.size - k * 128) 128 = 128 - min 128 (s.size - k * 128)
  omega
def valsOf (l : List CV) : List (List Nat) := l.map fun c => numsOf c.val
/-- The acts beside the row of sectors that they are made from. -/
structure OnS (w0 : World) (v : Value) (l : List ActF) (sv : Value) (S : List Int) (wr : World) : Prop where
  acts : OnA w0 v l wr
  secs : IOwn wr w0.heap.size sv S
theorem OnS.next {w0 wr w' : World} {v sv : Value} {l : List ActF} {S : List Int} (h : OnS w0 v l sv S wr) (hb : Below wr.heap.size wr w') : OnS w0 v l sv S w' := ⟨h.acts.next hb, own_below h.secs hb⟩
theorem OnS.app {w0 wr w' : World} {v v' sv : Value} {l m : List ActF} {S : List Int} (h : OnS w0 v l sv S wr) (hg : wr.grownBy w' v.ownBlock) (ho : AOwn w' w0.heap.size v' m) : OnS w0 v' m sv S w' :=
  ⟨h.acts.app hg ho, World.ownsRow.kept h.secs hg (apart_own h.secs h.acts.own.row (by decide))⟩
theorem IOwn.at4 {w : World} {base n m : Nat} {q : Option Addr} {S : List Int} (h : IOwn w base (.slice q n m) S) {k : Nat} (hk : k < S.length) : ∃ g, q = some ⟨g, 0, none⟩ ∧ w.cell? ⟨g, k, none⟩ = some (.int .i64 (S.getD k 0)) := by
  rcases h.2 with ⟨_, hn⟩ | ⟨g, cap, cur, hv, hb, hg, hle, hmax, hsz, htk⟩
  · omega
  · simp only [Value.slice.injEq] at hv
    obtain ⟨rfl, rfl, rfl⟩ := hv
    refine ⟨g, rfl, ?_⟩
    rw [cell_of_row w g k cur _ _ hg]
    have e : (Is S)[k]? = some (.int .i64 (S.getD k 0)) := by
      rw [List.getD_eq_getElem?_getD, List.getElem?_eq_getElem hk]
      simp [Is, hk]
    rw [← htk, List.getElem?_take_of_lt (by omega)] at e
    simpa using e
end Go.Proofs.YtkgmhmhphgaclabGreatDoor
namespace Go.Proofs.YtkgmhmhphgaclabGreatDoor
open Go.RowKit Go.WideShapes Rm

/-- What is asked of the files that are put: as many sectors as their bytes need. -/
structure Fits (ls : FPs) (l : List CV) : Prop where
  len : ls.length = l.length
  few : ls.length ≤ 100
  each : ∀ i, i < ls.length → secsN (ls.getD i zeroFP).1.pcs = secs (ls.getD i zeroFP).1.pcs ∧ Wf (ls.getD i zeroFP).1.pcs ∧ ((secs (ls.getD i zeroFP).1.pcs).length : Int) = needsN ((l.getD i zeroCV).val.size : Nat) ∧ (secs (ls.getD i zeroFP).1.pcs).length ≤ 4096
theorem nums_extract4 (r : ByteArray) (a b : Nat) : numsOf (r.extract a b) = ((numsOf r).drop a).take (b - a) := by
  unfold numsOf
  rw [ByteArray.data_extract, Array.toList_extract, List.extract_eq_take_drop, List.map_take, List.map_drop]
theorem part_str (s : ByteArray) (k : Nat) (h : k * 128 ≤ s.size) : (numsOf (s.extract (k * 128) s.size)).take 128 ++ (List.replicate 128 0).drop (Nat.min (s.extract (k * 128) s.size).size 128) = partN (numsOf s) k := by
  have e : ((numsOf s).drop (k * 128)).take (s.size - k * 128) = (numsOf s).drop (k * 128) := List.take_of_length_le (by rw [List.length_drop, nums_len]; exact Nat.le_refl _)
  rw [nums_extract4, e]
  refine part_eq s k _ h ?_
  rw [ByteArray.size_extract, Nat.min_self]
theorem partN_byt (s : ByteArray) (k : Nat) : ∀ c ∈ partN (numsOf s) k, c < 256 := by
  intro c hc
  unfold partN at hc
  rcases List.mem_append.1 hc with h | h
  · have h2 := List.mem_of_mem_drop (List.mem_of_mem_take h)
    unfold numsOf at h2
    obtain ⟨u, _, rfl⟩ := List.mem_map.1 h2
    exact u.toNat_lt
  · rw [(List.mem_replicate.1 h).2]; decide
theorem data_full {w : World} {base g : Nat} {xs : List Nat} (hg : w.heap[g]? = some (.cells (Bs xs).toArray 5 (0, 0))) (hb : base ≤ g) (hl : xs.length = 128) (hx : ∀ c ∈ xs, c < 256) : DataO w base (.slice (some ⟨g, 0, none⟩) 128 128) xs := by
  refine ⟨⟨by rw [Bs_len]; omega, .inr ⟨g, 128, (Bs xs).toArray, by rw [hl], hb, hg, by omega, by unfold maxLen; omega, by simp [Bs_len, hl], ?_⟩⟩, hx⟩
  rw [List.take_of_length_le (by simp [Bs_len])]
theorem filesA_take {ls : FPs} {l : List CV} (h : ls.length = l.length) {k : Nat} (hk : k < ls.length) :
    filesA ((ls.take (k + 1)).map Prod.fst) ((valsOf l).take (k + 1)) = filesA ((ls.take k).map Prod.fst) ((valsOf l).take k) ++ fileA (ls.getD k zeroFP).1 (numsOf (l.getD k zeroCV).val) := by
  have hv : k < (valsOf l).length := by unfold valsOf; rw [List.length_map]; omega
  rw [take_snoc (d := zeroFP) hk, take_snoc (d := []) hv, List.map_append]
  have e : (valsOf l).getD k [] = numsOf (l.getD k zeroCV).val := by
    unfold valsOf
    rw [List.getD_eq_getElem?_getD, List.getElem?_map, List.getElem?_eq_getElem (by omega), List.getD_eq_getElem?_getD, List.getElem?_eq_getElem (by omega)]
    rfl
  rw [e]
  refine filesA_snoc ?_
  rw [List.length_map, List.length_take, List.length_take]
  unfold valsOf
  rw [List.length_map]
  omega
/-- What fileActs answers. -/
structure FActP (w : World) (F : Acts) (e : Ending) (w' : World) : Prop where
  ex : ∃ v L, e = .returned v ∧ OnA w v L w' ∧ L.map Prod.fst = if F = [] then [] else F ++ [flA]
set_option maxRecDepth 8000 in
set_option maxHeartbeats 8000000 in
theorem fileActs_any (fv : Value) (ls : FPs) (B base0 : Nat) (q : Option Addr) (n c : Nat) (l : List CV) (w : World) (hf : FMix w B base0 fv ls) (hq : CsIn w q l) (hn0 : n = l.length) (hx : Fits ls l) (F : Acts) (hF : filesA (ls.map Prod.fst) (valsOf l) = F) :
    Calls Tryz.prog 53 #[fv, .slice q n c] w fun e w' => FActP w F e w' := by
  obtain ⟨fq, fm, rfl, _, _, _⟩ := hf.form
  obtain ⟨i0, hi, hz0, hz1, hz2⟩ := info_parts' info5
  have HF : Hid (FMix w B base0 (.slice fq ls.length fm) ls) := hf
  have HQ : Hid (CsIn w q l ∧ n = l.length) := ⟨hq, hn0⟩
  have HX : Hid (Fits ls l) := hx
  have HFF : Hid (filesA (ls.map Prod.fst) (valsOf l) = F) := hF
  obtain ⟨N, hN⟩ : ∃ N, ls.length = N := ⟨_, rfl⟩
  have HN : Hid (ls.length = N) := hN
  have hN1 : (N : Int) ≤ 100 := by have := hx.few; omega
  have HNn : Hid (N = n) := by show N = n; rw [← hN, hx.len, hn0]
  rw [hN] at HF ⊢
  clear hf hq hn0 hx hF hN
  go_enter Tryz.func53, Tryz.ntmps53
  go_wp2
  go_loopw [5, 13] (fun v i wr => ∃ (k : Nat) (L : List ActF), k ≤ N ∧ i = .int .i64 (k : Int) ∧ L.map Prod.fst = filesA ((ls.take k).map Prod.fst) ((valsOf l).take k) ∧ L.length ≤ k * 4096 ∧ OnA w v L wr) (fun _ i _ => N - (intOf i).toNat)
  case atStart => exact ⟨0, [], by omega, rfl, rfl, by simp, aown_nil _ _, Below.refl _ _⟩
  case round =>
    obtain ⟨k, L, hk, rfl, hml, hll, hz⟩ := hrel
    obtain ⟨vq, vm, rfl, _, _, _⟩ := hz.own.form
    have HZ : Hid (OnA w (.slice vq L.length vm) L wr) := hz
    have HML : Hid (L.map Prod.fst = filesA ((ls.take k).map Prod.fst) ((valsOf l).take k) ∧ L.length ≤ k * 4096) := ⟨hml, hll⟩
    obtain ⟨lp, hlp⟩ : ∃ lp, L.length = lp := ⟨_, rfl⟩
    have HLP : Hid (L.length = lp) := hlp
    rw [hlp] at HZ ⊢
    clear hz hml hlp hll
    by_cases hkN : k < N
    · have hkI : (k : Int) < (N : Int) := by omega
      have hkIn : (k : Int) < (n : Int) := by have := HNn.out; omega
      have k0 : (0 : Int) ≤ (k : Int) := by omega
      have hkl2 : k < ls.length := by have := HN.out; omega
      have HKN : Hid (k < N) := hkN
      obtain ⟨g, rfl, z0, z1, z2, hpo⟩ := (HF.out.below HZ.out.bel).at hkl2
      obtain ⟨ex1, ex2, ex3, ex4⟩ := HX.out.each k hkl2
      have HT : Hid _ := filesA_take HX.out.len hkl2
      have hkl3 : k < l.length := by have := HX.out.len; omega
      obtain ⟨cb, co, rfl⟩ := HQ.out.1.addr (by omega)
      have HCV : Hid (w.cell? ⟨cb, co + k * 3 + 1, none⟩ = some (.string (l.getD k zeroCV).val)) := (HQ.out.1.at hkl3).2.1
      obtain ⟨⟨⟨nm, sz, pc⟩, pv⟩, hc⟩ : ∃ f, ls.getD k zeroFP = f := ⟨_, rfl⟩
      rw [hc] at z0 z1 z2 hpo ex1 ex2 ex3 ex4 HT
      simp only [Nat.zero_add] at z0 z1 z2 hpo ex1 ex2 ex3 ex4 HT
      obtain ⟨cv, hcv⟩ : ∃ v, (l.getD k zeroCV).val = v := ⟨_, rfl⟩
      rw [hcv] at ex3 HCV HT
      obtain ⟨pq, pm, rfl, _, _, _⟩ := hpo.form
      have hsc := sectors_any4 nm sz (.slice pq pc.length pm) pc (wr.alloc (.cells #[.string nm, .int .i64 sz, .slice pq pc.length pm] 50)) ((hpo.below (below_alloc _ _)).pin ex2)
      rw [ex1] at hsc
      have HT2 : Hid (filesA ((ls.take (k + 1)).map Prod.fst) ((valsOf l).take (k + 1)) = filesA ((ls.take k).map Prod.fst) ((valsOf l).take k) ++ fileK (secs pc) (numsOf cv) (secs pc).length) := HT.out
      obtain ⟨pl, hpl⟩ : ∃ m, pc.length = m := ⟨_, rfl⟩
      rw [hpl] at z2 hsc
      obtain ⟨S, hS⟩ : ∃ S, secs pc = S := ⟨_, rfl⟩
      rw [hS] at hsc ex3 ex4 HT2
      obtain ⟨K, hK⟩ : ∃ K, S.length = K := ⟨_, rfl⟩
      have HK : Hid (S.length = K) := hK
      rw [hK] at hsc ex3 ex4 HT2
      have HSZ : Hid (∀ j : Nat, j < K → j * 128 < cv.size) := by intro j hj; unfold needsN at ex3; omega
      have hKI : (K : Int) ≤ 4096 := by omega
      have hszI : (cv.size : Int) ≤ 524288 := by unfold needsN at ex3; omega
      clear hpo ex1 ex2 ex3 HT hc hcv hpl hS hK hkl2 hkl3 hkN hk
      go_wp2_with fail
      refine hsc.mono ?_
      rintro e w2 ⟨sq, sm, rfl, hso, hb2⟩
      have HS2 : Hid (OnS w (.slice vq lp vm) L (.slice sq K sm) S w2) := ⟨(HZ.out.next (below_alloc _ _)).next hb2, IOwn.mono hso (by have := (HZ.out.next (below_alloc wr (.cells #[.string nm, .int .i64 sz, .slice pq pl pm] 50))).bel.size; exact this)⟩
      clear hsc hso hb2 HZ z0 z1 z2
      go_wp2
      go_loopw [5, 21] (fun v i wr => ∃ (j : Nat) (M : List ActF), j ≤ K ∧ i = .int .i64 (j : Int) ∧ M.map Prod.fst = L.map Prod.fst ++ fileK S (numsOf cv) j ∧ M.length = lp + j ∧ OnS w v M (.slice sq K sm) S wr) (fun _ i _ => K - (intOf i).toNat)
      case atStart => exact ⟨0, L, by omega, rfl, by simp [fileK], by have := HLP.out; omega, HS2.out⟩
      case round =>
        obtain ⟨j, M, hj, rfl, hmm, hlm, hs⟩ := hrel
        obtain ⟨mq, mm, rfl, _, _, _⟩ := hs.acts.own.form
        have HS : Hid (OnS w (.slice mq M.length mm) M (.slice sq K sm) S _) := hs
        have HMM : Hid (M.map Prod.fst = L.map Prod.fst ++ fileK S (numsOf cv) j ∧ M.length = lp + j) := ⟨hmm, hlm⟩
        obtain ⟨ml, hml⟩ : ∃ m, M.length = m := ⟨_, rfl⟩
        rw [hml] at HS ⊢
        have HMLN : Hid (M.length = ml) := hml
        clear hs hmm hlm hml
        by_cases hjK : j < K
        · have hjI : (j : Int) < (K : Int) := by omega
          have j0 : (0 : Int) ≤ (j : Int) := by omega
          have HJK : Hid (j < K) := hjK
          obtain ⟨sb, rfl, s0⟩ := IOwn.at4 HS.out.secs (k := j) (by have := HK.out; omega)
          have hjs := HSZ.out j hjK
          have hjsI : (j : Int) * 128 ≤ (cv.size : Int) := by omega
          have t1 : ((j : Int) * 128).toNat = j * 128 := by omega
          obtain ⟨sn, hsn⟩ : ∃ s, S.getD j 0 = s := ⟨_, rfl⟩
          have HSN : Hid (fileK S (numsOf cv) (j + 1) = fileK S (numsOf cv) j ++ [(false, sn, partN (numsOf cv) j)]) := by show _ = _; rw [fileK_snoc, hsn]
          rw [hsn] at s0
          clear hsn hjK hj
          have c0 := cellB HCV.out HS.out.acts.bel
          go_wp2_with (at_make; refine wpList_make_full _ rfl _ _ 22 rfl wr.heap.size 5 i0 (.int .u8 0) 1 Tryz.underlying22 hi hz0 hz1 .i64 .i64 _ _ 128 rfl rfl rfl rfl (by rw [hz2]; decide) (by decide) (by simp) ?_)
          intro w3 hown hgrow
          have hb3 : Below wr.heap.size wr w3 := (Below.refl _ _).grown hgrow (Nat.le_refl _) (fun k hk => by cases hk)
          have hrow := row_full' hown
          rw [zeros_made4] at hrow
          have HR3 : Hid (w3.heap[wr.heap.size]? = some (.cells (Bs (List.replicate 128 0)).toArray 5 (0, 0))) := hrow
          have HB3 : Hid (Below wr.heap.size wr w3) := hb3
          have c1 := cellB c0 hb3
          clear hown hgrow hb3 hrow s0
          have HLJ : Hid (ml = lp + j) := by have h1 := HMM.out.2; have h2 := HMLN.out; show ml = _; omega
          go_wp2_with (first
            | ((refine wpList_copy_part (o := ⟨some 36, _, _, _, _, _⟩) _ rfl (.tmp 27) (.tmp 35) rfl wr.heap.size 128 (cv.extract (j * 128) cv.size) (List.replicate 128 0) rfl rfl HR3.out (by simp) wr.heap.size wr HB3.out (Nat.le_refl _) ?_); intro w4 hr4 hb4; have H4 : Hid (OnS w (.slice mq ml mm) M (.slice (some ⟨sb, 0, none⟩) K sm) S w4 ∧ DataO w4 w.heap.size (.slice (some ⟨wr.heap.size, 0, none⟩) 128 128) (partN (numsOf cv) j)) := ⟨HS.out.next hb4, data_full (by rw [part_str cv j (by omega)] at hr4; exact hr4) HS.out.acts.bel.size (partN_len _ _) (partN_byt _ _)⟩; have H5 : Hid (OnS w (.slice mq ml mm) M (.slice (some ⟨sb, 0, none⟩) K sm) S (w4.alloc (.cells #[.bool false, .int .i64 sn, .slice (some ⟨wr.heap.size, 0, none⟩) 128 128] 73)) ∧ (∀ y ∈ [((false, sn, partN (numsOf cv) j), Value.slice (some ⟨wr.heap.size, 0, none⟩) 128 128)], DataO (w4.alloc (.cells #[.bool false, .int .i64 sn, .slice (some ⟨wr.heap.size, 0, none⟩) 128 128] 73)) w.heap.size y.2 y.1.2.2)) := ⟨H4.out.1.next (below_alloc _ _), fun y hy => by rw [List.mem_singleton.1 hy]; exact H4.out.2.below (below_alloc _ _)⟩; have HC : Hid (∀ j' u, (cellsT [((false, sn, partN (numsOf cv) j), Value.slice (some ⟨wr.heap.size, 0, none⟩) 128 128)])[j']? = some u → (w4.alloc (.cells #[.bool false, .int .i64 sn, .slice (some ⟨wr.heap.size, 0, none⟩) 128 128] 73)).cell? ((⟨w4.heap.size, 0, none⟩ : Addr).add j') = some u) := one_act _ _ _ _ _ _ rfl; clear hr4 hb4)
            | (at_builtin; (refine wpList_append_acts _ rfl _ _ rfl w.heap.size (.slice mq ml mm) M [((false, sn, partN (numsOf cv) j), .slice (some ⟨wr.heap.size, 0, none⟩) 128 128)] ⟨w4.heap.size, 0, none⟩ 1 1 rfl rfl rfl H5.out.1.acts.own H5.out.2 HC.out (by have h1 := HMLN.out; have h2 := HLJ.out; have h3 := HLP.out; have h4 := HML.out.2; have h5 := HKN.out; have h6 := HJK.out; simp only [List.length_cons, List.length_nil]; omega) H5.out.1.acts.bel.size ?_); intro v5 w5 ho5 hg5; have H6 : Hid (OnS w v5 (M ++ [((false, sn, partN (numsOf cv) j), .slice (some ⟨wr.heap.size, 0, none⟩) 128 128)]) (.slice (some ⟨sb, 0, none⟩) K sm) S w5) := H5.out.1.app hg5 ho5; clear ho5 hg5))
          go_roundw
          case rel => exact ⟨j + 1, _, HJK.out, by go_num, by rw [List.map_append, HMM.out.1, HSN.out, List.append_assoc]; rfl, by rw [List.length_append]; have h1 := HMM.out.2; simp only [List.length_cons, List.length_nil]; omega, H6.out⟩
          case measure => have := HJK.out; simp [intOf]; omega
        · obtain rfl : j = K := by omega
          clear hjK hj
          go_wp2
          go_roundw
          case rel => exact ⟨k + 1, M, HKN.out, by go_num, by rw [HMM.out.1, HML.out.1, HT2.out], by have := HMM.out.2; have := HML.out.2; have := HLP.out; omega, HS.out.acts⟩
          case measure => have := HKN.out; simp [intOf]; omega
    · have hkI : (N : Int) ≤ (k : Int) := by omega
      obtain rfl : k = N := by omega
      have HM : Hid (L.map Prod.fst = F) := by
        show L.map Prod.fst = _
        rw [HML.out.1, ← HFF.out, List.take_of_length_le (Nat.le_of_eq HN.out), List.take_of_length_le (by unfold valsOf; rw [List.length_map, ← HX.out.len]; exact Nat.le_of_eq HN.out)]
      clear hkN hk
      by_cases h0 : lp = 0
      · subst h0
        have HE : Hid (F = []) := by
          show F = []
          rw [← HM.out, List.eq_nil_of_length_eq_zero HLP.out]
          rfl
        go_wp2
        go_ret
        exact ⟨⟨_, L, rfl, HZ.out, by rw [if_pos HE.out, HM.out, HE.out]⟩⟩
      · have h0I : (0 : Int) < (lp : Int) := by omega
        have HE : Hid (F ≠ []) := by
          intro h
          have := congrArg List.length HM.out
          rw [List.length_map, HLP.out, h] at this
          exact h0 this
        clear h0
        have H3 : Hid (OnA w (.slice vq lp vm) L (wr.alloc (.cells #[.bool true, .int .i64 0, .slice none 0 0] 73))) := HZ.out.next (below_alloc _ _)
        have HD3 : Hid (∀ y ∈ [((true, (0 : Int), ([] : List Nat)), Value.slice none 0 0)], DataO (wr.alloc (.cells #[.bool true, .int .i64 0, .slice none 0 0] 73)) w.heap.size y.2 y.1.2.2) := by
          intro y hy
          rw [List.mem_singleton.1 hy]
          exact ⟨World.ownsRow_nil _ _ _ _, fun c hc => by cases hc⟩
        have HC : Hid (∀ j u, (cellsT [((true, (0 : Int), ([] : List Nat)), Value.slice none 0 0)])[j]? = some u → (wr.alloc (.cells #[.bool true, .int .i64 0, .slice none 0 0] 73)).cell? ((⟨wr.heap.size, 0, none⟩ : Addr).add j) = some u) := one_act _ _ _ _ _ _ rfl
        go_wp2_with (at_builtin; (refine wpList_append_acts _ rfl _ _ rfl w.heap.size (.slice vq lp vm) L [((true, (0 : Int), ([] : List Nat)), .slice none 0 0)] ⟨wr.heap.size, 0, none⟩ 1 1 rfl rfl rfl H3.out.own HD3.out HC.out (by have := HML.out.2; simp only [List.length_cons, List.length_nil]; omega) H3.out.bel.size ?_); intro v5 w5 ho5 hg5; have H5 : Hid (OnA w v5 (L ++ [((true, (0 : Int), ([] : List Nat)), .slice none 0 0)]) w5) := H3.out.app hg5 ho5; clear ho5 hg5)
        go_ret
        exact ⟨⟨_, _, rfl, H5.out, by rw [if_neg HE.out, List.map_append, HM.out]; rfl⟩⟩
end Go.Proofs.YtkgmhmhphgaclabGreatDoor
