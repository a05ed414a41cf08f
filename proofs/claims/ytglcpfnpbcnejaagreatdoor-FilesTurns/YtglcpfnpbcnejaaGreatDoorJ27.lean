/-
  What is wrong with changes (checkChanges).
-/
import Derived.Test.YtglcpfnpbcnejaaGreatDoorJ26
import Derived.Lib.BufferWrite
import Derived.Laws.MakeOwn
import Derived.Laws.CopyOwn
import Derived.Laws.Concat
namespace Go.Proofs.YtglcpfnpbcnejaaGreatDoor
open Go.RowKit Go.WideShapes Rm

theorem bs_bytes (l : List UInt8) : Lib.byteCells l = Bs (l.map UInt8.toNat) := by
  unfold Lib.byteCells Bs
  rw [List.map_map]
  rfl
theorem run_copy_part (w : World) (ty : TypeId) (g n : Nat) (s : ByteArray) (cur : List Nat) (hg : w.heap[g]? = some (.cells (Bs cur).toArray 5 (0, 0))) (hn : cur.length = n) :
    (Builtin.copy_ #[22, 9] ty #[.slice (some ⟨g, 0, none⟩) n n, .string s]).run Tryz.prog w =
      .ok (goInt (Nat.min s.size n)) (w.setRow g (Bs ((numsOf s).take n ++ cur.drop (Nat.min s.size n))).toArray) := by
  obtain ⟨i0, hi, hz0, hz1, hz2⟩ := info_parts' info5
  have hsz : s.data.toList.length = s.size := by rw [Array.length_toList]; rfl
  have hlen : (Lib.byteCells (s.data.toList.take (Nat.min s.size n))).length = Nat.min s.size n := by
    rw [Lib.byteCells_length, List.length_take, hsz]
    exact Nat.min_eq_left (Nat.min_le_left _ _)
  have hst := run_storeCells_at Tryz.prog g 0 5 (Lib.byteCells (s.data.toList.take (Nat.min s.size n))) 0 (Bs cur).toArray w hg (by rw [hlen]; simp [Bs_len, hn]; exact Nat.min_le_right _ _) (Lib.byteCells_one _)
  have htk : List.take (Nat.min s.size n) (List.map (fun b : UInt8 => Value.int IntKind.u8 (b.toNat : Int)) s.data.toList) = Lib.byteCells (s.data.toList.take (Nat.min s.size n)) := by
    rw [← List.map_take]
    rfl
  rw [hlen] at hst
  simp only [Nat.add_zero] at hst
  have hrow : ((Bs cur).toArray.toList.take 0 ++ Lib.byteCells (s.data.toList.take (Nat.min s.size n)) ++ (Bs cur).toArray.toList.drop (0 + Nat.min s.size n)) = Bs ((numsOf s).take n ++ cur.drop (Nat.min s.size n)) := by
    rw [bs_bytes]
    have e0 : s.data.toList.take (Nat.min s.size n) = s.data.toList.take n := by
      rcases Nat.le_total s.size n with h | h
      · rw [show Nat.min s.size n = s.size from Nat.min_eq_left h, List.take_of_length_le (Nat.le_of_eq hsz), List.take_of_length_le (Nat.le_trans (Nat.le_of_eq hsz) h)]
      · rw [show Nat.min s.size n = n from Nat.min_eq_right h]
    have e1 : (s.data.toList.take (Nat.min s.size n)).map UInt8.toNat = (numsOf s).take n := by
      rw [e0]
      unfold numsOf
      exact List.map_take
    rw [e1]
    simp [Bs]
  simp [Builtin.copy_, run_underlying Tryz.underlying22, Builtin.lenOf, Builtin.firstCells, sizeOf, typeInfo, hi]
  rw [htk, hst]
  simp only [Result.andThen]
  rw [hrow]
end Go.Proofs.YtglcpfnpbcnejaaGreatDoor
namespace Go.Proofs.YtglcpfnpbcnejaaGreatDoor
open Go.RowKit Go.WideShapes Rm

theorem wpList_copy_part (w : World) {ops : Array Oper} {rest : List Oper} {o : Oper} {a : Act} {Q : Exit → Act → World → Prop} (hgd : o.guard = none) (d x : Operand)
    (ho : o.op = .call { callee := .builtin .copy, args := #[d, x], argTypes := #[22, 9] }) (g n : Nat) (s : ByteArray) (cur : List Nat) (hd : a.eval d = .slice (some ⟨g, 0, none⟩) n n) (hx : a.eval x = .string s)
    (hg : w.heap[g]? = some (.cells (Bs cur).toArray 5 (0, 0))) (hn : cur.length = n) (B : Nat) (w0 : World) (hb : Below B w0 w) (hB : B ≤ g)
    (h : ∀ w', w'.heap[g]? = some (.cells (Bs ((numsOf s).take n ++ cur.drop (Nat.min s.size n))).toArray 5 (0, 0)) → Below B w0 w' → wpList Tryz.prog ops Q rest (a.put o.dst (goInt (Nat.min s.size n))) w') : wpList Tryz.prog ops Q (o :: rest) a w := by
  refine wpList_plain hgd fun K hK => ?_
  have hr := run_copy_part w o.type g n s cur hg hn
  unfold Oper.wp execOp
  simp only [ho, resolve, invoke, builtin, Sem.run_bind, Sem.run_pure, Result.andThen_ok, List.map_toArray, List.map_cons, List.map_nil, hd, hx, hr]
  exact hK _ _ (h _ (setRow_heap _ _ _ _ _ _ hg) (below_setRow hb hB _))
/-! ### with no program -/
def fileK (S : List Int) (v : List Nat) (j : Nat) : Acts := (List.range j).map fun k => (false, S.getD k 0, partN v k)
theorem fileK_snoc (S : List Int) (v : List Nat) (j : Nat) : fileK S v (j + 1) = fileK S v j ++ [(false, S.getD j 0, partN v j)] := by
  unfold fileK; rw [List.range_succ, List.map_append]; rfl
theorem filesA_snoc : ∀ {fs : List FileV} {vs : List (List Nat)} {f : FileV} {v : List Nat}, fs.length = vs.length → filesA (fs ++ [f]) (vs ++ [v]) = filesA fs vs ++ fileA f v
  | [], [], f, v, _ => by simp [filesA]
  | g :: fs, u :: vs, f, v, h => by
    have := filesA_snoc (f := f) (v := v) (fs := fs) (vs := vs) (by simpa using h)
    simp only [List.cons_append, filesA, this, List.append_assoc]
  | [], _ :: _, _, _, h => by simp at h
  | _ :: _, [], _, _, h => by simp at h
theorem part_eq (s : ByteArray) (k n : Nat) (h : k * 128 ≤ s.size) (hn : n = Nat.min (s.size - k * 128) 128) : ((numsOf s).drop (k * 128)).take 128 ++ (List.replicate 128 0).drop n = partN (numsOf s) k := by
  unfold partN
  congr 1
  rw [List.drop_replicate, List.length_take, List.length_drop, nums_len, hn]
  congr 1
  show 128 - min (s.size - k * 128) 128 = 128 - min 128 (s.size - k * 128)
  omega
def valsOf (l : List CV) : List (List Nat) := l.map fun c => numsOf c.val
/-- The acts beside the row of sectors that they are made from. -/
structure OnS (w0 : World) (v : Value) (l : List ActF) (sv : Value) (S : List Int) (wr : World) : Prop where
  acts : OnA w0 v l wr
  secs : IOwn wr w0.heap.size sv S
theorem OnS.next {w0 wr w' : World} {v sv : Value} {l : List ActF} {S : List Int} (h : OnS w0 v l sv S wr) (hb : Below wr.heap.size wr w') : OnS w0 v l sv S w' := ⟨h.acts.next hb, own_below h.secs hb⟩
theorem OnS.app {w0 wr w' : World} {v v' sv : Value} {l m : List ActF} {S : List Int} (h : OnS w0 v l sv S wr) (hg : wr.grownBy w' v.ownBlock) (ho : AOwn w' w0.heap.size v' m) : OnS w0 v' m sv S w' :=
  ⟨h.acts.app hg ho, World.ownsRow.kept h.secs hg (apart_own h.secs h.acts.own.row (by decide))⟩
theorem IOwn.at4 {w : World} {base n m : Nat} {q : Option Addr} {S : List Int} (h : IOwn w base (.slice q n m) S) {k : Nat} (hk : k < S.length) : ∃ g, q = some ⟨g, 0, none⟩ ∧ w.cell? ⟨g, k, none⟩ = some (.int .i64 (S.getD k 0)) := by
  rcases h.2 with ⟨_, hn⟩ | ⟨g, cap, cur, hv, hb, hg, hle, hmax, hsz, htk⟩
  · omega
  · simp only [Value.slice.injEq] at hv
    obtain ⟨rfl, rfl, rfl⟩ := hv
    refine ⟨g, rfl, ?_⟩
    rw [cell_of_row w g k cur _ _ hg]
    have e : (Is S)[k]? = some (.int .i64 (S.getD k 0)) := by
      rw [List.getD_eq_getElem?_getD, List.getElem?_eq_getElem hk]
      simp [Is, hk]
    rw [← htk, List.getElem?_take_of_lt (by omega)] at e
    simpa using e
end Go.Proofs.YtglcpfnpbcnejaaGreatDoor
namespace Go.Proofs.YtglcpfnpbcnejaaGreatDoor
open Go.RowKit Go.WideShapes Rm

/-- What is asked of the files that are put: as many sectors as their bytes need. -/
structure Fits (ls : FPs) (l : List CV) : Prop where
  len : ls.length = l.length
  few : ls.length ≤ 100
  each : ∀ i, i < ls.length → secsN (ls.getD i zeroFP).1.pcs = secs (ls.getD i zeroFP).1.pcs ∧ Wf (ls.getD i zeroFP).1.pcs ∧ ((secs (ls.getD i zeroFP).1.pcs).length : Int) = needsN ((l.getD i zeroCV).val.size : Nat) ∧ (secs (ls.getD i zeroFP).1.pcs).length ≤ 4096
theorem nums_extract4 (r : ByteArray) (a b : Nat) : numsOf (r.extract a b) = ((numsOf r).drop a).take (b - a) := by
  unfold numsOf
  rw [ByteArray.data_extract, Array.toList_extract, List.extract_eq_take_drop, List.map_take, List.map_drop]
theorem part_str (s : ByteArray) (k : Nat) (h : k * 128 ≤ s.size) : (numsOf (s.extract (k * 128) s.size)).take 128 ++ (List.replicate 128 0).drop (Nat.min (s.extract (k * 128) s.size).size 128) = partN (numsOf s) k := by
  have e : ((numsOf s).drop (k * 128)).take (s.size - k * 128) = (numsOf s).drop (k * 128) := List.take_of_length_le (by rw [List.length_drop, nums_len]; exact Nat.le_refl _)
  rw [nums_extract4, e]
  refine part_eq s k _ h ?_
  rw [ByteArray.size_extract, Nat.min_self]
theorem partN_byt (s : ByteArray) (k : Nat) : ∀ c ∈ partN (numsOf s) k, c < 256 := by
  intro c hc
  unfold partN at hc
  rcases List.mem_append.1 hc with h | h
  · have h2 := List.mem_of_mem_drop (List.mem_of_mem_take h)
    unfold numsOf at h2
    obtain ⟨u, _, rfl⟩ := List.mem_map.1 h2
    exact u.toNat_lt
  · rw [(List.mem_replicate.1 h).2]; decide
theorem data_full {w : World} {base g : Nat} {xs : List Nat} (hg : w.heap[g]? = some (.cells (Bs xs).toArray 5 (0, 0))) (hb : base ≤ g) (hl : xs.length = 128) (hx : ∀ c ∈ xs, c < 256) : DataO w base (.slice (some ⟨g, 0, none⟩) 128 128) xs := by
  refine ⟨⟨by rw [Bs_len]; omega, .inr ⟨g, 128, (Bs xs).toArray, by rw [hl], hb, hg, by omega, by unfold maxLen; omega, by simp [Bs_len, hl], ?_⟩⟩, hx⟩
  rw [List.take_of_length_le (by simp [Bs_len])]
theorem filesA_take {ls : FPs} {l : List CV} (h : ls.length = l.length) {k : Nat} (hk : k < ls.length) :
    filesA ((ls.take (k + 1)).map Prod.fst) ((valsOf l).take (k + 1)) = filesA ((ls.take k).map Prod.fst) ((valsOf l).take k) ++ fileA (ls.getD k zeroFP).1 (numsOf (l.getD k zeroCV).val) := by
  have hv : k < (valsOf l).length := by unfold valsOf; rw [List.length_map]; omega
  rw [take_snoc (d := zeroFP) hk, take_snoc (d := []) hv, List.map_append]
  have e : (valsOf l).getD k [] = numsOf (l.getD k zeroCV).val := by
    unfold valsOf
    rw [List.getD_eq_getElem?_getD, List.getElem?_map, List.getElem?_eq_getElem (by omega), List.getD_eq_getElem?_getD, List.getElem?_eq_getElem (by omega)]
    rfl
  rw [e]
  refine filesA_snoc ?_
  rw [List.length_map, List.length_take, List.length_take]
  unfold valsOf
  rw [List.length_map]
  omega
/-- What fileActs answers. -/
structure FActP (w : World) (F : Acts) (e : Ending) (w' : World) : Prop where
  ex : ∃ v L, e = .returned v ∧ OnA w v L w' ∧ L.map Prod.fst = if F = [] then [] else F ++ [flA]
set_option maxRecDepth 8000 in
set_option maxHeartbeats 8000000 in
theorem fileActs_any (fv : Value) (ls : FPs) (B base0 : Nat) (q : Option Addr) (n c : Nat) (l : List CV) (w : World) (hf : FMix w B base0 fv ls) (hq : CsIn w q l) (hn0 : n = l.length) (hx : Fits ls l) (F : Acts) (hF : filesA (ls.map Prod.fst) (valsOf l) = F) :
    Calls Tryz.prog 74 #[fv, .slice q n c] w fun e w' => FActP w F e w' := by
  obtain ⟨fq, fm, rfl, _, _, _⟩ := hf.form
  obtain ⟨i0, hi, hz0, hz1, hz2⟩ := info_parts' info5
  have HF : Hid (FMix w B base0 (.slice fq ls.length fm) ls) := hf
  have HQ : Hid (CsIn w q l ∧ n = l.length) := ⟨hq, hn0⟩
  have HX : Hid (Fits ls l) := hx
  have HFF : Hid (filesA (ls.map Prod.fst) (valsOf l) = F) := hF
  obtain ⟨N, hN⟩ : ∃ N, ls.length = N := ⟨_, rfl⟩
  have HN : Hid (ls.length = N) := hN
  have hN1 : (N : Int) ≤ 100 := by have := hx.few; omega
  have HNn : Hid (N = n) := by show N = n; rw [← hN, hx.len, hn0]
  rw [hN] at HF ⊢
  clear hf hq hn0 hx hF hN
  go_enter Tryz.func74, Tryz.ntmps74
  go_wp2
  go_loopw [5, 13] (fun v i wr => ∃ (k : Nat) (L : List ActF), k ≤ N ∧ i = .int .i64 (k : Int) ∧ L.map Prod.fst = filesA ((ls.take k).map Prod.fst) ((valsOf l).take k) ∧ L.length ≤ k * 4096 ∧ OnA w v L wr) (fun _ i _ => N - (intOf i).toNat)
  case atStart => exact ⟨0, [], by omega, rfl, rfl, by simp, aown_nil _ _, Below.refl _ _⟩
  case round =>
    obtain ⟨k, L, hk, rfl, hml, hll, hz⟩ := hrel
    obtain ⟨vq, vm, rfl, _, _, _⟩ := hz.own.form
    have HZ : Hid (OnA w (.slice vq L.length vm) L wr) := hz
    have HML : Hid (L.map Prod.fst = filesA ((ls.take k).map Prod.fst) ((valsOf l).take k) ∧ L.length ≤ k * 4096) := ⟨hml, hll⟩
    obtain ⟨lp, hlp⟩ : ∃ lp, L.length = lp := ⟨_, rfl⟩
    have HLP : Hid (L.length = lp) := hlp
    rw [hlp] at HZ ⊢
    clear hz hml hlp hll
    by_cases hkN : k < N
    · have hkI : (k : Int) < (N : Int) := by omega
      have hkIn : (k : Int) < (n : Int) := by have := HNn.out; omega
      have k0 : (0 : Int) ≤ (k : Int) := by omega
      have hkl2 : k < ls.length := by have := HN.out; omega
      have HKN : Hid (k < N) := hkN
      obtain ⟨g, rfl, z0, z1, z2, hpo⟩ := (HF.out.below HZ.out.bel).at hkl2
      obtain ⟨ex1, ex2, ex3, ex4⟩ := HX.out.each k hkl2
      have HT : Hid _ := filesA_take HX.out.len hkl2
      have hkl3 : k < l.length := by have := HX.out.len; omega
      obtain ⟨cb, co, rfl⟩ := HQ.out.1.addr (by omega)
      have HCV : Hid (w.cell? ⟨cb, co + k * 3 + 1, none⟩ = some (.string (l.getD k zeroCV).val)) := (HQ.out.1.at hkl3).2.1
      obtain ⟨⟨⟨nm, sz, pc⟩, pv⟩, hc⟩ : ∃ f, ls.getD k zeroFP = f := ⟨_, rfl⟩
      rw [hc] at z0 z1 z2 hpo ex1 ex2 ex3 ex4 HT
      simp only [Nat.zero_add] at z0 z1 z2 hpo ex1 ex2 ex3 ex4 HT
      obtain ⟨cv, hcv⟩ : ∃ v, (l.getD k zeroCV).val = v := ⟨_, rfl⟩
      rw [hcv] at ex3 HCV HT
      obtain ⟨pq, pm, rfl, _, _, _⟩ := hpo.form
      have hsc := sectors_any4 nm sz (.slice pq pc.length pm) pc (wr.alloc (.cells #[.string nm, .int .i64 sz, .slice pq pc.length pm] 51)) ((hpo.below (below_alloc _ _)).pin ex2)
      rw [ex1] at hsc
      have HT2 : Hid (filesA ((ls.take (k + 1)).map Prod.fst) ((valsOf l).take (k + 1)) = filesA ((ls.take k).map Prod.fst) ((valsOf l).take k) ++ fileK (secs pc) (numsOf cv) (secs pc).length) := HT.out
      obtain ⟨pl, hpl⟩ : ∃ m, pc.length = m := ⟨_, rfl⟩
      rw [hpl] at z2 hsc
      obtain ⟨S, hS⟩ : ∃ S, secs pc = S := ⟨_, rfl⟩
      rw [hS] at hsc ex3 ex4 HT2
      obtain ⟨K, hK⟩ : ∃ K, S.length = K := ⟨_, rfl⟩
      have HK : Hid (S.length = K) := hK
      rw [hK] at hsc ex3 ex4 HT2
      have HSZ : Hid (∀ j : Nat, j < K → j * 128 < cv.size) := by intro j hj; unfold needsN at ex3; omega
      have hKI : (K : Int) ≤ 4096 := by omega
      have hszI : (cv.size : Int) ≤ 524288 := by unfold needsN at ex3; omega
      clear hpo ex1 ex2 ex3 HT hc hcv hpl hS hK hkl2 hkl3 hkN hk
      go_wp2_with fail
      refine hsc.mono ?_
      rintro e w2 ⟨sq, sm, rfl, hso, hb2⟩
      have HS2 : Hid (OnS w (.slice vq lp vm) L (.slice sq K sm) S w2) := ⟨(HZ.out.next (below_alloc _ _)).next hb2, IOwn.mono hso (by have := (HZ.out.next (below_alloc wr (.cells #[.string nm, .int .i64 sz, .slice pq pl pm] 51))).bel.size; exact this)⟩
      clear hsc hso hb2 HZ z0 z1 z2
      go_wp2
      go_loopw [5, 21] (fun v i wr => ∃ (j : Nat) (M : List ActF), j ≤ K ∧ i = .int .i64 (j : Int) ∧ M.map Prod.fst = L.map Prod.fst ++ fileK S (numsOf cv) j ∧ M.length = lp + j ∧ OnS w v M (.slice sq K sm) S wr) (fun _ i _ => K - (intOf i).toNat)
      case atStart => exact ⟨0, L, by omega, rfl, by simp [fileK], by have := HLP.out; omega, HS2.out⟩
      case round =>
        obtain ⟨j, M, hj, rfl, hmm, hlm, hs⟩ := hrel
        obtain ⟨mq, mm, rfl, _, _, _⟩ := hs.acts.own.form
        have HS : Hid (OnS w (.slice mq M.length mm) M (.slice sq K sm) S _) := hs
        have HMM : Hid (M.map Prod.fst = L.map Prod.fst ++ fileK S (numsOf cv) j ∧ M.length = lp + j) := ⟨hmm, hlm⟩
        obtain ⟨ml, hml⟩ : ∃ m, M.length = m := ⟨_, rfl⟩
        rw [hml] at HS ⊢
        have HMLN : Hid (M.length = ml) := hml
        clear hs hmm hlm hml
        by_cases hjK : j < K
        · have hjI : (j : Int) < (K : Int) := by omega
          have j0 : (0 : Int) ≤ (j : Int) := by omega
          have HJK : Hid (j < K) := hjK
          obtain ⟨sb, rfl, s0⟩ := IOwn.at4 HS.out.secs (k := j) (by have := HK.out; omega)
          have hjs := HSZ.out j hjK
          have hjsI : (j : Int) * 128 ≤ (cv.size : Int) := by omega
          have t1 : ((j : Int) * 128).toNat = j * 128 := by omega
          obtain ⟨sn, hsn⟩ : ∃ s, S.getD j 0 = s := ⟨_, rfl⟩
          have HSN : Hid (fileK S (numsOf cv) (j + 1) = fileK S (numsOf cv) j ++ [(false, sn, partN (numsOf cv) j)]) := by show _ = _; rw [fileK_snoc, hsn]
          rw [hsn] at s0
          clear hsn hjK hj
          have c0 := cellB HCV.out HS.out.acts.bel
          go_wp2_with (at_make; refine wpList_make_full _ rfl _ _ 22 rfl wr.heap.size 5 i0 (.int .u8 0) 1 Tryz.underlying22 hi hz0 hz1 .i64 .i64 _ _ 128 rfl rfl rfl rfl (by rw [hz2]; decide) (by decide) (by simp) ?_)
          intro w3 hown hgrow
          have hb3 : Below wr.heap.size wr w3 := (Below.refl _ _).grown hgrow (Nat.le_refl _) (fun k hk => by cases hk)
          have hrow := row_full' hown
          rw [zeros_made4] at hrow
          have HR3 : Hid (w3.heap[wr.heap.size]? = some (.cells (Bs (List.replicate 128 0)).toArray 5 (0, 0))) := hrow
          have HB3 : Hid (Below wr.heap.size wr w3) := hb3
          have c1 := cellB c0 hb3
          clear hown hgrow hb3 hrow s0
          have HLJ : Hid (ml = lp + j) := by have h1 := HMM.out.2; have h2 := HMLN.out; show ml = _; omega
          go_wp2_with (first
            | ((refine wpList_copy_part (o := ⟨some 36, _, _, _, _, _⟩) _ rfl (.tmp 27) (.tmp 35) rfl wr.heap.size 128 (cv.extract (j * 128) cv.size) (List.replicate 128 0) rfl rfl HR3.out (by simp) wr.heap.size wr HB3.out (Nat.le_refl _) ?_); intro w4 hr4 hb4; have H4 : Hid (OnS w (.slice mq ml mm) M (.slice (some ⟨sb, 0, none⟩) K sm) S w4 ∧ DataO w4 w.heap.size (.slice (some ⟨wr.heap.size, 0, none⟩) 128 128) (partN (numsOf cv) j)) := ⟨HS.out.next hb4, data_full (by rw [part_str cv j (by omega)] at hr4; exact hr4) HS.out.acts.bel.size (partN_len _ _) (partN_byt _ _)⟩; have H5 : Hid (OnS w (.slice mq ml mm) M (.slice (some ⟨sb, 0, none⟩) K sm) S (w4.alloc (.cells #[.bool false, .int .i64 sn, .slice (some ⟨wr.heap.size, 0, none⟩) 128 128] 47)) ∧ (∀ y ∈ [((false, sn, partN (numsOf cv) j), Value.slice (some ⟨wr.heap.size, 0, none⟩) 128 128)], DataO (w4.alloc (.cells #[.bool false, .int .i64 sn, .slice (some ⟨wr.heap.size, 0, none⟩) 128 128] 47)) w.heap.size y.2 y.1.2.2)) := ⟨H4.out.1.next (below_alloc _ _), fun y hy => by rw [List.mem_singleton.1 hy]; exact H4.out.2.below (below_alloc _ _)⟩; have HC : Hid (∀ j' u, (cellsT [((false, sn, partN (numsOf cv) j), Value.slice (some ⟨wr.heap.size, 0, none⟩) 128 128)])[j']? = some u → (w4.alloc (.cells #[.bool false, .int .i64 sn, .slice (some ⟨wr.heap.size, 0, none⟩) 128 128] 47)).cell? ((⟨w4.heap.size, 0, none⟩ : Addr).add j') = some u) := one_act _ _ _ _ _ _ rfl; clear hr4 hb4)
            | (at_builtin; (refine wpList_append_acts _ rfl _ _ rfl w.heap.size (.slice mq ml mm) M [((false, sn, partN (numsOf cv) j), .slice (some ⟨wr.heap.size, 0, none⟩) 128 128)] ⟨w4.heap.size, 0, none⟩ 1 1 rfl rfl rfl H5.out.1.acts.own H5.out.2 HC.out (by have h1 := HMLN.out; have h2 := HLJ.out; have h3 := HLP.out; have h4 := HML.out.2; have h5 := HKN.out; have h6 := HJK.out; simp only [List.length_cons, List.length_nil]; omega) H5.out.1.acts.bel.size ?_); intro v5 w5 ho5 hg5; have H6 : Hid (OnS w v5 (M ++ [((false, sn, partN (numsOf cv) j), .slice (some ⟨wr.heap.size, 0, none⟩) 128 128)]) (.slice (some ⟨sb, 0, none⟩) K sm) S w5) := H5.out.1.app hg5 ho5; clear ho5 hg5))
          go_roundw
          case rel => exact ⟨j + 1, _, HJK.out, by go_num, by rw [List.map_append, HMM.out.1, HSN.out, List.append_assoc]; rfl, by rw [List.length_append]; have h1 := HMM.out.2; simp only [List.length_cons, List.length_nil]; omega, H6.out⟩
          case measure => have := HJK.out; simp [intOf]; omega
        · obtain rfl : j = K := by omega
          clear hjK hj
          go_wp2
          go_roundw
          case rel => exact ⟨k + 1, M, HKN.out, by go_num, by rw [HMM.out.1, HML.out.1, HT2.out], by have := HMM.out.2; have := HML.out.2; have := HLP.out; omega, HS.out.acts⟩
          case measure => have := HKN.out; simp [intOf]; omega
    · have hkI : (N : Int) ≤ (k : Int) := by omega
      obtain rfl : k = N := by omega
      have HM : Hid (L.map Prod.fst = F) := by
        show L.map Prod.fst = _
        rw [HML.out.1, ← HFF.out, List.take_of_length_le (Nat.le_of_eq HN.out), List.take_of_length_le (by unfold valsOf; rw [List.length_map, ← HX.out.len]; exact Nat.le_of_eq HN.out)]
      clear hkN hk
      by_cases h0 : lp = 0
      · subst h0
        have HE : Hid (F = []) := by
          show F = []
          rw [← HM.out, List.eq_nil_of_length_eq_zero HLP.out]
          rfl
        go_wp2
        go_ret
        exact ⟨⟨_, L, rfl, HZ.out, by rw [if_pos HE.out, HM.out, HE.out]⟩⟩
      · have h0I : (0 : Int) < (lp : Int) := by omega
        have HE : Hid (F ≠ []) := by
          intro h
          have := congrArg List.length HM.out
          rw [List.length_map, HLP.out, h] at this
          exact h0 this
        clear h0
        have H3 : Hid (OnA w (.slice vq lp vm) L (wr.alloc (.cells #[.bool true, .int .i64 0, .slice none 0 0] 47))) := HZ.out.next (below_alloc _ _)
        have HD3 : Hid (∀ y ∈ [((true, (0 : Int), ([] : List Nat)), Value.slice none 0 0)], DataO (wr.alloc (.cells #[.bool true, .int .i64 0, .slice none 0 0] 47)) w.heap.size y.2 y.1.2.2) := by
          intro y hy
          rw [List.mem_singleton.1 hy]
          exact ⟨World.ownsRow_nil _ _ _ _, fun c hc => by cases hc⟩
        have HC : Hid (∀ j u, (cellsT [((true, (0 : Int), ([] : List Nat)), Value.slice none 0 0)])[j]? = some u → (wr.alloc (.cells #[.bool true, .int .i64 0, .slice none 0 0] 47)).cell? ((⟨wr.heap.size, 0, none⟩ : Addr).add j) = some u) := one_act _ _ _ _ _ _ rfl
        go_wp2_with (at_builtin; (refine wpList_append_acts _ rfl _ _ rfl w.heap.size (.slice vq lp vm) L [((true, (0 : Int), ([] : List Nat)), .slice none 0 0)] ⟨wr.heap.size, 0, none⟩ 1 1 rfl rfl rfl H3.out.own HD3.out HC.out (by have := HML.out.2; simp only [List.length_cons, List.length_nil]; omega) H3.out.bel.size ?_); intro v5 w5 ho5 hg5; have H5 : Hid (OnA w v5 (L ++ [((true, (0 : Int), ([] : List Nat)), .slice none 0 0)]) w5) := H3.out.app hg5 ho5; clear ho5 hg5)
        go_ret
        exact ⟨⟨_, _, rfl, H5.out, by rw [if_neg HE.out, List.map_append, HM.out]; rfl⟩⟩
end Go.Proofs.YtglcpfnpbcnejaaGreatDoor
namespace Go.Proofs.YtglcpfnpbcnejaaGreatDoor
open Go.RowKit Go.WideShapes Rm

/-- What is wrong with the change at a place. -/
def oneC (old : List FileV) (l : List CV) (k : Nat) : Int :=
  if isNameN (l.getD k zeroCV).key = false then 5
  else if namedC (l.take k) (l.getD k zeroCV).key = true then 8
  else if (l.getD k zeroCV).gone = true ∧ findI old (l.getD k zeroCV).key < 0 then 6 else 0
/-- What is wrong with the changes from a place on. -/
def fromC (old : List FileV) (l : List CV) : Nat → Nat → Int
  | 0, _ => 0
  | m + 1, k => if oneC old l k ≠ 0 then oneC old l k else fromC old l m (k + 1)
def chgE (old : List FileV) (l : List CV) : Int := if 64 < l.length then 4 else fromC old l l.length 0
theorem fromC_err {old : List FileV} {l : List CV} {m k : Nat} {E e : Int} (h : fromC old l (m + 1) k = E) (h1 : oneC old l k = e) (h2 : e ≠ 0) : E = e := by
  rw [← h, fromC, h1, if_pos h2]
theorem fromC_go {old : List FileV} {l : List CV} {m k : Nat} {E : Int} (h : fromC old l (m + 1) k = E) (h1 : oneC old l k = 0) : fromC old l m (k + 1) = E := by
  rw [← h, fromC, h1]
  simp
structure ChkP (w : World) (E : Int) (e : Ending) (w' : World) : Prop where
  ex : ∃ ev, e = .returned ev ∧ ErrV ev E ∧ Below w.heap.size w w'
theorem below_drC {w w' : World} (h : Below w.drew.heap.size w.drew w') : Below w.heap.size w w' := ((Below.refl _ _).drew).trans h
theorem named_take {w : World} {q : Option Addr} {n c : Nat} {l : List CV} (hq : CsIn w q l) (hn0 : n = l.length) (hn1 : n ≤ 64) (k : Nat) (hk : k ≤ n) (name : ByteArray) (r : Bool) (hr : namedC (l.take k) name = r) : Calls Tryz.prog 105 #[.slice q k c, .string name] w fun e w' => e = .returned (.bool r) ∧ Below w.heap.size w w' :=
  named_any4 q k c (l.take k) name w (hq.take k) (by rw [List.length_take]; omega) (by omega) r hr
set_option maxRecDepth 8000 in
set_option maxHeartbeats 4000000 in
theorem checkChanges_any (fv : Value) (old : List FileV) (q : Option Addr) (n c : Nat) (l : List CV) (w : World) (hf : FIn w fv old) (hq : CsIn w q l) (hn0 : n = l.length) (hnc : n ≤ c) (hnb : (n : Int) ≤ 9223372036854775807) (hs : ∀ x ∈ l, (x.key.size : Int) ≤ 9223372036854775807) (E : Int) (hE : chgE old l = E) :
    Calls Tryz.prog 67 #[fv, .slice q n c] w fun e w' => ChkP w E e w' := by
  obtain ⟨fq, fm, rfl, _⟩ := hf.lies
  have HF : Hid (FIn w (.slice fq old.length fm) old) := hf
  obtain ⟨ol, hol⟩ : ∃ m, old.length = m := ⟨_, rfl⟩
  rw [hol] at HF ⊢
  have HQ : Hid (CsIn w q l ∧ n = l.length) := ⟨hq, hn0⟩
  have HKS : Hid (∀ k, k < l.length → ((l.getD k zeroCV).key.size : Int) ≤ 9223372036854775807) := by
    intro k hk
    refine hs _ ?_
    rw [List.getD_eq_getElem?_getD, List.getElem?_eq_getElem hk]
    exact List.getElem_mem _
  clear hf hs hol
  by_cases hbig : 64 < n
  · have HE : Hid (E = 4) := by show E = 4; rw [← hE]; unfold chgE; rw [if_pos (by omega)]
    have hbI : (64 : Int) < (n : Int) := by omega
    clear hE hq hn0 hbig
    go_enter Tryz.func67, Tryz.ntmps67
    go_wp2
    go_ret
    exact ⟨⟨_, rfl, by rw [HE.out]; exact .inr ⟨by decide, Faults.one _ _⟩, Below.refl _ _⟩⟩
  · have HE0 : Hid (fromC old l n 0 = E) := by show _ = E; rw [← hE]; unfold chgE; rw [if_neg (by omega), hn0]
    have hbI : (n : Int) ≤ 64 := by omega
    have HN64 : Hid (n ≤ 64 ∧ n ≤ c) := ⟨by omega, hnc⟩
    have hncI : (n : Int) ≤ (c : Int) := by omega
    clear hE hq hn0 hbig hnb
    go_enter Tryz.func67, Tryz.ntmps67
    go_wp2
    go_loopw [15] (fun i wr => ∃ k : Nat, k ≤ n ∧ i = .int .i64 (k : Int) ∧ fromC old l (n - k) k = E ∧ Below w.heap.size w wr) (fun i _ => n - (intOf i).toNat)
    case atStart => exact ⟨0, by omega, rfl, HE0.out, Below.refl _ _⟩
    case round =>
      obtain ⟨k, hk, rfl, he, hb⟩ := hrel
      clear HE0
      have HB : Hid (Below w.heap.size w wr) := hb
      by_cases hkn : k < n
      · have hkI : (k : Int) < (n : Int) := by omega
        have k0 : (0 : Int) ≤ (k : Int) := by omega
        have HKN : Hid (k < n) := hkn
        have hkl : k < l.length := by have := HQ.out.2; omega
        have hen := HQ.out.1.below hb
        obtain ⟨fb, fo, rfl⟩ := hen.addr (by omega)
        obtain ⟨z0, z1, z2⟩ := hen.at hkl
        have hsz := HKS.out k hkl
        have HFE : Hid (fromC old l (n - (k + 1) + 1) k = E) := by
          show _ = E
          rw [show n - (k + 1) + 1 = n - k by omega]
          exact he
        have HO : Hid (oneC old l k = if isNameN (l.getD k zeroCV).key = false then 5 else if namedC (l.take k) (l.getD k zeroCV).key = true then 8 else if (l.getD k zeroCV).gone = true ∧ findI old (l.getD k zeroCV).key < 0 then 6 else 0) := rfl
        obtain ⟨⟨ck, cv, cg⟩, hc⟩ : ∃ f, l.getD k zeroCV = f := ⟨_, rfl⟩
        rw [hc] at z0 z1 z2 hsz HO
        simp only at z0 z1 z2 hsz HO
        have hA := below_alloc wr (.cells #[.string ck, .string cv, .bool cg] 40)
        have HA : Hid (Below w.heap.size w (wr.alloc (.cells #[.string ck, .string cv, .bool cg] 40))) := below_bt hb hA
        obtain ⟨r1, hr1⟩ : ∃ r, isNameN ck = r := ⟨_, rfl⟩
        have hin := isName_r ck r1 hr1 (wr.alloc (.cells #[.string ck, .string cv, .bool cg] 40)) hsz
        rw [hr1] at HO
        clear he hb hen hkn hk hkl hc hA
        go_wp2_with fail
        refine hin.mono ?_
        rintro e w1 ⟨rfl, rfl⟩
        clear hin
        cases r1 with
        | false =>
          have HE : Hid (E = 5) := fromC_err HFE.out (HO.out.trans (if_pos rfl)) (by decide)
          go_wp2
          go_ret
          exact ⟨⟨_, rfl, by rw [HE.out]; exact .inr ⟨by decide, Faults.one _ _⟩, HA.out⟩⟩
        | true =>
          have hck : ck.size ≤ 32 := by
            have h := hr1
            unfold isNameN at h
            rw [Bool.and_eq_true] at h
            exact (of_decide_eq_true h.1).2
          obtain ⟨r2, hr2⟩ : ∃ r, namedC (l.take k) ck = r := ⟨_, rfl⟩
          rw [if_neg (by simp), hr2] at HO
          obtain ⟨wA, hwA⟩ : ∃ wA, wr.alloc (.cells #[.string ck, .string cv, .bool cg] 40) = wA := ⟨_, rfl⟩
          have HBK : Hid (wA.heap[wr.heap.size]? = some (.cells #[.string ck, .string cv, .bool cg] 40 (0, 0))) := by show _ = _; rw [← hwA]; exact heap_alloc_new _ _
          rw [hwA] at HA ⊢
          have HNM : Hid (∀ w', Below wA.heap.size wA w' → Calls Tryz.prog 105 #[.slice (some ⟨fb, fo, none⟩) k c, .string ck] w' fun e w'' => e = .returned (.bool r2) ∧ Below w'.heap.size w' w'') := fun w' hb' => named_take (HQ.out.1.below (below_bt HA.out hb')) HQ.out.2 HN64.out.1 k (Nat.le_of_lt HKN.out) ck r2 hr2
          have HFD : Hid (∀ w', Below wA.heap.size wA w' → Calls Tryz.prog 106 #[.slice fq ol fm, .string ck] w' fun e w'' => e = .returned (.int .i64 (findI old ck)) ∧ Below w'.heap.size w' w'') := fun w' hb' => find_any4 _ old ck w' (HF.out.below (below_bt HA.out hb'))
          have hcat : ∀ w' (t : ByteArray), t.size ≤ 100 → (Op.stringOp .add ck t).run Tryz.prog w' = .ok (.string (ck ++ t)) w' := fun w' t ht => run_string_add_sum w' _ _ (by omega)
          obtain ⟨x0, x1, x2⟩ := three_cells HBK.out
          have hkc : (k : Int) ≤ (c : Int) := by omega
          clear hr1 hr2 hwA z0 z1 z2
          go_upto_region 8 with fail
          go_region_with (go_at_call 105; refine (HNM.out _ (by first | exact (Below.refl _ _).drew | exact Below.refl _ _)).mono ?_; rintro e w6 ⟨rfl, hb6⟩)
          all_goals
            have HB6 : Hid (Below wA.heap.size wA w6) := below_drC hb6
            have HW6 : Hid (Below w.heap.size w w6) := below_bt HA.out HB6.out
            obtain ⟨y0, y1, y2⟩ := three_cells ((HB6.out.block _ (lt_heap HBK.out)).trans HBK.out)
            have HFD6 := HFD.out w6 HB6.out
            clear hb6 HNM HFD x0 x1 x2
            cases r2 with
            | true =>
              have HE : Hid (E = 8) := fromC_err HFE.out (HO.out.trans (if_pos rfl)) (by decide)
              clear HFD6
              go_wp2
              go_ret
              exact ⟨⟨_, rfl, by rw [HE.out]; exact .inr ⟨by decide, Faults.one _ _⟩, HW6.out⟩⟩
            | false =>
              cases cg with
              | false =>
                have HG : Hid (fromC old l (n - (k + 1)) (k + 1) = E) := fromC_go HFE.out (HO.out.trans ((if_neg (by simp)).trans (if_neg (by simp))))
                clear HFD6 hcat
                go_wp2
                go_roundw
                case rel => exact ⟨k + 1, HKN.out, by go_num, HG.out, HW6.out⟩
                case measure => have := HKN.out; simp [intOf]; omega
              | true =>
                obtain ⟨fi, hfi⟩ : ∃ i, findI old ck = i := ⟨_, rfl⟩
                rw [hfi] at HFD6 HO
                clear hfi hcat
                by_cases hf0 : fi < 0
                · have HE : Hid (E = 6) := fromC_err HFE.out (HO.out.trans ((if_neg (by simp)).trans (if_pos ⟨rfl, hf0⟩))) (by decide)
                  go_wp2_with fail
                  refine HFD6.mono ?_
                  rintro e w7 ⟨rfl, hb7⟩
                  have HW7 : Hid (Below w.heap.size w w7) := below_bt HW6.out hb7
                  have v0 := cellB y0 hb7
                  clear hb7 HFD6
                  go_wp2
                  go_ret
                  exact ⟨⟨_, rfl, by rw [HE.out]; exact .inr ⟨by decide, Faults.one _ _⟩, HW7.out⟩⟩
                · have HG : Hid (fromC old l (n - (k + 1)) (k + 1) = E) := fromC_go HFE.out (HO.out.trans ((if_neg (by simp)).trans (if_neg (fun h => hf0 h.2))))
                  have hf0' : decide (fi < 0) = false := decide_eq_false hf0
                  clear hf0
                  go_wp2_with fail
                  refine HFD6.mono ?_
                  rintro e w7 ⟨rfl, hb7⟩
                  have HW7 : Hid (Below w.heap.size w w7) := below_bt HW6.out hb7
                  clear hb7 HFD6
                  go_wp2
                  go_roundw
                  case rel => exact ⟨k + 1, HKN.out, by go_num, HG.out, HW7.out⟩
                  case measure => have := HKN.out; simp [intOf]; omega
      · have hkI : (n : Int) ≤ (k : Int) := by omega
        have HE : Hid (E = 0) := by
          show E = 0
          rw [← he, show n - k = 0 by omega]
          rfl
        clear hkn hk he hb
        go_wp2
        go_ret
        exact ⟨⟨_, rfl, by rw [HE.out]; exact .inl ⟨rfl, rfl⟩, HB.out⟩⟩
end Go.Proofs.YtglcpfnpbcnejaaGreatDoor
