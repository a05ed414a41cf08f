import Derived.Test.YtblnoekogdpolaaDoorJMany
namespace Go.Proofs.YtblnoekogdpolaaDoor
open Go.RowKit Go.WideShapes Go.Joins
def nszB : List ByteArray → Nat
  | [] => 0
  | s :: l => 1 + s.size + nszB l
mutual
def szB : JB → Nat
  | .mk _ _ _ t ns vs => 1 + t.size + nszB ns + szL vs
def szL : List JB → Nat
  | [] => 0
  | v :: l => szB v + szL l
end
inductive Sm : JB → Prop where
  | mk (k : Nat) (b : Bool) (n : Int) (t : ByteArray) (ns : List ByteArray) (vs : List JB) (ht : t.size ≤ 16384) (hn : ns.length ≤ 1024) (hs : ∀ s ∈ ns, s.size ≤ 16384) (hv : vs.length ≤ 1024) (hr : ∀ (i : Nat) (x : JB), vs[i]? = some x → Sm x) : Sm (.mk k b n t ns vs)
theorem alone_sm {k : Nat} {b : Bool} {n : Int} {t : ByteArray} {ns : List ByteArray} {nv d : Nat} (h : aloneB k b n t ns nv d = 0) : ns.length ≤ 1024 ∧ nv ≤ 1024 := by
  unfold aloneB at h
  split at h
  · cases h
  rename_i hp
  have hp := Classical.not_not.1 hp
  split at h
  · cases h
  split at h
  · cases h
  split at h
  · cases h
  rename_i hv
  unfold HasP at hp
  omega
theorem chk_sm : ∀ (v : JB) (d : Nat), chkB v d = 0 → Sm v
  | .mk k b n t ns vs, d, h => by
    simp only [chkB] at h
    split at h
    · rename_i ha
      have k1 := alone_fit ha
      have k2 := alone_sm ha
      exact .mk k b n t ns vs k1.2.1 k2.1 k1.2.2.1 k2.2 (fun i x hx => chks_sm vs (d + 1) h i x hx)
    · omega
where chks_sm : ∀ (vs : List JB) (d : Nat), chksB vs d = 0 → ∀ (i : Nat) (x : JB), vs[i]? = some x → Sm x
  | [], _, _, i, x, hx => by simp at hx
  | v :: vs, d, h, i, x, hx => by
    simp only [chksB] at h
    split at h
    · rename_i hv
      cases i with
      | zero => simp at hx; subst hx; exact chk_sm v d hv
      | succ i => exact chks_sm vs d h i x (by simpa using hx)
    · omega
theorem nsz_take (ns : List ByteArray) (i : Nat) (hi : i < ns.length) : nszB (ns.take (i + 1)) = nszB (ns.take i) + 1 + (ns.getD i ByteArray.empty).size := by
  induction ns generalizing i with
  | nil => simp at hi
  | cons s l ih =>
    cases i with
    | zero => simp [nszB]
    | succ i =>
      simp only [List.take_succ_cons, nszB, List.getD_cons_succ]
      rw [ih i (by simpa using hi)]
      omega
theorem nsz_le (ns : List ByteArray) (h : ∀ s ∈ ns, s.size ≤ 16384) : nszB ns ≤ 16385 * ns.length := by
  induction ns with
  | nil => simp [nszB]
  | cons s l ih =>
    have h1 := h s (by simp)
    have h2 := ih fun x hx => h x (by simp [hx])
    simp only [nszB, List.length_cons]
    omega
theorem nsz_take_le (ns : List ByteArray) (h : ∀ s ∈ ns, s.size ≤ 16384) (hn : ns.length ≤ 1024) (i : Nat) : nszB (ns.take i) ≤ 16778240 := by
  have h1 := nsz_le (ns.take i) fun s hs => h s (List.mem_of_mem_take hs)
  rw [List.length_take] at h1
  omega
theorem szL_take (vs : List JB) (i : Nat) (x : JB) (hx : vs[i]? = some x) : szL (vs.take (i + 1)) = szL (vs.take i) + szB x := by
  induction vs generalizing i with
  | nil => simp at hx
  | cons v l ih =>
    cases i with
    | zero => simp at hx; subst hx; simp [szL]
    | succ i =>
      simp only [List.take_succ_cons, szL]
      rw [ih i (by simpa using hx)]
      omega
def MnP (f : Nat) (s : Nat) (w : World) (e : Ending) (w' : World) : Prop := (∃ n : Nat, e = .returned (.int .i64 (n : Int)) ∧ n ≤ 20000000 * (f + 1) ∧ (n < 1000000 → s ≤ n)) ∧ Below w.heap.size w w'
inductive MgN (n g : Nat) (box : Obj) (T : Nat) (ns : List ByteArray) (w : World) (t5 t : Value) (wr : World) : Prop where
  | intro (k : Nat) (hk : k ≤ n) (ht : t = .int .i64 (k : Int)) (h5 : t5 = .int .i64 ((1 + T + nszB (ns.take k) : Nat) : Int)) (hb : Below w.heap.size w wr) (hg : wr.heap[g]? = some box)
inductive MgI (n g : Nat) (box : Obj) (f T : Nat) (vs : List JB) (w : World) (t5 t : Value) (wr : World) : Prop where
  | intro (k m : Nat) (hk : k ≤ n) (ht : t = .int .i64 (k : Int)) (h5 : t5 = .int .i64 (m : Int)) (hm : m ≤ 20000000 * (f + 1) + 17000000) (hs : m < 1000000 → T + szL (vs.take k) ≤ m) (hb : Below w.heap.size w wr) (hg : wr.heap[g]? = some box)
set_option maxHeartbeats 4000000 in
set_option maxRecDepth 8000 in
theorem manyG_walk (k : Nat) (b : Bool) (m : Int) (t : ByteArray) (ns : List ByteArray) (vs : List JB) (nq iq : Option Addr) (nc ic : Nat) (F : Nat → Array Value) (Z : Nat → Prop) (d f : Nat) (hd : d ≤ 60) (hf : f ≤ 60) (w : World) (hS : Sm (.mk k b m t ns vs))
    (hN : SsIn w Z nq ns) (hI : VsIn w Z iq F vs.length) (hR : ∀ i x, vs[i]? = some x → JIn w Z (F i) x)
    (hcall : ∀ i x, vs[i]? = some x → ∀ w', Below w.heap.size w w' → Calls Tryd.prog 41 #[.agg (F i), .int .i64 ((d : Int) + 1)] w' fun e w'' => MnP f (szB x) w' e w'') :
    Calls Tryd.prog 41 #[.agg (jA k b m t nq ns.length nc iq vs.length ic), .int .i64 (d : Int)] w fun e w' => MnP (f + 1) (szB (.mk k b m t ns vs)) w e w' := by
  obtain ⟨hT, hnl, hns, hil⟩ : t.size ≤ 16384 ∧ ns.length ≤ 1024 ∧ (∀ s ∈ ns, s.size ≤ 16384) ∧ vs.length ≤ 1024 := by
    cases hS with
    | mk _ _ _ _ _ _ a b c d e => exact ⟨a, b, c, d⟩
  have b1 := below_new w (.cells (jA k b m t nq ns.length nc iq vs.length ic) 25)
  have n1 := _root_.Go.heap_alloc_new w (.cells (jA k b m t nq ns.length nc iq vs.length ic) 25)
  obtain ⟨⟨c0, c1, c2, c3, c4, c5⟩, f0, f1, f2, f3, f4, f5⟩ := row6_cells n1
  obtain ⟨N, hN2⟩ : ∃ N, vs.length = N := ⟨_, rfl⟩
  obtain ⟨L, hL2⟩ : ∃ L, ns.length = L := ⟨_, rfl⟩
  obtain ⟨T, hT2⟩ : ∃ T, t.size = T := ⟨_, rfl⟩
  have HH : Hid (SsIn w Z nq ns ∧ VsIn w Z iq F N ∧ (∀ i x, vs[i]? = some x → JIn w Z (F i) x) ∧ vs.length = N ∧ ns.length = L ∧ (∀ s ∈ ns, s.size ≤ 16384) ∧ ns.length ≤ 1024 ∧ t.size = T ∧ f ≤ 60) := ⟨hN, by rw [← hN2]; exact hI, hR, hN2, hL2, hns, hnl, hT2, hf⟩
  obtain ⟨D, hD⟩ : ∃ D : Int, (d : Int) = D := ⟨_, rfl⟩
  rw [hD] at hcall ⊢
  have HC : Hid (∀ i x, vs[i]? = some x → ∀ w', Below w.heap.size w w' → Calls Tryd.prog 41 #[.agg (F i), .int .i64 (D + 1)] w' fun e w'' => MnP f (szB x) w' e w'') := hcall
  have hD0 : 0 ≤ D := by omega
  have hD1 : ¬ (60 : Int) < D := by omega
  rw [hN2, hL2] at n1 b1 c0 c1 c2 c3 c4 c5 f0 f1 f2 f3 f4 f5 ⊢
  have hTs : (t.size : Int) = (T : Int) := by rw [hT2]
  have hTm : (T : Int) ≤ 16384 := by omega
  have hT0 : (0 : Int) ≤ (T : Int) := by omega
  have hmx : (N : Int) ≤ 1024 := by omega
  have hmy : (L : Int) ≤ 1024 := by omega
  have HB : Hid (Below w.heap.size w (w.alloc (.cells (jA k b m t nq L nc iq N ic) 25)) ∧ (w.alloc (.cells (jA k b m t nq L nc iq N ic) 25)).heap[w.heap.size]? = some (.cells (jA k b m t nq L nc iq N ic) 25 (0, 0))) := ⟨b1, n1⟩
  unfold jA at HB c0 c1 c2 c3 c4 c5 f0 f1 f2 f3 f4 f5 ⊢
  clear b1 n1 hN hnl hI hil hR hcall hN2 hL2 hD hd hS hT hns hT2 hf
  go_enter Tryd.func41, Tryd.ntmps41
  go_wp2_with fail
  clear c0 c1 c2 c3 c4 c5 f0 f1 f2 f3 f4 f5
  go_loopw [5, 6] (fun t5 tk wr => MgN L w.heap.size (.cells #[.int .u8 (k : Int), .bool b, .int .i64 m, .string t, .slice nq L nc, .slice iq N ic] 25 (0, 0)) T ns w t5 tk wr) (fun _ tk _ => L - (intOf tk).toNat)
  case atStart => exact ⟨0, Nat.zero_le _, rfl, by simp [nszB], HB.out.1, HB.out.2⟩
  case round =>
    obtain ⟨i, hi, rfl, rfl, hb, hg⟩ := hrel
    obtain ⟨⟨r0, r1, r2, r3, r4, r5⟩, _, _, _, _, _, _⟩ := row6_cells hg
    by_cases hlt : i < L
    · have hiI : (i : Int) < (L : Int) := by omega
      have hi0 : (0 : Int) ≤ (i : Int) := by omega
      obtain ⟨ib, io, rfl⟩ := HH.out.1.addr (by have := HH.out.2.2.2.2.1; omega)
      have hcell := below_cell (HH.out.1.at (i := i) (by have := HH.out.2.2.2.2.1; omega)) hb
      have hS := nsz_take_le ns HH.out.2.2.2.2.2.1 HH.out.2.2.2.2.2.2.1 i
      have hS1 := nsz_take ns i (by have := HH.out.2.2.2.2.1; omega)
      have hu : (ns.getD i ByteArray.empty).size ≤ 16384 := by
        rw [List.getD_eq_getElem?_getD, List.getElem?_eq_getElem (by have := HH.out.2.2.2.2.1; omega)]
        exact HH.out.2.2.2.2.2.1 _ (List.getElem_mem _)
      generalize ns.getD i ByteArray.empty = u at hcell hS1 hu
      obtain ⟨P, hP⟩ : ∃ P : Nat, 1 + T + nszB (ns.take i) = P := ⟨_, rfl⟩
      have HQ : Hid (Below w.heap.size w wr ∧ wr.heap[w.heap.size]? = some (.cells #[.int .u8 (k : Int), .bool b, .int .i64 m, .string t, .slice (some ⟨ib, io, none⟩) L nc, .slice iq N ic] 25 (0, 0)) ∧ i < L ∧ 1 + T + nszB (ns.take (i + 1)) = P + 1 + u.size) := ⟨hb, hg, hlt, by omega⟩
      have hP1 : (P : Int) ≤ 20000000 := by omega
      have hP0 : (0 : Int) ≤ (P : Int) := by omega
      have hu1 : (u.size : Int) ≤ 16384 := by omega
      have hu0 : (0 : Int) ≤ (u.size : Int) := by omega
      rw [hP]
      clear hb hg hi hlt hS hS1 hu hP
      go_wp2_with fail
      go_roundw
      case rel =>
        refine ⟨i + 1, by have := HQ.out.2.2.1; omega, by go_num, ?_, HQ.out.1, HQ.out.2.1⟩
        rw [HQ.out.2.2.2]
        first | go_num | (congr 1; omega)
      case measure => have := HQ.out.2.2.1; simp [intOf]; omega
    · obtain rfl : i = L := by omega
      have hS := nsz_take_le ns HH.out.2.2.2.2.2.1 HH.out.2.2.2.2.2.2.1 i
      obtain ⟨P, hP⟩ : ∃ P : Nat, 1 + T + nszB (ns.take i) = P := ⟨_, rfl⟩
      have HQ : Hid (Below w.heap.size w wr ∧ wr.heap[w.heap.size]? = some (.cells #[.int .u8 (k : Int), .bool b, .int .i64 m, .string t, .slice nq i nc, .slice iq N ic] 25 (0, 0)) ∧ P ≤ 17000000 ∧ 1 + T + nszB ns = P) := ⟨hb, hg, by omega, by
        rw [List.take_of_length_le (by have := HH.out.2.2.2.2.1; omega)] at hP
        exact hP⟩
      rw [hP]
      clear hb hg hi hlt hS hP
      go_wp2_with fail
      clear r0 r1 r2 r3 r4 r5
      go_loopw [5, 7] (fun t5 tk wr => MgI N w.heap.size (.cells #[.int .u8 (k : Int), .bool b, .int .i64 m, .string t, .slice nq i nc, .slice iq N ic] 25 (0, 0)) f P vs w t5 tk wr) (fun _ tk _ => N - (intOf tk).toNat)
      case atStart => exact ⟨0, P, Nat.zero_le _, rfl, rfl, by have := HQ.out.2.2.1; omega, fun _ => by simp [szL], HQ.out.1, HQ.out.2.1⟩
      case round =>
        obtain ⟨j, s2, hj, rfl, rfl, hm2, hs2, hb, hg⟩ := hrel
        obtain ⟨⟨r0, r1, r2, r3, r4, r5⟩, _, _, _, _, _, _⟩ := row6_cells hg
        have HM : Hid (s2 ≤ 20000000 * (f + 1) + 17000000 ∧ (s2 < 1000000 → P + szL (vs.take j) ≤ s2)) := ⟨hm2, hs2⟩
        clear hs2 hm2
        have hfin : Hid (j = N ∨ 1000000 ≤ s2 → s2 ≤ 20000000 * (f + 1 + 1) ∧ (s2 < 1000000 → szB (.mk k b m t ns vs) ≤ s2)) := fun h => by
          refine ⟨by have := HM.out.1; omega, fun hlt => ?_⟩
          have h1 := HM.out.2 hlt
          rw [List.take_of_length_le (by have := HH.out.2.2.2.1; omega)] at h1
          have h2 := HQ.out.2.2.2
          have h3 := HH.out.2.2.2.2.2.2.2.1
          simp only [szB]
          omega
        by_cases hlt : j < N
        · have hjI : (j : Int) < (N : Int) := by omega
          have hj0 : (0 : Int) ≤ (j : Int) := by omega
          by_cases hbig : s2 < 1000000
          · have hbI : (s2 : Int) < 1000000 := by omega
            have hb0 : (0 : Int) ≤ (s2 : Int) := by omega
            obtain ⟨x, hx⟩ : ∃ x, vs[j]? = some x := ⟨_, List.getElem?_eq_getElem (by have := HH.out.2.2.2.1; omega)⟩
            obtain ⟨ib, io, rfl⟩ := HH.out.2.1.addr (by omega)
            have hcells := (HH.out.2.1.at hlt).2
            obtain ⟨k', b', n', t', nq', nl', nc', iq', il', ic', hF⟩ := jin_form (HH.out.2.2.1 j x hx)
            have HCx := HC.out j x hx
            rw [hF] at hcells HCx
            obtain ⟨z0, z1, z2, z3, z4, z5⟩ := (jat_of hcells).below hb
            have FX := HCx wr hb
            have HQ2 : Hid (Below w.heap.size w wr ∧ wr.heap[w.heap.size]? = some (.cells #[.int .u8 (k : Int), .bool b, .int .i64 m, .string t, .slice nq i nc, .slice (some ⟨ib, io, none⟩) N ic] 25 (0, 0)) ∧ j < N ∧ vs[j]? = some x ∧ s2 < 1000000) := ⟨hb, hg, hlt, hx, hbig⟩
            unfold jA at FX
            clear hb hg hj hlt hcells hF HCx hx hbig hfin
            go_wp2_with (first | (go_at_call 41; refine FX.mono ?_; rintro e w3 ⟨⟨n3, rfl, hn3, hs3⟩, hb3⟩; have hn3I : (n3 : Int) ≤ 1220000000 := (by have := HH.out.2.2.2.2.2.2.2.2; omega); have hn30 : (0 : Int) ≤ (n3 : Int) := (by omega)) | fail)
            go_roundw
            case rel =>
              refine ⟨j + 1, s2 + n3, by have := HQ2.out.2.2.1; omega, by go_num, by go_num, by have := HQ2.out.2.2.2.2; omega, fun hlt => ?_, below_more HQ2.out.1 hb3, box_below HQ2.out.2.1 hb3⟩
              rw [szL_take vs j x HQ2.out.2.2.2.1]
              have h1 := HM.out.2 HQ2.out.2.2.2.2
              have h2 := hs3 (by omega)
              omega
            case measure => have := HQ2.out.2.2.1; simp [intOf]; omega
          · have hbI : ¬ (s2 : Int) < 1000000 := by omega
            have HQ2 : Hid (Below w.heap.size w wr ∧ 1000000 ≤ s2) := ⟨hb, by omega⟩
            clear hb hg hj hlt hbig
            go_wp2_with fail
            go_ret
            exact ⟨⟨s2, rfl, hfin.out (.inr HQ2.out.2)⟩, HQ2.out.1⟩
        · obtain rfl : j = N := by omega
          have HQ2 : Hid (Below w.heap.size w wr) := hb
          clear hb hg hj hlt
          go_wp2_with fail
          go_ret
          exact ⟨⟨s2, rfl, hfin.out (.inl (by first | rfl | trivial))⟩, HQ2.out⟩
theorem manyG_deep (A : Array Value) (v : JB) (Z : Nat → Prop) (w : World) (h : JIn w Z A v) : Calls Tryd.prog 41 #[.agg A, .int .i64 61] w fun e w' => MnP 0 (szB v) w e w' := by
  obtain ⟨k, b, n, t, nq, nl, nc, iq, il, ic, rfl⟩ := jin_form h
  have b1 := below_new w (.cells (jA k b n t nq nl nc iq il ic) 25)
  have HB : Hid (Below w.heap.size w (w.alloc (.cells (jA k b n t nq nl nc iq il ic) 25))) := b1
  unfold jA at HB ⊢
  clear b1 h
  go_enter Tryd.func41, Tryd.ntmps41
  go_wp2_with fail
  go_ret
  exact ⟨⟨1000000, rfl, by decide, fun h => absurd h (by decide)⟩, HB.out⟩
theorem manyG_any : ∀ (f d : Nat), d + f = 61 → ∀ (A : Array Value) (v : JB) (Z : Nat → Prop) (w : World), Sm v → JIn w Z A v →
    Calls Tryd.prog 41 #[.agg A, .int .i64 (d : Int)] w fun e w' => MnP f (szB v) w e w' := by
  intro f
  induction f with
  | zero =>
    intro d hd A v Z w hS h
    obtain rfl : d = 61 := by omega
    exact manyG_deep A v Z w h
  | succ f ih =>
    intro d hd A v Z w hS h
    cases h with
    | mk k b n t ns vs nq iq nc ic F hk hn hnc hic hnm him hnq hiq hN hI hR =>
      refine manyG_walk k b n t ns vs nq iq nc ic F Z d f (by omega) (by omega) w hS hN hI hR ?_
      intro i x hx w' hb
      have hSx : Sm x := by
        cases hS with
        | mk _ _ _ _ _ _ _ _ _ _ hr => exact hr i x hx
      have R := ih (d + 1) (by omega) (F i) x Z w' hSx ((hR i x hx).bel hb)
      rw [show ((d + 1 : Nat) : Int) = (d : Int) + 1 by omega] at R
      exact R
theorem greatG_any (A : Array Value) (v : JB) (Z : Nat → Prop) (w : World) (hS : Sm v) (h : JIn w Z A v) : Calls Tryd.prog 19 #[.agg A] w fun e w' => (∃ g : Bool, e = .returned (.bool g) ∧ (g = false → szB v ≤ 18000)) ∧ Below w.heap.size w w' := by
  obtain ⟨k, b, n, t, nq, nl, nc, iq, il, ic, rfl⟩ := jin_form h
  have b1 := below_new w (.cells (jA k b n t nq nl nc iq il ic) 25)
  have n1 := _root_.Go.heap_alloc_new w (.cells (jA k b n t nq nl nc iq il ic) 25)
  have M := manyG_any 61 0 rfl _ v Z _ hS (h.bel b1)
  obtain ⟨⟨c0, c1, c2, c3, c4, c5⟩, _, _, _, _, _, _⟩ := row6_cells n1
  rw [show (((0 : Nat) : Int)) = 0 from rfl] at M
  have HB : Hid (Below w.heap.size w (w.alloc (.cells (jA k b n t nq nl nc iq il ic) 25))) := b1
  unfold jA at HB M c0 c1 c2 c3 c4 c5 ⊢
  clear b1 n1 h hS
  go_enter Tryd.func19, Tryd.ntmps19
  go_wp2_with (go_at_call 41; refine M.mono ?_; rintro e w3 ⟨⟨n3, rfl, hn3, hs3⟩, hb3⟩)
  go_ret
  refine ⟨⟨_, rfl, fun hg => ?_⟩, below_more HB.out hb3⟩
  have hg2 : ¬ (18000 : Int) < (n3 : Int) := by simpa using hg
  have := hs3 (by omega)
  omega
end Go.Proofs.YtblnoekogdpolaaDoor
