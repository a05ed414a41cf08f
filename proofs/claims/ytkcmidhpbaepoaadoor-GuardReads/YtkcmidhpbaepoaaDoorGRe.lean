/-
  The program's Read.
-/
import Derived.Test.YtkcmidhpbaepoaaDoorGDe
namespace Go.Proofs.YtkcmidhpbaepoaaDoor.G
open Go.RowKit Go.WideShapes Go.Joins

theorem results_cell_row3 {fn : Func} {p u v : Tmp} {ty : TypeId} (h : fn.results = #[.cell p ty, .tmp u, .tmp v]) (tmps : Array Value) (P : Program) (w : World) (g : Nat) (t : TypeId) (cs : Array Value) (fr : Nat × Nat) (d : TypeDesc)
    (hp : tmps.getD p undef = .pointer (some ⟨g, 0, none⟩)) (hg : w.heap[g]? = some (.cells cs t fr))
    (hd : (match d with | .struct _ | .array _ _ => true | _ => false) = true) (hu : P.underlying ty = some d) (hi : (P.info? ty).map (·.size) = some cs.size) :
    (results fn tmps).run P w = .ok (.tuple #[.agg cs, tmps.getD u undef, tmps.getD v undef]) w := by
  have hp' : tmps[p]?.getD undef = .pointer (some ⟨g, 0, none⟩) := by simpa using hp
  simp [results, h, hp', asAddr, run_loadVar_row w g t ty cs fr d hg hu (by cases d <;> exact hd) hi, Result.andThen]
mutual
/-- how deep a guard is -/
def GB.dp : GB → Nat
  | .mk _ _ _ ks => dps ks + 1
def dps : List GB → Nat
  | [] => 0
  | g :: r => max g.dp (dps r)
end
theorem Wf.dp {g : GB} {d : Nat} (h : Wf g d) : g.dp = d := by
  induction h with
  | leaf k _ => rfl
  | num n _ => rfl
  | text t _ _ => rfl
  | name k t _ _ => rfl
  | @one a d _ ih =>
    show max a.dp 0 + 1 = d + 1
    omega
  | @pair k a b d e _ _ _ _ iha ihb =>
    show max a.dp (max b.dp 0) + 1 = max d e + 1
    omega
def zeroG : GB := .mk 0 0 ByteArray.empty []
/-- what a text's Read tells: a guard, a place, an error -/
inductive RdIs (S : List Nat) : GB → Nat → Nat → Prop where
  | long : 16384 < S.length → RdIs S zeroG 0 3
  | bad {p : Nat} : S.length ≤ 16384 → Wh S p none → RdIs S zeroG p 170
  | deep {p : Nat} {g : GB} : S.length ≤ 16384 → Wh S p (some g) → 32 < g.dp → RdIs S zeroG 0 161
  | ok {p : Nat} {g : GB} : S.length ≤ 16384 → Wh S p (some g) → g.dp ≤ 32 → RdIs S g 0 0
theorem RdIs_one {S : List Nat} {g h : GB} {n m c d : Nat} (h1 : RdIs S g n c) (h2 : RdIs S h m d) : g = h ∧ n = m ∧ c = d := by
  cases h1 with
  | long a => cases h2 <;> first | exact ⟨rfl, rfl, rfl⟩ | omega
  | bad a b =>
    cases h2 with
    | long c => omega
    | bad c d => have := Wh_one b d; exact ⟨rfl, this.1, rfl⟩
    | deep c d e => have := Wh_one b d; cases this.2
    | ok c d e => have := Wh_one b d; cases this.2
  | deep a b x =>
    cases h2 with
    | long c => omega
    | bad c d => have := Wh_one b d; cases this.2
    | deep c d e => exact ⟨rfl, rfl, rfl⟩
    | ok c d e => have := Wh_one b d; cases this.2; omega
  | ok a b x =>
    cases h2 with
    | long c => omega
    | bad c d => have := Wh_one b d; cases this.2
    | deep c d e => have := Wh_one b d; cases this.2; omega
    | ok c d e => have := Wh_one b d; cases this.2; exact ⟨rfl, rfl, rfl⟩
/-- what Read answers -/
structure ReadP (S : ByteArray) (w : World) (e : Ending) (w' : World) : Prop where
  ex : ∃ (A : Array Value) (g : GB) (n c : Nat), e = .returned (.tuple #[.agg A, .int .i64 (n : Int), .int .i64 (c : Int)]) ∧ GIn w' (fun i => w.heap.size ≤ i) A g ∧ Below w.heap.size w w' ∧ RdIs (numsOf S) g n c
theorem below_of_grown {w w0 w' : World} {b : Nat} (h0 : Below w.heap.size w w0) (hg : w0.grownBy w' (some b)) (hb : w.heap.size ≤ b) : Below w.heap.size w w' :=
  ⟨hg.os.trans h0.os, hg.tape.trans h0.tape, hg.output.trans h0.output, Nat.le_trans h0.size hg.size, fun i hi => (hg.block i (Nat.lt_of_lt_of_le hi h0.size) (fun e => by cases e; omega)).trans (h0.block i hi)⟩
theorem gin_zero (w : World) (Z : Nat → Prop) : GIn w Z gz zeroG := gin_leaf w Z 0 0 ByteArray.empty (by decide) rng_zero
def rdr (S : ByteArray) : Obj := .cells #[.string S, .string ⟨#[]⟩, .int .i64 0, .int .i64 0, .string ⟨#[]⟩, .int .i64 0, .bool false] 35
/-- behind the text -/
structure RdW (S : ByteArray) (w : World) (B : Nat) (A : Array Value) (g : GB) (σ : St) (w5 : World) : Prop where
  z : w5.heap[w.heap.size]? = some (.cells #[.int .u8 0, .int .i64 0, .string ⟨#[]⟩, .slice none 0 0] 24 (0, 0))
  bx : w5.heap[B]? = some (.cells A 24 (0, 0))
  hb : w.heap.size + 1 < B
  P : PIn w5 (w.heap.size + 1) S σ
  G : GIn w5 (fun i => w.heap.size + 1 < i ∧ i ≠ B) A g
  bel : Below w.heap.size w w5
theorem RdW.below {S : ByteArray} {w : World} {B : Nat} {A : Array Value} {g : GB} {σ : St} {w5 w6 : World} (h : RdW S w B A g σ w5) (hb : Below w5.heap.size w5 w6) : RdW S w B A g σ w6 :=
  ⟨box_below h.z hb, box_below h.bx hb, h.hb, h.P.below hb, h.G.bel hb, h.bel.trans (hb.mono h.bel.size)⟩
theorem drew_heap (w : World) : w.drew.heap = w.heap := rfl
set_option maxHeartbeats 1000000 in
set_option maxRecDepth 8000 in
theorem Read_any (S : ByteArray) (w : World) (h6 : 6 ≤ w.heap.size) (hL : Laid w) :
    Calls Tryd.prog 4 #[.string S] w fun e w' => ReadP S w e w' := by
  by_cases hs : 16384 < S.size
  · have hq : (16384 : Int) < (S.size : Int) := by omega
    have HS : Hid (16384 < (numsOf S).length) := by show _ < _; rw [numsOf_len]; exact hs
    clear hs h6 hL
    have hn := _root_.Go.heap_alloc_new w (.cells #[.int .u8 0, .int .i64 0, .string ⟨#[]⟩, .slice none 0 0] 24)
    obtain ⟨⟨d0, d1, d2, d3⟩, f0, f1, f2, f3⟩ := row4_cells hn
    have HN : Hid ((w.alloc (.cells #[.int .u8 0, .int .i64 0, .string ⟨#[]⟩, .slice none 0 0] 24)).heap[w.heap.size]? = _) := hn
    clear hn
    go_enter Tryd.func4, Tryd.ntmps4
    go_wp2_with fail
    refine bodyPost_ret (results_cell_row3 rfl _ _ _ w.heap.size 24 gz (0, 0) _ rfl HN.out rfl Tryd.underlying24 size_guard) rfl ?_
    exact ⟨gz, zeroG, 0, 3, rfl, gin_zero _ _, below_new w _, .long HS.out⟩
  · have hq : ¬ (16384 : Int) < (S.size : Int) := by omega
    have HS : Hid (S.size ≤ 16384 ∧ (numsOf S).length ≤ 16384) := by show _ ∧ _; rw [numsOf_len]; omega
    have n1 := _root_.Go.heap_alloc_new w (.cells #[.int .u8 0, .int .i64 0, .string ⟨#[]⟩, .slice none 0 0] 24)
    have b1 := below_new w (.cells #[.int .u8 0, .int .i64 0, .string ⟨#[]⟩, .slice none 0 0] 24)
    have b2 := below_new (w.alloc (.cells #[.int .u8 0, .int .i64 0, .string ⟨#[]⟩, .slice none 0 0] 24)) (rdr S)
    have n2 := _root_.Go.heap_alloc_new (w.alloc (.cells #[.int .u8 0, .int .i64 0, .string ⟨#[]⟩, .slice none 0 0] 24)) (rdr S)
    rw [World.size_alloc] at n2
    have hE : Env ((w.alloc (.cells #[.int .u8 0, .int .i64 0, .string ⟨#[]⟩, .slice none 0 0] 24)).alloc (rdr S)) (w.heap.size + 1) := ⟨by omega, by simp only [World.size_alloc]; omega, hL.below (below_more b1 b2) h6⟩
    have Wl := whole_any S (w.heap.size + 1) HS.out.1 _ hE n2
    have HH : Hid (Below w.heap.size w ((w.alloc (.cells #[.int .u8 0, .int .i64 0, .string ⟨#[]⟩, .slice none 0 0] 24)).alloc (rdr S)) ∧ ((w.alloc (.cells #[.int .u8 0, .int .i64 0, .string ⟨#[]⟩, .slice none 0 0] 24)).alloc (rdr S)).heap[w.heap.size]? = some (.cells #[.int .u8 0, .int .i64 0, .string ⟨#[]⟩, .slice none 0 0] 24 (0, 0)) ∧ ((w.alloc (.cells #[.int .u8 0, .int .i64 0, .string ⟨#[]⟩, .slice none 0 0] 24)).alloc (rdr S)).heap.size = w.heap.size + 2) := ⟨below_more b1 b2, box_below n1 b2, by simp only [World.size_alloc]⟩
    clear h6 hL hs n1 b1 b2 n2 hE
    unfold rdr at Wl HH
    unfold rp at Wl
    go_enter Tryd.func4, Tryd.ntmps4
    go_wp2_with fail
    refine Wl.mono ?_
    clear Wl
    rintro e w4 ⟨ka, na, ta, qa, la, ca, g, σ1, rfl, hG, hP, hg, hW⟩
    have hz4 := hg.size
    have b5 := below_new w4 (.cells (gA ka na ta qa la ca) 24)
    have H4 : Hid (RdW S w w4.heap.size (gA ka na ta qa la ca) g σ1 (w4.alloc (.cells (gA ka na ta qa la ca) 24))) := by
      refine ⟨box_below (box_at hg HH.out.2.1 (fun e => by have := Option.some.inj e; omega)) b5, _root_.Go.heap_alloc_new _ _, by rw [HH.out.2.2] at hz4; omega, hP.below b5, (hG.lt.bel b5).wk fun i hi => ?_, (below_of_grown HH.out.1 hg (by omega)).trans (b5.mono (by rw [HH.out.2.2] at hz4; omega))⟩
      rw [HH.out.2.2] at hi
      omega
    have HW : Hid (WhSt (numsOf S) g σ1) := hW
    clear hG hP hg hW b5 hz4 HH
    unfold gA at H4
    simp only []
    unfold gA
    go_upto_region 5 with fail
    obtain ⟨B, hB⟩ : ∃ B, w4.heap.size = B := ⟨_, rfl⟩
    rw [hB] at H4
    simp only [hB]
    refine wp_at (RdW S w B _ g σ1) H4.out (fun w5 H5 => ?_)
    have HR : Hid (RdW S w B (gA ka na ta qa la ca) g σ1 w5) := H5
    obtain ⟨⟨x0, x1, x2, x3⟩, f0, f1, f2, f3⟩ := row4_cells H5.z
    obtain ⟨⟨y0, y1, y2, y3⟩, _, _, _, _⟩ := row4_cells H5.bx
    clear H4 hB
    obtain ⟨p, r, hwh, hr⟩ := HW.out
    cases r with
    | none =>
      have hr : σ1 = .dead p := hr
      subst hr
      have HWH : Hid (Wh (numsOf S) p none) := hwh
      obtain ⟨u, x, tt, n, hX⟩ := H5.P.ded p rfl
      obtain ⟨⟨c0, c1, c2, c3, c4, c5, c6⟩, _, _, _, _, _, _⟩ := row7_cells hX
      clear H5 hX hwh HW
      go_wp2_with fail
      go_region
      go_wp2_with fail
      have h9 : (set4 w5 w.heap.size (.int .u8 0) (.int .i64 0) (.string ⟨#[]⟩) (.slice none 0 0)).drew.heap[w.heap.size]? = some (.cells gz 24 (0, 0)) := by rw [drew_heap]; exact set4_heap HR.out.z _ _ _ _
      have b9 := (below_set4 (Nat.le_refl _) HR.out.bel (.int .u8 0) (.int .i64 0) (.string ⟨#[]⟩) (.slice none 0 0)).drew
      refine bodyPost_ret (results_cell_row3 rfl _ _ _ w.heap.size 24 gz (0, 0) _ rfl h9 rfl Tryd.underlying24 size_guard) rfl ?_
      exact ⟨gz, zeroG, p, 170, rfl, gin_zero _ _, b9, .bad HS.out.2 HWH.out⟩
    | some v =>
      obtain ⟨rfl, qq, rfl⟩ := hr
      obtain ⟨d, hd, hdl⟩ := (Wh_wf HS.out.2 hwh).2 g rfl
      have hX := H5.P.liv qq rfl
      generalize what (tkAt (numsOf S) qq) = u at hX
      generalize ((qq + (tok ((numsOf S).drop qq)).2 : Nat) : Int) = x at hX
      generalize txt (tkAt (numsOf S) qq) = tt at hX
      generalize num (tkAt (numsOf S) qq) = n at hX
      obtain ⟨⟨c0, c1, c2, c3, c4, c5, c6⟩, _, _, _, _, _, _⟩ := row7_cells hX
      have DP := depth_any hd _ _ w5 (by have := HS.out.2; omega) HR.out.G
      have HWH : Hid (Wh (numsOf S) p (some g) ∧ g.dp = d) := ⟨hwh, hd.dp⟩
      have hdI : (d : Int) ≤ 16384 := by have := HS.out.2; omega
      unfold gA at DP
      clear H5 hX hwh HW hd hdl
      go_wp2_with fail
      refine DP.mono ?_
      rintro e w6 ⟨rfl, hb6⟩
      have H6 := HR.out.below hb6
      have HR6 : Hid (RdW S w B (gA ka na ta qa la ca) g (.live qq) w6) := H6
      clear DP x0 x1 x2 x3 f0 f1 f2 f3 y0 y1 y2 y3 c0 c1 c2 c3 c4 c5 c6 HR hb6
      obtain ⟨⟨x0, x1, x2, x3⟩, f0, f1, f2, f3⟩ := row4_cells H6.z
      obtain ⟨⟨y0, y1, y2, y3⟩, _, _, _, _⟩ := row4_cells H6.bx
      clear H6
      simp only []
      by_cases h32 : 32 < d
      · have q1 : (32 : Int) < (d : Int) := by omega
        have HD : Hid (32 < g.dp) := by show 32 < _; rw [HWH.out.2]; exact h32
        clear h32
        go_wp2_with fail
        refine bodyPost_ret (results_cell_row3 rfl _ _ _ w.heap.size 24 gz (0, 0) _ rfl (set4_heap HR6.out.z _ _ _ _) rfl Tryd.underlying24 size_guard) rfl ?_
        exact ⟨gz, zeroG, 0, 161, rfl, gin_zero _ _, below_set4 (Nat.le_refl _) HR6.out.bel _ _ _ _, .deep HS.out.2 HWH.out.1 HD.out⟩
      · have q1 : ¬ (32 : Int) < (d : Int) := by omega
        have HD : Hid (g.dp ≤ 32) := by show _ ≤ 32; rw [HWH.out.2]; omega
        clear h32
        go_wp2_with fail
        refine bodyPost_ret (results_cell_row3 rfl _ _ _ w.heap.size 24 (gA ka na ta qa la ca) (0, 0) _ rfl (set4_heap HR6.out.z _ _ _ _) rfl Tryd.underlying24 size_guard) rfl ?_
        exact ⟨gA ka na ta qa la ca, g, 0, 0, rfl, (HR6.out.G.grown (set4_grown _ _ _ _ _ _) (fun i hi => by omega)).wk (fun i hi => by omega), below_set4 (Nat.le_refl _) HR6.out.bel _ _ _ _, .ok HS.out.2 HWH.out.1 HD.out⟩
end Go.Proofs.YtkcmidhpbaepoaaDoor.G
