/-
  Parts handed in, and how long their texts are.
-/
import Derived.Test.YthebnealkekdmaaJ06
import Derived.Test.YthebnealkekdmaaJ02
import Derived.Test.YthebnealkekdmaaRows
namespace Go.Proofs.Ythebnealkekdmaa
open Go.RowKit Go.WideShapes

def aggP (p : PartV) : Value := .agg #[.int .u8 p.kind, .int .i64 p.int, .string p.text]
theorem cutE_some (k i : Int) (t : ByteArray) (r : List Nat) : cutE (some (⟨k, i, t⟩, r)) = .tuple #[.agg #[.int .u8 k, .int .i64 i, .string t], .string (strOf r), .bool true] := rfl
theorem cutE_none : cutE none = .tuple #[.agg #[.int .u8 0, .int .i64 0, .string ByteArray.empty], .string ByteArray.empty, .bool false] := rfl
theorem cut1_num {s : ByteArray} (h : 0 < s.size) (h1 : (s[0]'h).toNat = 1) : cut1 (numsOf s) = numR (numsOf (s.extract 1 s.size)) := by
  rw [nums_cons h, cut1_cons, if_pos h1]; rfl
theorem cut1_word {s : ByteArray} (h : 0 < s.size) (h1 : (s[0]'h).toNat = 2) : cut1 (numsOf s) = (unesc (numsOf (s.extract 1 s.size))).map wordR := by
  rw [nums_cons h, cut1_cons, if_neg (by omega), if_pos h1]; rfl
theorem cut1_bad {s : ByteArray} (h : 0 < s.size) (h1 : (s[0]'h).toNat ≠ 1) (h2 : (s[0]'h).toNat ≠ 2) : cut1 (numsOf s) = none := by
  rw [nums_cons h, cut1_cons, if_neg h1, if_neg h2]
set_option maxRecDepth 8000 in
set_option maxHeartbeats 4000000 in
theorem cutPart_any (s : ByteArray) (w : World) (h0 : 0 < s.size) (hs : (s.size : Int) ≤ 1000) (R : Option (PartV × List Nat)) (hR : cut1 (numsOf s) = R) :
    Calls Try.prog 31 #[.string s] w fun e w' => e = .returned (cutE R) ∧ Below w.heap.size w w' := by
  have h0I : (0 : Int) < (s.size : Int) := by omega
  have h1I : (1 : Int) ≤ (s.size : Int) := by omega
  have hxs : ((s.extract 1 s.size).size : Int) ≤ 1000 := by simp [ByteArray.size_extract]; omega
  obtain ⟨d, hd⟩ : ∃ d, (s[0]'h0).toNat = d := ⟨_, rfl⟩
  by_cases h1 : d = 1
  · have g1 : ((d : Int) == 1) = true := by simp [h1]
    have HC := fun w' => cutNum_any (s.extract 1 s.size) w' hxs R (by rw [← hR, cut1_num h0 (hd.trans h1)])
    clear hR h1 hxs
    go_enter Try.func31, Try.ntmps31
    go_wp2_with fail
    refine (HC _).mono ?_
    rintro e w2 ⟨rfl, hb2⟩
    have HK2 : Hid (Keeps w w2) := kpW kpB hb2
    obtain ⟨⟨⟨c0, z0⟩, ⟨c1, z1⟩, c2, z2⟩, _⟩ := HK2.out
    clear hb2 HC
    cases R with
    | none =>
      rw [cutE_none]
      go_wp2
      (try simp only [Exit.inBlock, Exit.then])
      refine bodyPost_ret (v := .tuple #[.agg #[.int .u8 0, .int .i64 0, .string ByteArray.empty], .string ByteArray.empty, .bool false]) ?_ rfl ⟨rfl, set3_below HK2.out.2⟩
      rw [results_cell_tmp2 rfl]
      go_simp
    | some q =>
      obtain ⟨⟨k, i, t⟩, r⟩ := q
      rw [cutE_some]
      go_wp2
      (try simp only [Exit.inBlock, Exit.then])
      refine bodyPost_ret (v := .tuple #[.agg #[.int .u8 k, .int .i64 i, .string t], .string (strOf r), .bool true]) ?_ rfl ⟨rfl, set3_below HK2.out.2⟩
      rw [results_cell_tmp2 rfl]
      go_simp
  · have g1 : ((d : Int) == 1) = false := by simp; omega
    by_cases h2 : d = 2
    · have g2 : ((d : Int) == 2) = true := by simp [h2]
      have HC := fun w' => cutWord_any (s.extract 1 s.size) w' hxs _ rfl
      rw [← cut1_word h0 (hd.trans h2), hR] at HC
      clear hR h1 h2 hxs
      go_enter Try.func31, Try.ntmps31
      go_wp2_with fail
      refine (HC _).mono ?_
      rintro e w2 ⟨rfl, hb2⟩
      have HK2 : Hid (Keeps w w2) := kpW kpB hb2
      obtain ⟨⟨⟨c0, z0⟩, ⟨c1, z1⟩, c2, z2⟩, _⟩ := HK2.out
      clear hb2 HC
      cases R with
      | none =>
        rw [cutE_none]
        go_wp2
        (try simp only [Exit.inBlock, Exit.then])
        refine bodyPost_ret (v := .tuple #[.agg #[.int .u8 0, .int .i64 0, .string ByteArray.empty], .string ByteArray.empty, .bool false]) ?_ rfl ⟨rfl, set3_below HK2.out.2⟩
        rw [results_cell_tmp2 rfl]
        go_simp
      | some q =>
        obtain ⟨⟨k, i, t⟩, r⟩ := q
        rw [cutE_some]
        go_wp2
        (try simp only [Exit.inBlock, Exit.then])
        refine bodyPost_ret (v := .tuple #[.agg #[.int .u8 k, .int .i64 i, .string t], .string (strOf r), .bool true]) ?_ rfl ⟨rfl, set3_below HK2.out.2⟩
        rw [results_cell_tmp2 rfl]
        go_simp
    · have g2 : ((d : Int) == 2) = false := by simp; omega
      have HN : Hid (R = none) := by show R = none; rw [← hR]; exact cut1_bad h0 (by rw [hd]; exact h1) (by rw [hd]; exact h2)
      clear hR h1 h2 hxs
      go_enter Try.func31, Try.ntmps31
      go_wp2
      (try simp only [Exit.inBlock, Exit.then])
      refine bodyPost_ret (v := cutE R) ?_ rfl ⟨rfl, below_alloc _ _⟩
      rw [results_cell_tmp2 rfl, HN.out]
      go_simp
      rfl
end Go.Proofs.Ythebnealkekdmaa
namespace Go.Proofs.Ythebnealkekdmaa
open Go.RowKit Go.WideShapes

def cellsP (l : List PartV) : List Value := l.flatMap fun p => [.int .u8 p.kind, .int .i64 p.int, .string p.text]
theorem cellsP_len (l : List PartV) : (cellsP l).length = l.length * 3 := by
  induction l with
  | nil => rfl
  | cons p l ih => simp only [cellsP, List.flatMap_cons, List.length_append, List.length_cons, List.length_nil] at *; omega
theorem cellsP_app (l m : List PartV) : cellsP (l ++ m) = cellsP l ++ cellsP m := by simp [cellsP]
theorem cellsP_at : ∀ (l : List PartV) (i : Nat), i < l.length → (cellsP l)[i * 3]? = some (.int .u8 (l.getD i zeroP).kind) ∧ (cellsP l)[i * 3 + 1]? = some (.int .i64 (l.getD i zeroP).int) ∧ (cellsP l)[i * 3 + 2]? = some (.string (l.getD i zeroP).text)
  | p :: l, 0, _ => ⟨rfl, rfl, rfl⟩
  | p :: l, i + 1, hi => by
    have := cellsP_at l i (by simpa using hi)
    rw [show (i + 1) * 3 = i * 3 + 1 + 1 + 1 from by omega]
    simpa [cellsP, List.getD] using this
  | [], _, h => by simp at h
def PtOwn (w : World) (base : Nat) (v : Value) (l : List PartV) : Prop := w.ownsRow base 26 3 v l.length (cellsP l)
theorem ptown_nil (w : World) (base : Nat) : PtOwn w base (.slice none 0 0) [] := World.ownsRow_nil _ _ _ _
theorem PtOwn.form {w : World} {base : Nat} {v : Value} {l : List PartV} (h : PtOwn w base v l) : ∃ q m, v = .slice q l.length m ∧ l.length ≤ m ∧ m ≤ maxLen ∧ (q = none → m = 0) := by
  rcases h.2 with ⟨hv, hn⟩ | ⟨g, cap, cur, hv, _, _, h1, h2, _⟩
  · exact ⟨none, 0, by rw [hv, hn], by omega, by unfold maxLen; omega, fun _ => rfl⟩
  · exact ⟨_, cap, hv, h1, h2, fun h => by cases h⟩
theorem PtOwn.pts {w : World} {base : Nat} {q : Option Addr} {n m : Nat} {l : List PartV} (h : PtOwn w base (.slice q n m) l) : PtsIn w q l := by
  intro hp
  rcases h.2 with ⟨_, hn⟩ | ⟨g, cap, cur, hv, hb, hg, hle, hmax, hsz, htk⟩
  · omega
  · simp only [Value.slice.injEq] at hv
    obtain ⟨rfl, rfl, rfl⟩ := hv
    refine ⟨g, 0, rfl, fun i hi => ?_⟩
    obtain ⟨c0, c1, c2⟩ := cellsP_at l i hi
    exact ⟨by rw [Nat.zero_add, World.ownsRow.cellAt h _ (by omega), c0], by rw [Nat.zero_add, World.ownsRow.cellAt h _ (by omega), c1], by rw [Nat.zero_add, World.ownsRow.cellAt h _ (by omega), c2]⟩
theorem PtOwn.below {w w' : World} {base : Nat} {v : Value} {l : List PartV} (h : PtOwn w base v l) (hb : Below w.heap.size w w') : PtOwn w' base v l := own_below h hb
theorem info_part : (Try.prog.info? 26).map (fun i => (i.zero, i.size, i.bytes)) = some (some (.agg #[.int .u8 0, .int .i64 0, .string ByteArray.empty]), 3, 32) := by kernel_rfl
theorem info_parts' {P : Program} {t : TypeId} {z : Option Value} {s b : Nat} (h : (P.info? t).map (fun i => (i.zero, i.size, i.bytes)) = some (z, s, b)) : ∃ i, P.info? t = some i ∧ i.zero = z ∧ i.size = s ∧ i.bytes = b := by
  cases hi : P.info? t with
  | none => rw [hi] at h; cases h
  | some i => rw [hi] at h; simp at h; exact ⟨i, rfl, h.1, h.2.1, h.2.2⟩
theorem part_cells (w : World) (a b c : Value) (t : TypeId) : ∀ j u, [a, b, c][j]? = some u → (w.alloc (.cells #[a, b, c] t)).cell? ((⟨w.heap.size, 0, none⟩ : Addr).add j) = some u := by
  intro j u hj
  have hh := heap_alloc_new w (.cells #[a, b, c] t)
  have e : (⟨w.heap.size, 0, none⟩ : Addr).add j = ⟨w.heap.size, j, none⟩ := by simp [Addr.add]; intro h; omega
  rw [e, Lib.cell_of_heap hh]
  simpa using hj
theorem part_one (k i : Int) (t : ByteArray) : ∀ u ∈ [Value.int .u8 k, .int .i64 i, .string t], u.oneCell' = true := by
  intro u hu
  simp only [List.mem_cons, List.not_mem_nil, or_false] at hu
  rcases hu with rfl | rfl | rfl <;> rfl
structure OnC (w : World) (s : ByteArray) (rest : ByteArray) (l : List PartV) (v : Value) (wr : World) : Prop where
  own : PtOwn wr w.heap.size v l
  bel : Below w.heap.size w wr
  cut : OnCut (numsOf s) l (numsOf rest)
theorem OnC.below {w : World} {s rest : ByteArray} {l : List PartV} {v : Value} {wr w' : World} (h : OnC w s rest l v wr) (hb : Below wr.heap.size wr w') : OnC w s rest l v w' := ⟨h.own.below hb, below_bt h.bel hb, h.cut⟩
theorem on_start (w : World) (s : ByteArray) (h : s.size ≤ 256) : OnC w s s [] (.slice none 0 0) w := ⟨ptown_nil _ _, Below.refl _ _, ⟨by simp, by simp, by simp [keyN], numsOf_lt s, by rw [numsOf_len]; exact h⟩⟩
theorem rest_size {x rest r : List Nat} {l : List PartV} {p : PartV} (h : OnCut x l rest) (hc : cut1 rest = some (p, r)) : r.length < rest.length ∧ (∀ c ∈ r, c < 256) := by
  obtain ⟨_, h2⟩ := cut1_only (fun c hc => h.byte c (by rw [h.split]; simp [hc])) hc
  obtain ⟨c, z, hz⟩ := bytesP_pos p
  refine ⟨?_, fun c hc => h.byte c (by rw [h.split, h2]; simp [hc])⟩
  rw [h2, hz]
  simp
  omega
set_option maxRecDepth 8000 in
set_option maxHeartbeats 4000000 in
theorem Cut_any (s : ByteArray) (w : World) (hs : (s.size : Int) ≤ 1000000) (L : List PartV) (E : Nat) (hR : cutR (numsOf s) = (L, E)) :
    Calls Try.prog 14 #[.string s] w fun e w' => ∃ v, e = .returned (.tuple #[v, .int .i64 E]) ∧ PtOwn w' w.heap.size v L ∧ Below w.heap.size w w' := by
  have HR : Hid (cutR (numsOf s) = (L, E)) := hR
  by_cases hl : 256 < s.size
  · have g1 : decide ((256 : Int) < (s.size : Int)) = true := decide_eq_true (by omega)
    have HE : Hid (L = [] ∧ E = 60) := by
      have h2 : cutR (numsOf s) = ([], 60) := cutR_no fun l h => by have := h.len; rw [numsOf_len] at this; omega
      rw [h2] at hR
      simp only [Prod.mk.injEq] at hR
      exact ⟨hR.1.symm, hR.2.symm⟩
    clear hR hl
    go_enter Try.func14, Try.ntmps14
    go_wp2
    go_ret2
    exact ⟨.slice none 0 0, by rw [HE.out.2]; rfl, by rw [HE.out.1]; exact ptown_nil _ _, Below.refl _ _⟩
  have g1 : decide ((256 : Int) < (s.size : Int)) = false := decide_eq_false (by omega)
  have HS : Hid (s.size ≤ 256) := by show _ ≤ _; omega
  obtain ⟨i0, hi, hz0, hz1, hz2⟩ := info_parts' info_part
  clear hR hl hs
  go_enter Try.func14, Try.ntmps14
  go_wp2
  go_loopw [0, 4] (fun v0 v4 wr => ∃ rest l, v0 = .string rest ∧ OnC w s rest l v4 wr) (fun v0 _ _ => strLen v0)
  case atStart => exact ⟨s, [], rfl, on_start w s HS.out⟩
  case round =>
    obtain ⟨rest, l, rfl, hon⟩ := hrel
    obtain ⟨q, m, rfl, _, _, _⟩ := hon.own.form
    have HON : Hid (OnC w s rest l (.slice q l.length m) wr) := hon
    have HRS : Hid (rest.size ≤ 256) := by
      have h1 := hon.cut.len
      rw [hon.cut.split, List.length_append, numsOf_len] at h1
      show _ ≤ _
      omega
    have hl8 : (l.length : Int) ≤ 8 := by have := hon.cut.many; omega
    clear hon
    by_cases h0 : rest.size = 0
    · have g2 := empty_of h0
      have HE : Hid (L = l ∧ E = 0) := by
        have h1 := HON.out.cut
        rw [nums_nil h0] at h1
        have h2 := h1.done
        rw [HR.out] at h2
        simp only [Prod.mk.injEq] at h2
        exact h2
      clear h0
      go_wp2
      go_ret2
      exact ⟨_, by rw [HE.out.2]; rfl, by rw [HE.out.1]; exact HON.out.own, HON.out.bel⟩
    · have hpos : 0 < rest.size := by omega
      have g2 := nonempty_of hpos
      have HNE : Hid (numsOf rest ≠ []) := by intro e; have := congrArg List.length e; rw [numsOf_len] at this; exact absurd this (show ¬ rest.size = 0 by omega)
      obtain ⟨R, hR⟩ : ∃ R, cut1 (numsOf rest) = R := ⟨_, rfl⟩
      have HC := fun w' => cutPart_any rest w' hpos (by have := HRS.out; omega) R hR
      have HCR : Hid (cut1 (numsOf rest) = R) := hR
      clear h0 hR
      go_wp2_with fail
      refine (HC _).mono ?_
      rintro e w2 ⟨rfl, hb2⟩
      have H2 : Hid (OnC w s rest l (.slice q l.length m) w2) := HON.out.below hb2
      clear hb2 HC HON
      cases R with
      | none =>
        have HE : Hid (L = [] ∧ E = 60) := by
          have h2 := H2.out.cut.no HNE.out (.inl HCR.out)
          rw [HR.out] at h2
          simp only [Prod.mk.injEq] at h2
          exact h2
        rw [cutE_none]
        go_wp2
        go_ret2
        exact ⟨.slice none 0 0, by rw [HE.out.2]; rfl, by rw [HE.out.1]; exact ptown_nil _ _, below_bt H2.out.bel (below_alloc _ _)⟩
      | some pr =>
        obtain ⟨⟨pk, pi, pt⟩, r⟩ := pr
        rw [cutE_some]
        by_cases h8 : l.length = 8
        · have g3 : ((l.length : Int) == 8) = true := by simp [h8]
          have HE : Hid (L = [] ∧ E = 60) := by
            have h2 := H2.out.cut.no HNE.out (.inr h8)
            rw [HR.out] at h2
            simp only [Prod.mk.injEq] at h2
            exact h2
          clear h8
          go_wp2
          go_ret2
          exact ⟨.slice none 0 0, by rw [HE.out.2]; rfl, by rw [HE.out.1]; exact ptown_nil _ _, below_bt H2.out.bel (below_alloc _ _)⟩
        · have g3 : ((l.length : Int) == 8) = false := by simp; omega
          have HNX : Hid (OnCut (numsOf s) (l ++ [⟨pk, pi, pt⟩]) (numsOf (strOf r)) ∧ (strOf r).size < rest.size) := by
            have h1 := rest_size H2.out.cut HCR.out
            have h2 := H2.out.cut.next HCR.out h8
            refine ⟨by rw [nums_strOf h1.2]; exact h2, ?_⟩
            rw [strOf_size]
            have := h1.1
            rw [numsOf_len] at this
            exact this
          have hown4 := (H2.out.own.below (below_alloc w2 (.cells #[.int .u8 pk, .int .i64 pi, .string pt] 26))).below (below_alloc _ (.cells #[.int .u8 pk, .int .i64 pi, .string pt] 26))
          have HOW : Hid (PtOwn ((w2.alloc (.cells #[.int .u8 pk, .int .i64 pi, .string pt] 26)).alloc (.cells #[.int .u8 pk, .int .i64 pi, .string pt] 26)) w.heap.size (.slice q l.length m) l) := hown4
          have HBE : Hid (Below w.heap.size w ((w2.alloc (.cells #[.int .u8 pk, .int .i64 pi, .string pt] 26)).alloc (.cells #[.int .u8 pk, .int .i64 pi, .string pt] 26))) := below_bt (below_bt H2.out.bel (below_alloc _ _)) (below_alloc _ _)
          have HCL : Hid (∀ j u, [Value.int .u8 pk, .int .i64 pi, .string pt][j]? = some u → ((w2.alloc (.cells #[.int .u8 pk, .int .i64 pi, .string pt] 26)).alloc (.cells #[.int .u8 pk, .int .i64 pi, .string pt] 26)).cell? ((⟨w2.heap.size + 1, 0, none⟩ : Addr).add j) = some u) := by
            have h := part_cells (w2.alloc (.cells #[.int .u8 pk, .int .i64 pi, .string pt] 26)) (.int .u8 pk) (.int .i64 pi) (.string pt) 26
            rw [show (w2.alloc (.cells #[.int .u8 pk, .int .i64 pi, .string pt] 26)).heap.size = w2.heap.size + 1 by simp] at h
            exact h
          have HL9 : Hid (l.length ≤ 8) := by show _ ≤ _; omega
          clear h8 hown4
          go_wp2_with (at_builtin; go_loud (refine wpList_append_own _ rfl _ _ 28 rfl w.heap.size 26 i0 _ 3 32 Try.underlying28 hi hz0 hz1 hz2 rfl (by omega) _ _ _ rfl HOW.out ⟨w2.heap.size + 1, 0, none⟩ 1 1 [.int .u8 pk, .int .i64 pi, .string pt] rfl rfl HCL.out (part_one pk pi pt) (by have := HL9.out; unfold maxLen; omega) (by have := HL9.out; omega) HBE.out.size ?_); intro va ua hoa hga _)
          have HNW : Hid (OnC w s (strOf r) (l ++ [⟨pk, pi, pt⟩]) va ua) := by
            refine ⟨?_, HBE.out.grown hga HBE.out.size (fun k hk => (World.ownsRow.lt HOW.out k hk).1), HNX.out.1⟩
            unfold PtOwn
            rw [cellsP_app, List.length_append]
            exact hoa
          clear hoa hga
          go_roundw
          case rel => exact ⟨strOf r, _, rfl, HNW.out⟩
          case measure => exact HNX.out.2
end Go.Proofs.Ythebnealkekdmaa
namespace Go.Proofs.Ythebnealkekdmaa
open Go.RowKit Go.WideShapes

set_option maxRecDepth 8000 in
set_option maxHeartbeats 4000000 in
theorem same_any (qa qb : Option Addr) (na nb ca cb : Nat) (a b : List PartV) (w : World) (hna : na = a.length) (hnb : nb = b.length) (ha : PtsIn w qa a) (hb : PtsIn w qb b) (hla : (na : Int) ≤ 1000000) (hlb : (nb : Int) ≤ 1000000) (r : Bool) (hr : r = true ↔ a = b) :
    Calls Try.prog 21 #[.slice qa na ca, .slice qb nb cb] w fun e w' => e = .returned (.bool r) ∧ Below w.heap.size w w' := by
  have HA : Hid (PtsIn w qa a) := ha
  have HB : Hid (PtsIn w qb b) := hb
  have HN : Hid (na = a.length ∧ nb = b.length) := ⟨hna, hnb⟩
  have HR : Hid (r = true ↔ a = b) := hr
  clear ha hb hna hnb hr
  by_cases hne : na = nb
  · subst hne
    go_enter Try.func21, Try.ntmps21
    go_wp2
    go_loopw [5] (fun i wr => ∃ k : Nat, k ≤ na ∧ i = .int .i64 k ∧ Below w.heap.size w wr ∧ Hid (∀ j, j < k → a.getD j zeroP = b.getD j zeroP)) (fun i _ => na - (intOf i).toNat)
    case atStart => exact ⟨0, by omega, rfl, Below.refl _ _, fun j hj => absurd hj (by omega)⟩
    case round =>
      obtain ⟨k, hk, rfl, hbel, hall⟩ := hrel
      have HBE : Hid (Below w.heap.size w wr) := hbel
      clear hbel
      by_cases hkn : k < na
      · have g1 : decide (k < na) = true := decide_eq_true hkn
        have hkI : (k : Int) < (na : Int) := by omega
        obtain ⟨ba, oa, rfl⟩ := HA.out.addr (by have := HN.out; omega)
        obtain ⟨bb, ob, rfl⟩ := HB.out.addr (by have := HN.out; omega)
        obtain ⟨x, hx⟩ : ∃ x, a.getD k zeroP = x := ⟨_, rfl⟩
        obtain ⟨y, hy⟩ : ∃ y, b.getD k zeroP = y := ⟨_, rfl⟩
        obtain ⟨xk, xi, xt⟩ := x
        obtain ⟨yk, yi, yt⟩ := y
        obtain ⟨x0, x1, x2⟩ := ptcells (HA.out.below HBE.out) (by have := HN.out; omega) hx
        obtain ⟨y0, y1, y2⟩ := ptcells (HB.out.below HBE.out) (by have := HN.out; omega) hy
        have HK : Hid (k < na ∧ k < a.length ∧ k < b.length) := ⟨hkn, by have := HN.out; omega, by have := HN.out; omega⟩
        have HXY : Hid (a.getD k zeroP = ⟨xk, xi, xt⟩ ∧ b.getD k zeroP = ⟨yk, yi, yt⟩) := ⟨hx, hy⟩
        have HNO : Hid ((⟨xk, xi, xt⟩ : PartV) ≠ ⟨yk, yi, yt⟩ → r = false) := fun h => by
          rw [Bool.eq_false_iff]
          intro e
          have := HR.out.1 e
          subst this
          exact h (HXY.out.1.symm.trans HXY.out.2)
        clear hx hy hkn
        by_cases e0 : xk = yk
        · subst e0
          by_cases e1 : xi = yi
          · subst e1
            by_cases e2 : xt = yt
            · subst e2
              have HM : Hid (∀ j, j < k + 1 → a.getD j zeroP = b.getD j zeroP) := fun j hj => by
                rcases Nat.lt_or_ge j k with h' | h'
                · exact hall.out j h'
                · obtain rfl : j = k := by omega
                  rw [HXY.out.1, HXY.out.2]
              clear hall
              go_wp2
              go_quiet (fail)
              have HBE2 : Hid (Below w.heap.size w (wr.drewN nq)) := below_bt HBE.out (below_dr wr nq)
              go_wp2
              go_roundw
              case rel => exact ⟨k + 1, by have := HK.out; omega, by go_num, HBE2.out, HM⟩
              case measure => have := HK.out; simp [intOf]; omega
            · have g3 : (xt.toList == yt.toList) = false := by rw [ByteArray.toList_eq, ByteArray.toList_eq]; exact beq_eq_false_iff_ne.2 (fun h => e2 (ba_ext.1 h))
              have HE : Hid (r = false) := HNO.out (by intro h; injection h with _ _ h; exact e2 h)
              clear e2 hall
              go_wp2
              go_quiet (fail)
              have HBE2 : Hid (Below w.heap.size w (wr.drewN nq)) := below_bt HBE.out (below_dr wr nq)
              go_wp2
              go_ret
              exact ⟨by rw [HE.out]; rfl, HBE2.out⟩
          · have g3 : (xi == yi) = false := by simpa using e1
            have HE : Hid (r = false) := HNO.out (by intro h; injection h with _ h _; exact e1 h)
            clear e1 hall
            go_wp2
            go_quiet (fail)
            have HBE2 : Hid (Below w.heap.size w (wr.drewN nq)) := below_bt HBE.out (below_dr wr nq)
            go_wp2
            go_ret
            exact ⟨by rw [HE.out]; rfl, HBE2.out⟩
        · have g3 : (xk == yk) = false := by simpa using e0
          have HE : Hid (r = false) := HNO.out (by intro h; injection h with h _ _; exact e0 h)
          clear e0 hall
          go_wp2
          go_quiet (fail)
          have HBE2 : Hid (Below w.heap.size w (wr.drewN nq)) := below_bt HBE.out (below_dr wr nq)
          go_wp2
          go_ret
          exact ⟨by rw [HE.out]; rfl, HBE2.out⟩
      · obtain rfl : k = na := by omega
        have HE : Hid (r = true) := HR.out.2 (by
          apply List.ext_getElem (by have := HN.out; omega)
          intro i h1 h2
          have := hall.out i (by have := HN.out; omega)
          rw [List.getD_eq_getElem?_getD, List.getD_eq_getElem?_getD, List.getElem?_eq_getElem h1, List.getElem?_eq_getElem h2] at this
          exact this)
        clear hall hkn
        go_wp2
        go_ret
        exact ⟨by rw [HE.out]; rfl, HBE.out⟩
  · have g1 : ((na : Int) == (nb : Int)) = false := by simp; omega
    have g2 : (na == nb) = false := by simpa using hne
    have HE : Hid (r = false) := by
      show r = false
      rw [Bool.eq_false_iff]
      intro e
      have := HR.out.1 e
      subst this
      exact hne (HN.out.1.trans HN.out.2.symm)
    clear hne
    go_enter Try.func21, Try.ntmps21
    go_wp2
    go_ret
    exact ⟨by rw [HE.out]; rfl, Below.refl _ _⟩
end Go.Proofs.Ythebnealkekdmaa
namespace Go.Proofs.Ythebnealkekdmaa
open Go.RowKit Go.WideShapes

def aliveL : List PartV := [⟨2, 0, ⟨#[99, 97, 115, 101]⟩⟩, ⟨1, 7, ByteArray.empty⟩]
def aliveS : ByteArray := ⟨#[2, 99, 97, 115, 101, 0, 1, 1, 128, 0, 0, 0, 0, 0, 0, 7]⟩
theorem alive_key : keyN aliveL = numsOf aliveS := by kernel_rfl
theorem alive_ok : ∀ p ∈ aliveL, OkP p := by
  intro p hp
  simp only [aliveL, List.mem_cons, List.not_mem_nil, or_false] at hp
  rcases hp with rfl | rfl
  · exact ⟨.inr ⟨rfl, rfl⟩, by show wf64 0; unfold wf64; omega⟩
  · exact ⟨.inl ⟨rfl, rfl⟩, by show wf64 7; unfold wf64; omega⟩
theorem alive_is : IsKey (numsOf aliveS) aliveL := ⟨by show 2 ≤ 8; omega, alive_ok, alive_key, by rw [numsOf_len]; show 16 ≤ 256; omega⟩
theorem alive_make : makeR aliveL = (aliveS, 0) := by rw [makeR_of alive_is, strOf_nums]
theorem alive_cut : cutR (numsOf aliveS) = (aliveL, 0) := cutR_yes alive_is
theorem alive_wf : ∀ p ∈ aliveL, WfP p := by
  intro p hp
  have hi := (alive_ok p hp).int
  simp only [aliveL, List.mem_cons, List.not_mem_nil, or_false] at hp
  rcases hp with rfl | rfl
  · exact ⟨⟨by show (0 : Int) ≤ 2; omega, by show (2 : Int) ≤ 255; omega⟩, hi, by show 4 ≤ maxLen; unfold maxLen; omega⟩
  · exact ⟨⟨by show (0 : Int) ≤ 1; omega, by show (1 : Int) ≤ 255; omega⟩, hi, by show 0 ≤ maxLen; omega⟩
theorem alive_text : ∀ p ∈ aliveL, p.text.size ≤ 2000000 := by
  intro p hp
  simp only [aliveL, List.mem_cons, List.not_mem_nil, or_false] at hp
  rcases hp with rfl | rfl
  · show 4 ≤ 2000000; omega
  · show 0 ≤ 2000000; omega
theorem row_parts (w : World) (l : List PartV) : PtsIn (w.alloc (.cells (cellsP l).toArray 26)) (some ⟨w.heap.size, 0, none⟩) l := by
  intro _
  refine ⟨w.heap.size, 0, rfl, fun i hi => ?_⟩
  obtain ⟨c0, c1, c2⟩ := cellsP_at l i hi
  have hh := heap_alloc_new w (.cells (cellsP l).toArray 26)
  refine ⟨?_, ?_, ?_⟩
  · rw [Lib.cell_of_heap hh, Nat.zero_add]; simpa using c0
  · rw [Lib.cell_of_heap hh, Nat.zero_add]; simpa using c1
  · rw [Lib.cell_of_heap hh, Nat.zero_add]; simpa using c2
set_option maxRecDepth 8000 in
set_option maxHeartbeats 4000000 in
theorem alive_any (w : World) : Calls Try.prog 15 #[] w fun e w' => e = .returned (.bool true) ∧ Below w.heap.size w w' := by
  go_enter Try.func15, Try.ntmps15
  go_wp2_with fail
  refine (word_agg ⟨#[99, 97, 115, 101]⟩ _).mono ?_
  rintro e w1 ⟨rfl, hb1⟩
  have HB1 : Hid (Below w.heap.size w w1) := hb1
  clear hb1
  go_wp2_with fail
  refine (num_agg 7 _).mono ?_
  rintro e w2 ⟨rfl, hb2⟩
  have HB2 : Hid (Below w.heap.size w w2) := below_bt HB1.out hb2
  clear hb2
  have HP3 : Hid (PtsIn (w2.alloc (.cells #[.int .u8 2, .int .i64 0, .string ⟨#[99, 97, 115, 101]⟩, .int .u8 1, .int .i64 7, .string ByteArray.empty] 26)) (some ⟨w2.heap.size, 0, none⟩) aliveL) := row_parts w2 aliveL
  have HB3 : Hid (Below w.heap.size w (w2.alloc (.cells #[.int .u8 2, .int .i64 0, .string ⟨#[99, 97, 115, 101]⟩, .int .u8 1, .int .i64 7, .string ByteArray.empty] 26))) := below_bt HB2.out (below_alloc _ _)
  go_wp2_with fail
  refine (Make_any (some ⟨w2.heap.size, 0, none⟩) 2 2 aliveL _ ⟨rfl, HP3.out, alive_wf, alive_text⟩ (by omega) _ alive_make).mono ?_
  rintro e w4 ⟨rfl, hb4⟩
  rw [show makeE (aliveS, 0) = .tuple #[.string ⟨#[2, 99, 97, 115, 101, 0, 1, 1, 128, 0, 0, 0, 0, 0, 0, 7]⟩, .int .i64 0] from rfl]
  have HB4 : Hid (Below w.heap.size w w4) := below_bt HB3.out hb4
  have HP4 : Hid (PtsIn w4 (some ⟨w2.heap.size, 0, none⟩) aliveL) := HP3.out.below hb4
  clear hb4
  go_wp2_with fail
  refine (Cut_any ⟨#[2, 99, 97, 115, 101, 0, 1, 1, 128, 0, 0, 0, 0, 0, 0, 7]⟩ _ (by show (16 : Int) ≤ 1000000; omega) aliveL 0 alive_cut).mono ?_
  rintro e w5 ⟨v, rfl, ho5, hb5⟩
  obtain ⟨q, m, rfl, _, _, _⟩ := ho5.form
  have HB5 : Hid (Below w.heap.size w w5) := below_bt HB4.out hb5
  have HP5 : Hid (PtsIn w5 (some ⟨w2.heap.size, 0, none⟩) aliveL) := HP4.out.below hb5
  have HQ5 : Hid (PtsIn w5 q aliveL) := ho5.pts
  clear hb5 ho5
  go_wp2_with fail
  refine (same_any (some ⟨w2.heap.size, 0, none⟩) q 2 2 2 m aliveL aliveL _ rfl rfl HP5.out HQ5.out (by omega) (by omega) true (by simp)).mono ?_
  rintro e w6 ⟨rfl, hb6⟩
  have HB6 : Hid (Below w.heap.size w w6) := below_bt HB5.out hb6
  clear hb6
  go_wp2
  go_ret
  exact ⟨rfl, HB6.out⟩
end Go.Proofs.Ythebnealkekdmaa
namespace Go.Proofs.Ythebnealkekdmaa
open Go.RowKit Go.WideShapes Go.ChangeShapes Go.Deep Go.Joins

theorem bulk_one {H : Type} (d : DataW H) : 1 ≤ Rows.uptoBulk d := by
  cases d with
  | lit v => cases v <;> simp [Rows.uptoBulk]
  | _ => simp [Rows.uptoBulk]
theorem bulk_part {H : Type} {d : DataW H} {l : List (DataW H)} (h : d ∈ l) : Rows.uptoBulk d ≤ Rows.uptoBulkAll l := by
  induction l with
  | nil => simp at h
  | cons x r ih =>
    simp only [Rows.uptoBulkAll]
    rcases List.mem_cons.1 h with rfl | h
    · omega
    · have := ih h; omega
theorem bulk_app {H : Type} (l r : List (DataW H)) : Rows.uptoBulkAll (l ++ r) = Rows.uptoBulkAll l + Rows.uptoBulkAll r := by
  induction l with
  | nil => simp [Rows.uptoBulkAll]
  | cons x l ih => simp only [List.cons_append, Rows.uptoBulkAll, ih]; omega
theorem bulk_bound {H : Type} {l : List (DataW H)} (hk : Rows.uptoSmall H l = true) : Rows.uptoBulkAll l ≤ 1048576 := of_decide_eq_true hk
section
variable {P : Program} {w : World} {H : Type} {enc : TypeId × Value → H}
theorem open_parts2 {t e : TypeId} {f0 f1 f2 : Field} {n : Nat} {v : Value} {x : DataW H × List MemPlace} (ht : P.underlying t = some (.slice e)) (he : P.underlying e = some (.struct #[f0, f1, f2])) (ce : P.cellsOf e = 3)
    (o0 : f0.offset = 0) (o1 : f1.offset = 1) (o2 : f2.offset = 2) (c0 : P.cellsOf f0.type = 1) (c1 : P.cellsOf f1.type = 1) (c2 : P.cellsOf f2.type = 1) (k0 : P.underlying f0.type = some (.int .u8)) (k1 : P.underlying f1.type = some (.int .i64)) (k2 : P.underlying f2.type = some .string)
    (h : DataW.trod enc P w 0 (fun _ => true) true n t [v] = some x) : ∃ l, PtIn w v l ∧ ∀ p ∈ l, p.text.size ≤ Rows.uptoBulk x.1 := by
  rcases open_slice ht h with ⟨hcs, _⟩ | ⟨a, len, cap, m, k, D, Pl, hcs, _, hl, hm, hmm, hx, hel⟩
  · simp only [List.cons.injEq, and_true] at hcs
    exact ⟨[], ⟨⟨none, 0, hcs, fun h => absurd h (by simp), by simp, by unfold maxLen; omega, fun _ => rfl⟩, by simp⟩, by simp⟩
  · simp only [List.cons.injEq, and_true] at hcs
    have hmc : m = cap := by simpa using hmm
    have hbulk : ∀ i, i < len → Rows.uptoBulk (D i) ≤ Rows.uptoBulk x.1 := by
      intro i hi
      rw [hx]
      simp only [Rows.uptoBulk]
      have := bulk_part (d := D i) (l := (List.range len).map D) (List.mem_map.2 ⟨i, List.mem_range.2 hi, rfl⟩)
      omega
    have each : ∀ i, i < len → ∃ y : PartV, w.cell? (a.add (i * 3)) = some (.int .u8 y.kind) ∧ w.cell? (a.add (i * 3 + 1)) = some (.int .i64 y.int) ∧ w.cell? (a.add (i * 3 + 2)) = some (.string y.text) ∧ WfP y ∧ y.text.size ≤ Rows.uptoBulk (D i) := by
      intro i hi
      obtain ⟨cs', g1, g2⟩ := hel i (by omega)
      rw [ce] at g1
      obtain ⟨_, hlen, hcell⟩ := World.cells?_some g1
      obtain ⟨xs, k', hk, hxy, _, hxl, hf⟩ := DataW.trod_struct he g2
      match xs, hxl, cs', hlen, hxy with
      | [y0, y1, y2], _, [v0, v1, v2], _, hxy =>
        have r0 := hf 0 f0 rfl
        have r1 := hf 1 f1 rfl
        have r2 := hf 2 f2 rfl
        simp [o0, o1, o2, c0, c1, c2] at r0 r1 r2
        have e0 := hcell 0 (by omega)
        have e1 := hcell 1 (by omega)
        have e2 := hcell 2 (by omega)
        rw [add_add] at e0 e1 e2
        obtain ⟨z0, hz0, _, wz0⟩ := DataW.trod_int k0 r0
        obtain ⟨z, hz, _, wz⟩ := DataW.trod_int k1 r1
        obtain ⟨s, hs, hd, hsz⟩ := DataW.trod_string k2 r2
        simp only [List.cons.injEq, and_true] at hs hz hz0
        subst hs hz hz0
        refine ⟨⟨z0, z, s⟩, by simpa using e0, by simpa using e1, by simpa using e2, ⟨bounds_u8 wz0, bounds_i64 wz, hsz⟩, ?_⟩
        simp only [Prod.mk.injEq] at hxy
        rw [hxy.1, hd]
        simp only [Rows.uptoBulk, Rows.uptoBulkAll, List.map_cons, List.map_nil]
        have : s.data.toList.length = s.size := Array.length_toList
        omega
    haveI : Inhabited PartV := ⟨zeroP⟩
    obtain ⟨f, hf⟩ := choose_lt each
    have hlen : ((List.range len).map f).length = len := by simp
    have hget : ∀ i, i < len → ((List.range len).map f).getD i zeroP = f i := by intro i hi; simp [List.getD, hi]
    refine ⟨(List.range len).map f, ⟨⟨some a, cap, by rw [hlen]; exact hcs, fun hp => ?_, by rw [hlen]; exact hl, hm, by simp⟩, ?_⟩, ?_⟩
    · rw [hlen] at hp
      obtain ⟨b, o, s⟩ := a
      obtain rfl : s = none := by
        have := World.cell?_spot (hf 0 (by omega)).1
        simpa [Addr.add] using this
      refine ⟨b, o, rfl, fun i hi => ?_⟩
      rw [hlen] at hi
      obtain ⟨e0, e1, e2, _⟩ := hf i hi
      rw [hget i hi]
      rw [add_plain] at e0 e1 e2
      exact ⟨e0, e1, e2⟩
    · intro y hy
      simp only [List.mem_map, List.mem_range] at hy
      obtain ⟨i, hi, rfl⟩ := hy
      exact (hf i hi).2.2.2.1
    · intro y hy
      simp only [List.mem_map, List.mem_range] at hy
      obtain ⟨i, hi, rfl⟩ := hy
      exact Nat.le_trans (hf i hi).2.2.2.2 (hbulk i hi)
end
theorem parts_of {w : World} {q : Option Addr} {n c : Nat} {l : List PartV} (h : PtIn w (.slice q n c) l) (ht : ∀ p ∈ l, p.text.size ≤ 1048576) : Parts w q n l := by
  obtain ⟨q', c', e, hp, _⟩ := h.lies
  simp only [Value.slice.injEq] at e
  obtain ⟨rfl, rfl, rfl⟩ := e
  exact ⟨rfl, hp, h.wf, fun p hp => Nat.le_trans (ht p hp) (by omega)⟩
theorem cutR_is {x : List Nat} {L : List PartV} {E : Nat} (h : cutR x = (L, E)) : (E = 0 ∧ IsKey x L) ∨ (E = 60 ∧ L = []) := by
  by_cases hx : ∃ l, IsKey x l
  · obtain ⟨l, hl⟩ := hx
    rw [cutR_yes hl] at h
    simp only [Prod.mk.injEq] at h
    obtain ⟨rfl, rfl⟩ := h
    exact .inl ⟨rfl, hl⟩
  · rw [cutR_no (fun l hl => hx ⟨l, hl⟩)] at h
    simp only [Prod.mk.injEq] at h
    obtain ⟨rfl, rfl⟩ := h
    exact .inr ⟨rfl, rfl⟩
theorem isKey_wf {x : List Nat} {l : List PartV} (h : IsKey x l) : (∀ p ∈ l, WfP p) ∧ ∀ p ∈ l, p.text.size ≤ 2000000 := by
  have ht : ∀ p ∈ l, p.text.size ≤ 256 := by
    intro p hp
    rcases (h.ok p hp).may with ⟨_, h2⟩ | ⟨h1, _⟩
    · rw [h2]; show 0 ≤ 256; omega
    · have := text_le hp (by omega)
      rw [h.key] at this
      have := h.len
      omega
  refine ⟨fun p hp => ⟨?_, (h.ok p hp).int, by have := ht p hp; unfold maxLen; omega⟩, fun p hp => by have := ht p hp; omega⟩
  rcases (h.ok p hp).may with ⟨h1, _⟩ | ⟨h1, _⟩ <;> omega
end Go.Proofs.Ythebnealkekdmaa
