/-
  Records as arguments; what the statements call: alive, long.
-/
import Derived.Test.YtoagaddciapmkaaDoorANext
namespace Go.Proofs.YtoagaddciapmkaaDoor
open Go.RowKit Go.WideShapes Go.ChangeShapes Go.Deep Go.Joins

def wf64 (n : Int) : Prop := -9223372036854775808 ≤ n ∧ n ≤ 9223372036854775807
structure WfR (y : RecV) : Prop where
  seq : wf64 y.seq
  tim : wf64 y.tim
  user : y.user.size ≤ maxLen
  deed : y.deed.size ≤ maxLen
  out : wf64 y.out
  hash : y.hash.size ≤ maxLen
structure Recs (w : World) (v : Value) (l : List RecV) : Prop where
  lies : ∃ q c, v = .slice q l.length c ∧ RsIn w q l ∧ l.length ≤ c ∧ c ≤ maxLen ∧ (q = none → c = 0)
  wf : ∀ y ∈ l, WfR y
section
variable {P : Program} {w : World} {H : Type} {enc : TypeId × Value → H}
theorem open_record {e : TypeId} {f0 f1 f2 f3 f4 f5 : Field} {n : Nat} {cs : List Value} {x : DataW H × List MemPlace} (he : P.underlying e = some (.struct #[f0, f1, f2, f3, f4, f5])) (hl : cs.length = 6)
    (o0 : f0.offset = 0) (o1 : f1.offset = 1) (o2 : f2.offset = 2) (o3 : f3.offset = 3) (o4 : f4.offset = 4) (o5 : f5.offset = 5) (c0 : P.cellsOf f0.type = 1) (c1 : P.cellsOf f1.type = 1) (c2 : P.cellsOf f2.type = 1) (c3 : P.cellsOf f3.type = 1) (c4 : P.cellsOf f4.type = 1) (c5 : P.cellsOf f5.type = 1)
    (k0 : P.underlying f0.type = some (.int .i64)) (k1 : P.underlying f1.type = some (.int .i64)) (k2 : P.underlying f2.type = some .string) (k3 : P.underlying f3.type = some .string) (k4 : P.underlying f4.type = some (.int .i64)) (k5 : P.underlying f5.type = some .string)
    (h : DataW.trod enc P w 0 (fun _ => true) true n e cs = some x) : ∃ y : RecV, cs = recC y ∧ WfR y := by
  obtain ⟨xs, k', hk, hxy, _, hxl, hf⟩ := DataW.trod_struct he h
  match xs, hxl, cs, hl with
  | [y0, y1, y2, y3, y4, y5], _, [v0, v1, v2, v3, v4, v5], _ =>
    have r0 := hf 0 f0 rfl
    have r1 := hf 1 f1 rfl
    have r2 := hf 2 f2 rfl
    have r3 := hf 3 f3 rfl
    have r4 := hf 4 f4 rfl
    have r5 := hf 5 f5 rfl
    simp [o0, o1, o2, o3, o4, o5, c0, c1, c2, c3, c4, c5] at r0 r1 r2 r3 r4 r5
    obtain ⟨z0, hz0, _, w0⟩ := DataW.trod_int k0 r0
    obtain ⟨z1, hz1, _, w1⟩ := DataW.trod_int k1 r1
    obtain ⟨s2, hs2, _, w2⟩ := DataW.trod_string k2 r2
    obtain ⟨s3, hs3, _, w3⟩ := DataW.trod_string k3 r3
    obtain ⟨z4, hz4, _, w4⟩ := DataW.trod_int k4 r4
    obtain ⟨s5, hs5, _, w5⟩ := DataW.trod_string k5 r5
    simp only [List.cons.injEq, and_true] at hz0 hz1 hs2 hs3 hz4 hs5
    subst hz0 hz1 hs2 hs3 hz4 hs5
    exact ⟨⟨z0, z1, s2, s3, z4, s5⟩, rfl, ⟨bounds_i64 w0, bounds_i64 w1, w2, w3, bounds_i64 w4, w5⟩⟩
theorem open_records {t e : TypeId} {f0 f1 f2 f3 f4 f5 : Field} {n : Nat} {v : Value} {x : DataW H × List MemPlace} (ht : P.underlying t = some (.slice e)) (he : P.underlying e = some (.struct #[f0, f1, f2, f3, f4, f5])) (ce : P.cellsOf e = 6)
    (o0 : f0.offset = 0) (o1 : f1.offset = 1) (o2 : f2.offset = 2) (o3 : f3.offset = 3) (o4 : f4.offset = 4) (o5 : f5.offset = 5) (c0 : P.cellsOf f0.type = 1) (c1 : P.cellsOf f1.type = 1) (c2 : P.cellsOf f2.type = 1) (c3 : P.cellsOf f3.type = 1) (c4 : P.cellsOf f4.type = 1) (c5 : P.cellsOf f5.type = 1)
    (k0 : P.underlying f0.type = some (.int .i64)) (k1 : P.underlying f1.type = some (.int .i64)) (k2 : P.underlying f2.type = some .string) (k3 : P.underlying f3.type = some .string) (k4 : P.underlying f4.type = some (.int .i64)) (k5 : P.underlying f5.type = some .string)
    (h : DataW.trod enc P w 0 (fun _ => true) true n t [v] = some x) : ∃ l, Recs w v l := by
  rcases open_slice ht h with ⟨hcs, _⟩ | ⟨a, len, cap, m, k, D, Pl, hcs, _, hl, hm, hmm, _, hel⟩
  · simp only [List.cons.injEq, and_true] at hcs
    exact ⟨[], ⟨none, 0, hcs, fun h => absurd h (by simp), by simp, by unfold maxLen; omega, fun _ => rfl⟩, by simp⟩
  · simp only [List.cons.injEq, and_true] at hcs
    have hmc : m = cap := by simpa using hmm
    have each : ∀ i, i < len → ∃ y : RecV, (∀ k, k < 6 → w.cell? (a.add (i * 6 + k)) = (recC y)[k]?) ∧ WfR y := by
      intro i hi
      obtain ⟨cs', g1, g2⟩ := hel i (by omega)
      rw [ce] at g1
      obtain ⟨_, hlen, hcell⟩ := World.cells?_some g1
      obtain ⟨y, rfl, wy⟩ := open_record he hlen o0 o1 o2 o3 o4 o5 c0 c1 c2 c3 c4 c5 k0 k1 k2 k3 k4 k5 g2
      refine ⟨y, fun k hk => ?_, wy⟩
      have e0 := hcell k hk
      rw [add_add] at e0
      rw [e0]
    haveI : Inhabited RecV := ⟨zeroR⟩
    obtain ⟨f, hf⟩ := choose_lt each
    have hlen : ((List.range len).map f).length = len := by simp
    have hget : ∀ i, i < len → ((List.range len).map f).getD i zeroR = f i := by intro i hi; simp [List.getD, hi]
    refine ⟨(List.range len).map f, ⟨⟨some a, cap, by rw [hlen]; exact hcs, fun hp => ?_, by rw [hlen]; exact hl, hm, by simp⟩, ?_⟩⟩
    · rw [hlen] at hp
      obtain ⟨b, o, s⟩ := a
      obtain rfl : s = none := by
        have h0 : w.cell? ((⟨b, o, s⟩ : Addr).add (0 * 6 + 0)) = some (.int .i64 (f 0).seq) := (hf 0 (by omega)).1 0 (by omega)
        have := World.cell?_spot h0
        simpa [Addr.add] using this
      refine ⟨b, o, rfl, fun i hi => ?_⟩
      rw [hlen] at hi
      rw [hget i hi]
      refine recC_at fun k hk => ?_
      have e := (hf i hi).1 k hk
      rw [add_plain] at e
      rw [Nat.add_assoc]
      exact e
    · intro y hy
      simp only [List.mem_map, List.mem_range] at hy
      obtain ⟨i, hi, rfl⟩ := hy
      exact (hf i hi).2
end
def annB : ByteArray := ⟨#[97, 110, 110]⟩
def createB : ByteArray := ⟨#[99, 114, 101, 97, 116, 101]⟩
theorem misN : MisP [] (-1) := .all fun j hj => by simp at hj
theorem nextE_none {t : Int} {u d : ByteArray} {o : Int} (h : fldE t u d o = 0) : nextE [] t u d o (-1) = 0 := by
  have := (fld_ok.1 h).1
  have h0 : refE [] = 0 := rfl
  have e : (prevR [] ([] : List RecV).length).tim = 0 := rfl
  unfold nextE
  rw [if_neg (by rw [h0]; decide), if_neg (by omega), if_neg (by decide), if_neg (by rw [e]; omega)]
theorem fld_alive : fldE 5 annB createB 200 = 0 := by decide
theorem ref_one {r : RecV} (h : MayR r) : refE [r] = 0 := ref_of (by simp) (fun x hx => by rw [List.mem_singleton.1 hx]; exact h)
set_option maxHeartbeats 1000000 in
set_option maxRecDepth 8000 in
theorem alive_any (w : World) (hk : KOn w) : Calls Tryd.prog 23 #[] w fun e w' => e = .returned (.bool true) ∧ Below w.heap.size w w' := by
  have NX := Next_any none 0 0 [] 5 annB createB 200 w hk ⟨rfl, rs_nil _ _⟩ (fun _ => rfl) (by decide) (-1) misN 0 (nextE_none fld_alive)
  have hL : nextL [] 5 annB createB 200 0 = [folR firstR 5 annB createB 200] := rfl
  have hmay := fol_may (d := createB) first_ahd fld_alive
  have hmis : MisP [folR firstR 5 annB createB 200] (-1) := mis_more misN (by decide)
  have hd : (folR firstR 5 annB createB 200).deed = createB := rfl
  rw [hL] at NX
  generalize folR firstR 5 annB createB 200 = fr at NX hmay hmis hd
  go_enter Tryd.func23, Tryd.ntmps23
  go_wp2_with fail
  refine NX.mono ?_
  rintro e w1 ⟨v, rfl, on1⟩
  obtain ⟨q1, c1, rfl, hc1, hm1, hq1⟩ := on1.own.form
  have R1 := on1.own.recs
  have CK := Check_any q1 1 c1 [fr] w1 (hk.below on1.bel hk.pos) R1 (by decide) (-1) hmis 0 (ref_one hmay)
  simp only [if_true] at CK
  obtain ⟨b, o, rfl⟩ := R1.lies.addr (by simp)
  have rc := R1.lies.at (k := 0) (by simp)
  have rcd : w1.cell? ⟨b, o + 3, none⟩ = some (.string createB) := by rw [← hd]; exact rc.c3
  have B1 := on1.bel
  have HRD : Hid (∀ w', Below w1.heap.size w1 w' → w'.cell? ⟨b, o + 3, none⟩ = some (.string createB)) := fun w' hb => cellB rcd hb
  simp only [List.length_cons, List.length_nil, Nat.zero_add] at *
  clear NX on1 R1 rc rcd hmay hmis hd
  go_wp2_with (go_at_call 18; refine CK.mono ?_; rintro e w2 ⟨rfl, hb2⟩; have rcd := HRD.out w2 hb2)
  rw [show (createB.toList == [99, 114, 101, 97, 116, 101]) = true from by rw [ByteArray.toList_eq]; rfl]
  go_ret
  exact ⟨rfl, below_more B1 hb2⟩
/-- What long says no to. -/
def LongF (l : List RecV) : Prop := (l.length ≤ 60 ∧ ∀ r ∈ l, r.user.size ≤ 3000 ∧ r.deed.size ≤ 3000 ∧ r.hash.size ≤ 3000) ∨ (4096 < l.length ∧ l.length ≤ 4200)
structure LongV (l : List RecV) (e : Ending) : Prop where
  ret : ∃ b, e = .returned (.bool b) ∧ (b = false → LongF l)
inductive LongI (l : List RecV) (n : Nat) (t : Value) (w wr : World) : Prop where
  | intro (k : Nat) (hk : k ≤ n) (ht : t = .int .i64 (k : Int)) (hw : wr = w) (hz : ∀ j, j < k → (l.getD j zeroR).user.size ≤ 3000 ∧ (l.getD j zeroR).deed.size ≤ 3000 ∧ (l.getD j zeroR).hash.size ≤ 3000)
set_option maxHeartbeats 2000000 in
set_option maxRecDepth 8000 in
theorem long_any (q : Option Addr) (n c : Nat) (l : List RecV) (w : World) (h : RsL w q n l) (hnb : (n : Int) ≤ 9223372036854775807) :
    Calls Tryd.prog 24 #[.slice q n c] w fun e w' => LongV l e ∧ w' = w := by
  have HN : Hid (n = l.length) := h.n
  go_enter Tryd.func24, Tryd.ntmps24
  by_cases h60 : (60 : Int) < (n : Int)
  · by_cases h1 : (n : Int) ≤ 4096
    · go_wp2
      go_ret
      exact ⟨⟨true, rfl, fun h => by cases h⟩, rfl⟩
    · by_cases h2 : (4200 : Int) < (n : Int)
      · go_wp2
        go_ret
        exact ⟨⟨true, rfl, fun h => by cases h⟩, rfl⟩
      · have HF : Hid (LongF l) := .inr (by have := HN.out; omega)
        go_wp2
        go_ret
        exact ⟨⟨false, rfl, fun _ => HF.out⟩, rfl⟩
  have HQ : Hid (RsIn w q l) := h.lies
  have H60 : Hid (l.length ≤ 60) := by show _ ≤ _; have := HN.out; omega
  clear h
  go_wp2
  go_loopw [3] (fun t wr => LongI l n t w wr) (fun t _ => n - (intOf t).toNat)
  case atStart => exact ⟨0, by omega, rfl, rfl, fun j hj => absurd hj (by omega)⟩
  case round =>
    obtain ⟨k, hk, rfl, rfl, hz⟩ := hrel
    have HZ : Hid _ := hz
    clear hz
    by_cases hkl : k < n
    · have hkI : (k : Int) < (n : Int) := by omega
      have hkl2 : k < l.length := by have := HN.out; omega
      obtain ⟨fb, fo, rfl⟩ := HQ.out.addr (by omega)
      obtain ⟨z0, z1, z2, z3, z4, z5⟩ := HQ.out.at hkl2
      have HNX : Hid ((l.getD k zeroR).user.size ≤ 3000 ∧ (l.getD k zeroR).deed.size ≤ 3000 ∧ (l.getD k zeroR).hash.size ≤ 3000 → ∀ j, j < k + 1 → (l.getD j zeroR).user.size ≤ 3000 ∧ (l.getD j zeroR).deed.size ≤ 3000 ∧ (l.getD j zeroR).hash.size ≤ 3000) := fun h j hj => by
        rcases Nat.lt_or_ge j k with h' | h'
        · exact HZ.out j h'
        · obtain rfl : j = k := by omega
          exact h
      generalize l.getD k zeroR = r at z0 z1 z2 z3 z4 z5 HNX
      obtain ⟨s, t, u, d, o, hh⟩ := r
      simp only at z0 z1 z2 z3 z4 z5 HNX
      clear hkl2
      by_cases h1 : (3000 : Int) < (u.size : Int)
      · go_wp2
        go_ret
        exact ⟨⟨true, rfl, fun h => by cases h⟩, rfl⟩
      by_cases h2 : (3000 : Int) < (d.size : Int)
      · go_wp2
        go_ret
        exact ⟨⟨true, rfl, fun h => by cases h⟩, rfl⟩
      by_cases h3 : (3000 : Int) < (hh.size : Int)
      · go_wp2
        go_ret
        exact ⟨⟨true, rfl, fun h => by cases h⟩, rfl⟩
      have HZ2 : Hid _ := HNX.out ⟨by omega, by omega, by omega⟩
      go_wp2
      go_roundw
      case rel => exact ⟨k + 1, by omega, rfl, rfl, HZ2.out⟩
      case measure => simp [intOf]; omega
    · obtain rfl : k = n := by omega
      have HF : Hid (LongF l) := .inl ⟨H60.out, fun r hr => by
        obtain ⟨j, hj, rfl⟩ := List.getElem_of_mem hr
        have := HZ.out j (by have := HN.out; omega)
        rw [List.getD_eq_getElem?_getD, List.getElem?_eq_getElem hj] at this
        exact this⟩
      go_wp2
      go_ret
      exact ⟨⟨false, rfl, fun _ => HF.out⟩, rfl⟩
end Go.Proofs.YtoagaddciapmkaaDoor
