import Derived.Test.YtblnoekogdpolaaDoorJDIw
import Derived.Deep.Cut
namespace Go.Proofs.YtblnoekogdpolaaDoor
open Go.RowKit Go.WideShapes Go.Joins
structure NI (b : Nat) (S : ByteArray) (dp : Nat) (w : World) (σ : RS) (wc : World) : Prop where
  r : DIn wc b S dp σ
  x : wc.heap[w.heap.size]? = some jbox
  g : w.grownBy wc (some b)
  lt : b < w.heap.size
theorem NI.step {b : Nat} {S : ByteArray} {dp : Nat} {w wc w' : World} {σ σ' : RS} (h : NI b S dp w σ wc) (hr : DIn w' b S dp σ') (hg : wc.grownBy w' (some b)) : NI b S dp w σ' w' :=
  ⟨hr, box_grown h.x hg (by have := h.lt; omega), grown_trans h.g hg, h.lt⟩
theorem ni_may {b : Nat} {S : ByteArray} {dp x : Nat} (hl : x ≤ 255) {w wc : World} {σ : RS} (h : NI b S dp w σ wc) :
    Calls Tryd.prog 92 #[rp b, .int .u8 (x : Int)] wc fun e w' => ∃ B : Bool, e = .returned (.bool B) ∧ Gives (J.may x) σ B ∧ NI b S dp w (goR (J.may x) σ).1 w' :=
  (may_any b S dp x hl σ wc h.r).mono fun _ _ ⟨B, he, _, hv, hr, hg⟩ => ⟨B, he, fun v hv' => (hv v hv').symm, h.step hr hg⟩
theorem ni_digits {b : Nat} {S : ByteArray} {dp : Nat} {w wc : World} {σ : RS} (h : NI b S dp w σ wc) :
    Calls Tryd.prog 96 #[rp b] wc fun e w' => e = .returned (.tuple #[]) ∧ NI b S dp w (goR J.digits σ).1 w' :=
  (ddigits_any b S dp σ wc h.r).mono fun _ _ ⟨he, hr, hg⟩ => ⟨he, h.step hr hg⟩
theorem ite_dig {α : Type} {c : Bool} {q : J.Rd α} {σ σ' : RS} (h : (if c then (goR J.digits σ).1 else σ) = σ') : goR ((if c then J.digits else J.Rd.pure ()).then fun _ => q) σ = goR q σ' := by
  cases c with
  | false => simp only [Bool.false_eq_true, if_false] at h ⊢; rw [pure_then, h]
  | true => simp only [if_true] at h ⊢; rw [unit_then J.Good.digits, h]
theorem ite_dig' {α : Type} {c : Bool} {q : J.Rd α} {σ σ' : RS} (h : (if c then σ else (goR J.digits σ).1) = σ') : goR ((if c then J.Rd.pure () else J.digits).then fun _ => q) σ = goR q σ' := by
  cases c with
  | true => simp only [if_true] at h ⊢; rw [pure_then, h]
  | false => simp only [Bool.false_eq_true, if_false] at h ⊢; rw [unit_then J.Good.digits, h]
theorem ite_may {α : Type} {x : Nat} {c E : Bool} {r : Bool → J.Rd α} {σ σ' : RS} (h : if c then E = true ∧ σ = σ' else Gives (J.may x) σ E ∧ (goR (J.may x) σ).1 = σ') : goR ((if c then J.Rd.pure true else J.may x).then r) σ = goR (r E) σ' := by
  cases c with
  | true => simp only [if_true] at h ⊢; rw [pure_then, h.1, h.2]
  | false => simp only [Bool.false_eq_true, if_false] at h ⊢; rw [goR_thenV (J.Good.may x) h.1, h.2]
def orIs (c E : Bool) (σ6 σ7 : RS) : Prop := if c then E = true ∧ σ6 = σ7 else Gives (J.may 69) σ6 E ∧ (goR (J.may 69) σ6).1 = σ7
theorem num_one {σ σ1 σ2 σ3 : RS} {B1 B2 : Bool} (g1 : Gives (J.may 45) σ B1) (h1 : (goR (J.may 45) σ).1 = σ1) (g2 : Gives (J.may 48) σ1 B2) (h2 : (goR (J.may 48) σ1).1 = σ2) (h3 : (if B2 then σ2 else (goR J.digits σ2).1) = σ3) :
    goR J.numB σ = goR J.numP σ3 := by
  unfold J.numB
  rw [goR_thenV (J.Good.may _) g1, h1, goR_thenV (J.Good.may _) g2, h2, ite_dig' h3]
theorem num_two {σ3 σ4 σ5 : RS} {B4 : Bool} (g4 : Gives (J.may 46) σ3 B4) (h4 : (goR (J.may 46) σ3).1 = σ4) (h5 : (if B4 then (goR J.digits σ4).1 else σ4) = σ5) : goR J.numP σ3 = goR (J.numE B4) σ5 := by
  unfold J.numP
  rw [goR_thenV (J.Good.may _) g4, h4, ite_dig h5]
theorem num_exp {p : Bool} {σ7 σ8 σ9 σ10 : RS} {E B8 : Bool} {σ5 σ6 : RS} {B6 : Bool} (g6 : Gives (J.may 101) σ5 B6) (h6 : (goR (J.may 101) σ5).1 = σ6) (h7 : orIs B6 E σ6 σ7)
    (hE : E = true) (g8 : Gives (J.may 43) σ7 B8) (h8 : (goR (J.may 43) σ7).1 = σ8) (h9 : if B8 then σ8 = σ9 else (goR (J.may 45) σ8).1 = σ9) (h10 : (goR J.digits σ9).1 = σ10) :
    goR (J.numE p) σ5 = goR (J.Rd.pure (!p && !true)) σ10 := by
  unfold J.numE
  rw [goR_thenV (J.Good.may _) g6, h6, ite_may h7, hE]
  simp only [if_true]
  rw [then_assoc, goR_thenV (J.Good.may _) g8, h8, then_assoc]
  have k : goR ((if B8 then J.Rd.pure true else J.may 45).then fun x => J.digits.then fun _ => J.Rd.pure (!p && !true)) σ8 = goR (J.digits.then fun _ => J.Rd.pure (!p && !true)) σ9 := by
    cases B8 with
    | true => simp only [if_true] at h9 ⊢; rw [pure_then, h9]
    | false => simp only [Bool.false_eq_true, if_false] at h9 ⊢; rw [goR_thenV (J.Good.may _) (gives_get _ _ false), h9]
  rw [k, unit_then J.Good.digits, h10]
theorem num_plain {p : Bool} {σ5 σ6 σ7 : RS} {E B6 : Bool} (g6 : Gives (J.may 101) σ5 B6) (h6 : (goR (J.may 101) σ5).1 = σ6) (h7 : orIs B6 E σ6 σ7) (hE : E = false) :
    goR (J.numE p) σ5 = goR (J.Rd.pure (!p && !false)) σ7 := by
  unfold J.numE
  rw [goR_thenV (J.Good.may _) g6, h6, ite_may h7, hE]
  simp only [Bool.false_eq_true, if_false]
  rw [pure_then]
structure DNumP (b : Nat) (S : ByteArray) (dp : Nat) (σ : RS) (w : World) (e : Ending) (w' : World) : Prop where
  ex : ∃ (k : Nat) (n : Int) (t : ByteArray), e = .returned (.agg (flatA k false n t)) ∧ k < 256 ∧ J.Rng n ∧ (∀ v, (goR J.number σ).2 = some v → v = .mk k false n (numsOf t) [] []) ∧ DIn w' b S dp (goR J.number σ).1 ∧ w.grownBy w' (some b)
theorem dnum_end {w wE wG : World} {b : Nat} {S : ByteArray} {dp : Nat} {σ s8 : RS} {a1 a2 a3 a4 a5 a6 : Value} (h : NI b S dp w s8 wE) (hb : Below wE.heap.size wE wG) (hs : (goR J.number σ).1 = s8)
    (k : Nat) (n : Int) (t : ByteArray) (hk : k < 256) (hn : J.Rng n) (hv : ∀ v, (goR J.number σ).2 = some v → v = .mk k false n (numsOf t) [] []) : DNumP b S dp σ w (.returned (.agg (flatA k false n t))) (set6 wG w.heap.size a1 a2 a3 a4 a5 a6) := by
  have g6 := set6_grown wG w.heap.size a1 a2 a3 a4 a5 a6
  have hg2 := grown_trans h.g (grown_below hb (some b))
  have hlt := h.lt
  refine ⟨k, n, t, rfl, hk, hn, hv, ?_, ⟨g6.os.trans hg2.os, g6.tape.trans hg2.tape, g6.output.trans hg2.output, Nat.le_trans hg2.size g6.size, fun i hi hne => ?_⟩⟩
  · rw [hs]
    have hlE := (h.r.below hb).lt
    exact (h.r.below hb).at (g6.block b hlE (fun e => by cases e; omega))
  · exact (g6.block i (Nat.lt_of_lt_of_le hi hg2.size) (fun e => by cases e; omega)).trans (hg2.block i hi hne)
set_option maxHeartbeats 4000000 in
set_option maxRecDepth 8000 in
theorem dnumber_any (b : Nat) (S : ByteArray) (dp : Nat) (σ : RS) (w : World) (h : DIn w b S dp σ) : Calls Tryd.prog 74 #[rp b] w fun e w' => DNumP b S dp σ w e w' := by
  have hlt := h.lt
  have hbA : Below w.heap.size w (w.alloc jbox) := (Below.refl _ _).alloc (Nat.le_refl _) jbox
  have hN := _root_.Go.heap_alloc_new w jbox
  have ni0 : NI b S dp w σ (w.alloc jbox) := ⟨h.below hbA, hN, grown_below hbA _, hlt⟩
  obtain ⟨i0, hi0, hc1, hi1⟩ := ni0.r.c1'
  have M1 := ni_may (x := 45) (by decide) ni0
  have HI0 : Hid (∀ s j, σ = .live s j → (i0 : Int) = (j : Int)) := hi1
  have HOK : Hid (σ.ok ∧ S.size ≤ 20000 ∧ i0 ≤ 20001) := ⟨h.ok, h.sz, hi0⟩
  obtain ⟨I, hI⟩ : ∃ I : Int, (i0 : Int) = I := ⟨_, rfl⟩
  rw [hI] at hc1
  have HII : Hid ((i0 : Int) = I) := hI
  simp only [show (((45 : Nat) : Int)) = 45 from rfl] at M1
  unfold rp at M1 ⊢
  unfold jbox zeroA at M1 hc1
  clear h hbA hN ni0 hi0 hi1 hI hlt
  go_enter Tryd.func74, Tryd.ntmps74
  go_wp2_with fail
  refine M1.mono ?_
  rintro e w1 ⟨B1, rfl, gv1, n1⟩
  obtain ⟨σ1, hσ1⟩ : ∃ x, (goR (J.may 45) σ).1 = x := ⟨_, rfl⟩
  rw [hσ1] at n1
  have M2 := ni_may (x := 48) (by decide) n1
  simp only [show (((48 : Nat) : Int)) = 48 from rfl] at M2
  unfold rp at M2
  have HG1 : Hid (Gives (J.may 45) σ B1 ∧ (goR (J.may 45) σ).1 = σ1) := ⟨gv1, hσ1⟩
  clear M1 hc1 gv1 hσ1 n1
  simp only []
  go_wp2_with fail
  refine M2.mono ?_
  rintro e w2 ⟨B2, rfl, gv2, n2⟩
  obtain ⟨σ2, hσ2⟩ : ∃ x, (goR (J.may 48) σ1).1 = x := ⟨_, rfl⟩
  rw [hσ2] at n2
  obtain ⟨σ3, hσ3⟩ : ∃ x, (if B2 then σ2 else (goR J.digits σ2).1) = x := ⟨_, rfl⟩
  have HG3 : Hid (goR J.numB σ = goR J.numP σ3) := num_one HG1.out.1 HG1.out.2 gv2 hσ2 hσ3
  have HN2 : Hid (NI b S dp w σ2 w2) := n2
  have HS3 : Hid ((if B2 then σ2 else (goR J.digits σ2).1) = σ3) := hσ3
  clear M2 gv2 hσ2 n2 HG1 hσ3
  simp only []
  go_upto_if 16 with fail
  go_cut [] from 8 (fun wc => NI b S dp w σ3 wc)
  case first =>
    cases B2 with
    | true =>
      go_wp2
      go_meet
      case rel => have := HS3.out; simp only [if_true] at this; rw [← this]; exact HN2.out
    | false =>
      have D3 := ni_digits HN2.out
      unfold rp at D3
      go_wp2_with fail
      refine D3.mono ?_
      rintro e w3 ⟨rfl, n3⟩
      clear D3
      go_wp2
      go_meet
      case rel => have := HS3.out; simp only [Bool.false_eq_true, if_false] at this; rw [← this]; exact n3
  case rest =>
  clear HS3 HN2
  have M4 := ni_may (x := 46) (by decide) hcut
  simp only [show (((46 : Nat) : Int)) = 46 from rfl] at M4
  unfold rp at M4
  clear hcut
  go_wp2_with fail
  refine M4.mono ?_
  rintro e w4 ⟨B4, rfl, gv4, n4⟩
  obtain ⟨σ4, hσ4⟩ : ∃ x, (goR (J.may 46) σ3).1 = x := ⟨_, rfl⟩
  rw [hσ4] at n4
  obtain ⟨σ5, hσ5⟩ : ∃ x, (if B4 then (goR J.digits σ4).1 else σ4) = x := ⟨_, rfl⟩
  have HG5 : Hid (goR J.numB σ = goR (J.numE B4) σ5) := by show _ = _; rw [HG3.out]; exact num_two gv4 hσ4 hσ5
  have HN4 : Hid (NI b S dp w σ4 w4) := n4
  have HS5 : Hid ((if B4 then (goR J.digits σ4).1 else σ4) = σ5) := hσ5
  clear M4 gv4 hσ4 n4 HG3 hσ5
  simp only []
  go_upto_if 20 with fail
  go_cut [4] from 8 (fun s4 wc => s4 = .bool (!B4) ∧ NI b S dp w σ5 wc)
  case first =>
    cases B4 with
    | false =>
      go_wp2
      go_meet
      case rel => have := HS5.out; simp only [Bool.false_eq_true, if_false] at this; rw [← this]; exact ⟨rfl, HN4.out⟩
    | true =>
      have D3 := ni_digits HN4.out
      unfold rp at D3
      go_wp2_with fail
      refine D3.mono ?_
      rintro e w5 ⟨rfl, n5⟩
      clear D3
      go_wp2
      go_meet
      case rel => have := HS5.out; simp only [if_true] at this; rw [← this]; exact ⟨rfl, n5⟩
  case rest =>
  obtain ⟨rfl, n5⟩ := hcut
  clear HS5 HN4
  have HN5 : Hid (NI b S dp w σ5 wc) := n5
  clear n5
  go_upto_region 9 with fail
  go_cut [28] from 8 (fun s28 wc => ∃ B6 σ6 E σ7, s28 = .bool E ∧ Gives (J.may 101) σ5 B6 ∧ (goR (J.may 101) σ5).1 = σ6 ∧ orIs B6 E σ6 σ7 ∧ NI b S dp w σ7 wc)
  case first =>
    have M6 := ni_may (x := 101) (by decide) HN5.out
    simp only [show (((101 : Nat) : Int)) = 101 from rfl] at M6
    unfold rp at M6
    go_wp2_with fail
    refine M6.mono ?_
    rintro e w6 ⟨B6, rfl, gv6, n6⟩
    obtain ⟨σ6, hσ6⟩ : ∃ x, (goR (J.may 101) σ5).1 = x := ⟨_, rfl⟩
    rw [hσ6] at n6
    have HG6 : Hid (Gives (J.may 101) σ5 B6 ∧ (goR (J.may 101) σ5).1 = σ6) := ⟨gv6, hσ6⟩
    have HN6 : Hid (NI b S dp w σ6 w6) := n6
    clear M6 gv6 hσ6 n6
    simp only []
    cases B6 with
    | true =>
      go_wp2
      go_meet
      case rel => exact ⟨true, σ6, true, σ6, rfl, HG6.out.1, HG6.out.2, ⟨rfl, rfl⟩, HN6.out⟩
    | false =>
      have M7 := ni_may (x := 69) (by decide) HN6.out
      simp only [show (((69 : Nat) : Int)) = 69 from rfl] at M7
      unfold rp at M7
      go_wp2_with fail
      refine M7.mono ?_
      rintro e w7 ⟨B7, rfl, gv7, n7⟩
      clear M7
      simp only []
      go_wp2
      go_meet
      case rel => exact ⟨false, σ6, B7, _, rfl, HG6.out.1, HG6.out.2, ⟨gv7, rfl⟩, n7⟩
  case rest =>
  obtain ⟨B6, σ6, E, σ7, rfl, gv6, hσ6, hE7, n7⟩ := hcut
  have H7 : Hid (Gives (J.may 101) σ5 B6 ∧ (goR (J.may 101) σ5).1 = σ6 ∧ orIs B6 E σ6 σ7) := ⟨gv6, hσ6, hE7⟩
  have HN7 : Hid (NI b S dp w σ7 wc) := n7
  clear gv6 hσ6 hE7 n7 HN5
  go_upto_if 28 with fail
  go_cut [4] from 8 (fun s4 wc => ∃ F σ10, s4 = .bool F ∧ goR J.numB σ = goR (J.Rd.pure F) σ10 ∧ NI b S dp w σ10 wc)
  case first =>
    cases E with
    | false =>
      go_wp2
      go_meet
      case rel => exact ⟨!B4, σ7, rfl, by rw [HG5.out, num_plain (p := B4) H7.out.1 H7.out.2.1 H7.out.2.2 rfl]; simp, HN7.out⟩
    | true =>
      have M8 := ni_may (x := 43) (by decide) HN7.out
      simp only [show (((43 : Nat) : Int)) = 43 from rfl] at M8
      unfold rp at M8
      go_wp2_with fail
      refine M8.mono ?_
      rintro e w8 ⟨B8, rfl, gv8, n8⟩
      obtain ⟨σ8, hσ8⟩ : ∃ x, (goR (J.may 43) σ7).1 = x := ⟨_, rfl⟩
      rw [hσ8] at n8
      clear M8
      simp only []
      cases B8 with
      | true =>
        have D9 := ni_digits n8
        unfold rp at D9
        go_wp2_with fail
        refine D9.mono ?_
        rintro e w10 ⟨rfl, n10⟩
        clear D9 n8
        simp only []
        go_wp2
        go_meet
        case rel => exact ⟨false, _, rfl, by rw [HG5.out, num_exp (p := B4) H7.out.1 H7.out.2.1 H7.out.2.2 rfl gv8 hσ8 (σ9 := σ8) (by simp) rfl]; simp, n10⟩
      | false =>
        have M9 := ni_may (x := 45) (by decide) n8
        simp only [show (((45 : Nat) : Int)) = 45 from rfl] at M9
        unfold rp at M9
        go_wp2_with fail
        refine M9.mono ?_
        rintro e w9 ⟨B9, rfl, _, n9⟩
        have D9 := ni_digits n9
        unfold rp at D9
        clear M9 n8 n9
        simp only []
        go_wp2_with fail
        refine D9.mono ?_
        rintro e w10 ⟨rfl, n10⟩
        clear D9
        simp only []
        go_wp2
        go_meet
        case rel => exact ⟨false, _, rfl, by rw [HG5.out, num_exp (p := B4) H7.out.1 H7.out.2.1 H7.out.2.2 rfl gv8 hσ8 (σ9 := (goR (J.may 45) σ8).1) (by simp) rfl]; simp, n10⟩
  case rest =>
  obtain ⟨F, σ10, rfl, hgo, n10⟩ := hcut
  have HN10 : Hid (NI b S dp w σ10 wc ∧ goR J.numB σ = goR (J.Rd.pure F) σ10) := ⟨n10, hgo⟩
  have HX : Hid (wc.heap[w.heap.size]? = some jbox) := n10.x
  have hst := num_state hgo n10.r.ok
  have HST : Hid ((goR J.number σ).1 = σ10) := hst
  clear hst hgo HN7 H7 HG5
  obtain ⟨i1, at1, hi1, hat1, hb1, hl1, hd1⟩ := n10.r.ex
  have c0 : wc.cell? ⟨b, 0, none⟩ = some (.string S) := by rw [cell_of_block hb1]; rfl
  have c1 : wc.cell? ⟨b, 1, none⟩ = some (.int .i64 (i1 : Int)) := by rw [cell_of_block hb1]; rfl
  have c2 : wc.cell? ⟨b, 2, none⟩ = some (.int .i64 (σ10.e : Int)) := by rw [cell_of_block hb1]; rfl
  obtain ⟨⟨r0, r1, r2, r3, r4, r5⟩, y0, y1, y2, y3, y4, y5⟩ := box_cells n10.x
  clear hb1
  cases σ10 with
  | dead s e =>
    have he : ((e : Int) != 0) = true := by
      have := n10.r.ok.1
      simp; omega
    simp only [RS.e] at c2
    have HE : Hid (∀ v, (goR J.number σ).2 = some v → v = .mk 0 false 0 (numsOf (⟨#[]⟩ : ByteArray)) [] []) := fun v hv => by
      have : goR J.numB σ = (.dead s e, none) := HN10.out.2
      rw [goR_number_none this] at hv
      cases hv
    clear n10 hl1 hd1 hi1 hat1
    go_wp2_with fail
    refine bodyPost_ret (results_cell_row rfl _ _ w.heap.size 25 (flatA 0 false 0 ⟨#[]⟩) (0, 0) _ rfl (set6_heap HX.out _ _ _ _ _ _) Tryd.underlying25 rfl size_json) rfl ?_
    exact dnum_end HN10.out.1 (Below.refl _ _) HST.out 0 0 ⟨#[]⟩ (by decide) (by unfold J.Rng; omega) HE.out
  | live s j =>
    obtain ⟨hsS, hij⟩ := hl1 s j rfl
    subst hsS
    subst hij
    simp only [RS.e] at c2
    rw [show (((0 : Nat) : Int)) = 0 from rfl] at c2
    have e2 : goR J.numB σ = (.live s i1, some F) := by rw [HN10.out.2, goR_pure F n10.r.ok]
    have hmo := goR_mono J.Good.numB σ HOK.out.1
    obtain ⟨s', k0, j', e3, e4⟩ := goR_live e2
    cases e4
    subst e3
    rw [e2] at hmo
    have hk0 : k0 ≤ i1 := hmo
    have hIK : I = (k0 : Int) := by have h1 := HI0.out s k0 rfl; have h2 := HII.out; omega
    subst hIK
    have hi1s : i1 ≤ s.size := n10.r.ok
    have hss : s.size ≤ 20000 := n10.r.sz
    obtain ⟨hnum, hwh⟩ := goR_number (show k0 ≤ s.size from HOK.out.1) e2
    have X := slice_mid s k0 i1 hk0 hi1s
    obtain ⟨tx, htx⟩ : ∃ tx, s.extract k0 i1 = tx := ⟨_, rfl⟩
    have htz : tx.size ≤ 20000 := by rw [← htx, ByteArray.size_extract]; omega
    rw [htx] at X hnum hwh
    have HNUM : Hid (goR J.number (.live s k0) = (.live s i1, some (J.numV F (numsOf tx))) ∧ tx.size ≤ 20000) := ⟨hnum, htz⟩
    have HWH : Hid (F = true → IntIs tx) := fun hf => int_is (by rw [hf] at hwh; exact hwh)
    obtain ⟨K, hK⟩ : ∃ K : Int, (k0 : Int) = K := ⟨_, rfl⟩
    obtain ⟨J0, hJ⟩ : ∃ J0 : Int, (i1 : Int) = J0 := ⟨_, rfl⟩
    rw [hK, hJ] at X
    rw [hJ] at c1
    rw [hK]
    clear n10 hl1 hd1 hi1 hat1 e2 hmo hk0 hi1s hss hnum hwh htx htz hK hJ r0 r1 r2 r3 r4 r5 y0 y1 y2 y3 y4 y5
    go_wp2_with fail
    go_quiet (fail)
    have B1 : Below wc.heap.size wc (wc.drewN nq) := below_dN (Below.refl _ _) _
    have hbx2 := box_below HX.out B1
    have HB1 : Hid (Below wc.heap.size wc (wc.drewN nq)) := B1
    have HX2 : Hid ((wc.drewN nq).heap[w.heap.size]? = some jbox) := hbx2
    have N3 : Hid (J.numV F (numsOf tx) = .mk 3 false 0 (numsOf tx) [] [] → ∀ v, (goR J.number (.live s k0)).2 = some v → v = .mk 3 false 0 (numsOf tx) [] []) := fun h v hv => by
      rw [HNUM.out.1] at hv
      cases hv
      exact h
    obtain ⟨⟨d0, d1, d2, d3, d4, d5⟩, f0, f1, f2, f3, f4, f5⟩ := box_cells hbx2
    generalize wc.drewN nq = wF at *
    clear c0 c1 c2 X B1 hbx2
    cases F with
    | false =>
      have HV : Hid (∀ v, (goR J.number (.live s k0)).2 = some v → v = .mk 3 false 0 (numsOf tx) [] []) := N3.out (by unfold J.numV; rw [if_neg]; rintro ⟨h, _⟩; cases h)
      go_wp2_with fail
      refine bodyPost_ret (results_cell_row rfl _ _ w.heap.size 25 (flatA 3 false 0 tx) (0, 0) _ rfl (set6_heap HX2.out _ _ _ _ _ _) Tryd.underlying25 rfl size_json) rfl ?_
      exact dnum_end HN10.out.1 HB1.out HST.out 3 0 tx (by decide) rng_zero HV.out
    | true =>
      by_cases hm : tx = ⟨#[45, 48]⟩
      · have hmb : (tx.toList == [45, 48]) = true := by rw [← dash_list]; exact (Lib.bytes_beq_iff tx ⟨#[45, 48]⟩).2 hm
        have HV : Hid (∀ v, (goR J.number (.live s k0)).2 = some v → v = .mk 3 false 0 (numsOf tx) [] []) := N3.out (by unfold J.numV; rw [if_neg]; rintro ⟨_, h, _⟩; exact h (by rw [hm]; rfl))
        clear hm
        go_wp2_with fail
        refine bodyPost_ret (results_cell_row rfl _ _ w.heap.size 25 (flatA 3 false 0 tx) (0, 0) _ rfl (set6_heap HX2.out _ _ _ _ _ _) Tryd.underlying25 rfl size_json) rfl ?_
        exact dnum_end HN10.out.1 HB1.out HST.out 3 0 tx (by decide) rng_zero HV.out
      · have hmb : (tx.toList == [45, 48]) = false := by rw [← dash_list]; exact (Lib.bytes_beq_false_iff tx ⟨#[45, 48]⟩).2 hm
        have HM : Hid (numsOf tx ≠ [45, 48]) := fun e => hm (numsOf_inj (by rw [e]; rfl))
        have PI := dInt_any tx (HWH.out rfl) HNUM.out.2 wF
        clear hm d0 d1 d2 d3 d4 d5 f0 f1 f2 f3 f4 f5
        go_wp2_with fail
        refine PI.mono ?_
        rintro e wG ⟨n, f, rfl, hf1, hf2, hbG⟩
        have HX3 : Hid (wG.heap[w.heap.size]? = some jbox) := box_below HX2.out hbG
        have HB3 : Hid (Below wc.heap.size wc wG) := below_more HB1.out hbG
        obtain ⟨⟨d0, d1, d2, d3, d4, d5⟩, f0, f1, f2, f3, f4, f5⟩ := box_cells HX3.out
        clear PI hbG
        simp only []
        cases f with
        | false =>
          have HV : Hid (∀ v, (goR J.number (.live s k0)).2 = some v → v = .mk 3 false 0 (numsOf tx) [] []) := N3.out (by
            unfold J.numV
            rw [if_neg]
            rintro ⟨_, _, h1, h2⟩
            have := hf1.2 ⟨h1, h2⟩
            cases this)
          clear hf1 hf2
          go_wp2_with fail
          refine bodyPost_ret (results_cell_row rfl _ _ w.heap.size 25 (flatA 3 false 0 tx) (0, 0) _ rfl (set6_heap HX3.out _ _ _ _ _ _) Tryd.underlying25 rfl size_json) rfl ?_
          exact dnum_end HN10.out.1 HB3.out HST.out 3 0 tx (by decide) rng_zero HV.out
        | true =>
          have hr := hf1.1 rfl
          have hn := hf2 rfl
          have HV : Hid (J.Rng n ∧ ∀ v, (goR J.number (.live s k0)).2 = some v → v = .mk 2 false n (numsOf (⟨#[]⟩ : ByteArray)) [] []) := ⟨by rw [hn]; exact hr, fun v hv => by
            rw [HNUM.out.1] at hv
            cases hv
            unfold J.numV
            unfold J.Rng at hr
            rw [if_pos ⟨rfl, HM.out, hr.1, hr.2⟩, hn]
            rfl⟩
          clear hf1 hf2 hr hn
          go_wp2_with fail
          refine bodyPost_ret (results_cell_row rfl _ _ w.heap.size 25 (flatA 2 false n ⟨#[]⟩) (0, 0) _ rfl (set6_heap HX3.out _ _ _ _ _ _) Tryd.underlying25 rfl size_json) rfl ?_
          exact dnum_end HN10.out.1 HB3.out HST.out 2 n ⟨#[]⟩ (by decide) HV.out.1 HV.out.2
end Go.Proofs.YtblnoekogdpolaaDoor
