/-
  The law TableReads.
-/
import Derived.Test.YtlcbjmbphekliaaJ10
import Derived.Test.YtlcbjmbphekliaaJ08
import Derived.Deep.CutRange
import Derived.Test.YtlcbjmbphekliaaJ07
import Derived.Test.YtlcbjmbphekliaaRows
import Derived.Test.YtlcbjmbphekliaaJ09
import Derived.WalkKit
import Derived.ProofKit
import Derived.OpenShut
import Derived.ShutString
import Derived.ChangeOld
import Derived.Below
namespace Go.Proofs.Ytlcbjmbphekliaa
open Go.RowKit Go.WideShapes

/-- Bytes, somewhere old or in a block of bytes. -/
structure Brow (w0 w : World) (p : Option Addr) (n c : Nat) (xs : List Nat) : Prop where
  len : n = xs.length
  bin : BIn w p xs
  cap : xs.length ≤ c ∧ c ≤ maxLen ∧ (p = none → c = 0)
  sep : 0 < xs.length → ∀ a, p = some a → a.block < w0.heap.size ∨ ∃ C fr, w.heap[a.block]? = some (.cells C 5 fr)
theorem Brow.below {w0 w w' : World} {p : Option Addr} {n c : Nat} {xs : List Nat} (h : Brow w0 w p n c xs) (hb : Below w.heap.size w w') : Brow w0 w' p n c xs :=
  ⟨h.len, h.bin.below hb, h.cap, fun hp a ha => (h.sep hp a ha).elim .inl (fun ⟨C, fr, e⟩ => .inr ⟨C, fr, block_below e hb⟩)⟩
theorem Brow.app {w0 w w' : World} {p : Option Addr} {n c : Nat} {xs : List Nat} (h : Brow w0 w p n c xs) {v : Value} {m : Nat} {cs : List Value} (ho : w.ownsRow w0.heap.size 29 4 v m cs) (hg : w.grownBy w' v.ownBlock) : Brow w0 w' p n c xs := by
  have hne : 0 < xs.length → ∀ a, p = some a → v.ownBlock ≠ some a.block := by
    intro hp a ha e
    rcases h.sep hp a ha with h1 | ⟨C, fr, h1⟩
    · have := (World.ownsRow.lt ho _ e).1; omega
    · exact own_neS ho h1 (by decide) e
  refine ⟨h.len, ⟨fun hp => ?_, h.bin.2⟩, h.cap, fun hp a ha => ?_⟩
  · obtain ⟨b', o, e, hc⟩ := h.bin.1 hp
    refine ⟨b', o, e, fun i hi => ?_⟩
    have e2 := hc i hi
    have hbk : w'.heap[b']? = w.heap[b']? := hg.block b' (World.block_lt_of_cell? _ _ e2) (fun e3 => hne hp _ e e3.symm)
    rw [← e2]
    unfold World.cell?
    simp only [hbk]
  · rcases h.sep hp a ha with h1 | ⟨C, fr, h1⟩
    · exact .inl h1
    · exact .inr ⟨C, fr, (hg.block _ (lt_heap h1) (fun e3 => hne hp a ha e3.symm)).trans h1⟩
theorem Brow.own {w0 w : World} {base : Nat} {p : Option Addr} {c : Nat} {xs : List Nat} (h : w.ownsRow base 5 1 (.slice p xs.length c) xs.length (Bs xs)) (hx : ∀ c ∈ xs, c < 256) : Brow w0 w p xs.length c xs := by
  obtain ⟨q, m, e, h1, h2, h3⟩ := own_form h
  simp only [Value.slice.injEq, true_and] at e
  obtain ⟨rfl, rfl⟩ := e
  refine ⟨rfl, own_in h hx, ⟨h1, h2, h3⟩, fun hp a ha => ?_⟩
  obtain ⟨g, cur, e, _, hg⟩ := own_some h hp
  rw [ha] at e
  rw [Option.some.inj e]
  exact .inr ⟨cur, _, hg⟩
theorem Brow.cut {w0 w : World} {p : Option Addr} {n c k : Nat} {xs : List Nat} (h : Brow w0 w p n c xs) (hk : k ≤ n) : ∃ p', (∀ w, (Instr.slice 22 (.slice p n c) (some (.int .i64 (k : Int))) none none).run Try.prog w = .ok (.slice p' (n - k) (c - k)) w) ∧ Brow w0 w p' (n - k) (c - k) (xs.drop k) := by
  have hl := h.len
  obtain ⟨p', h1, h2, h3, h4⟩ := cut_from p n c k xs h.len (by rw [hl]; exact h.cap.1) hk h.cap.2.2
  refine ⟨p', h1, by rw [List.length_drop, hl], h2 w h.bin, ⟨by rw [List.length_drop]; have := h.cap.1; omega, by have := h.cap.2.1; omega, h3⟩, fun hp a' ha' => ?_⟩
  obtain ⟨a, e1, e2⟩ := h4 a' ha'
  rw [e2]
  exact h.sep (by rw [List.length_drop] at hp; omega) a e1
theorem Brow.set {w0 w : World} {p : Option Addr} {n c : Nat} {xs : List Nat} (h : Brow w0 w p n c xs) {g : Nat} {C : Array Value} {fr : Nat × Nat} (hb : w.heap[g]? = some (.cells C 29 fr)) (hC : noU8 C) (i : Nat) (v : Value) : Brow w0 (w.setCell ⟨g, i, none⟩ v) p n c xs := by
  refine ⟨h.len, bin_grownC hb hC h.bin (grown_set _ _ _ _), h.cap, fun hp a ha => ?_⟩
  rcases h.sep hp a ha with h1 | ⟨C', fr', h1⟩
  · exact .inl h1
  · refine .inr ⟨C', fr', ((grown_set w g i v).block _ (lt_heap h1) (fun e => ?_)).trans h1⟩
    rw [Option.some.inj e, hb] at h1
    simp only [Option.some.injEq, Obj.cells.injEq] at h1
    exact absurd h1.2.1 (by decide)
structure OnD (w : World) (R : Option (List EntV)) (k : Nat) (a : ByteArray) (xs : List Nat) (p : Option Addr) (n c : Nat) (v : Value) (l : List EntV) (wr : World) : Prop where
  own : EOwn wr w.heap.size v l
  bel : Below w.heap.size w wr
  row : Brow w wr p n c xs
  cut : R = (gL k a xs).map fun m => l ++ m
  len : a.size + xs.length ≤ 65536
theorem OnD.stop {w : World} {R : Option (List EntV)} {k : Nat} {a : ByteArray} {xs : List Nat} {p : Option Addr} {n c : Nat} {v : Value} {l : List EntV} {wr : World} (h : OnD w R (k + 1) a xs p n c v l wr) (hg : gEnt a xs = none) : R = none := by
  rw [h.cut]
  unfold gL
  rw [hg]
  rfl
theorem OnD.next {w : World} {R : Option (List EntV)} {k : Nat} {a : ByteArray} {xs xs' : List Nat} {p p' : Option Addr} {n c n' c' : Nat} {v v' : Value} {l : List EntV} {wr w' : World} {y : EntV} (h : OnD w R (k + 1) a xs p n c v l wr) (hg : gEnt a xs = some (y, xs')) (ho : EOwn w' w.heap.size v' (l ++ [y])) (hb : Below w.heap.size w w') (hr : Brow w w' p' n' c' xs') (hl : y.key.size + xs'.length ≤ 65536) : OnD w R k y.key xs' p' n' c' v' (l ++ [y]) w' := by
  refine ⟨ho, hb, hr, ?_, hl⟩
  rw [h.cut]
  conv => lhs; unfold gL
  rw [hg]
  simp only [Option.map_map]
  congr 1
  funext m
  simp
theorem ond_app {w : World} {R : Option (List EntV)} {k k' : Nat} {a : ByteArray} {xs xs' : List Nat} {p p' : Option Addr} {n c n' c' : Nat} {v v' : Value} {l : List EntV} {wr wo w' : World} {y : EntV} (h : OnD w R k a xs p n c v l wr) (hk : k = k' + 1) (hg : gEnt a xs = some (y, xs')) (hown : EOwn wo w.heap.size v l) (hbe : Below w.heap.size w wo) (hrw : Brow w wo p' n' c' xs') (hoa : w'.ownsRow w.heap.size 29 4 v' (l.length + 1) (cellsE l ++ [.string y.key, .string y.val, .int .i64 y.seq, .bool y.gone])) (hga : wo.grownBy w' v.ownBlock) (hl : y.key.size + xs'.length ≤ 65536) : OnD w R k' y.key xs' p' n' c' v' (l ++ [y]) w' := by
  subst hk
  refine h.next hg ?_ (hbe.grown hga hbe.size (fun k hk => (World.ownsRow.lt hown k hk).1)) (hrw.app hown hga) hl
  unfold EOwn
  rw [cellsE_app, List.length_append]
  exact hoa
def DocOut (xs : List Nat) (base : Nat) (e : Ending) (w' : World) : Prop :=
  (∃ l v, docR xs = some l ∧ e = .returned (.tuple #[v, .int .i64 0]) ∧ EOwn w' base v l) ∨ (docR xs = none ∧ e = .returned (.tuple #[.slice none 0 0, .int .i64 8]))
set_option maxRecDepth 20000 in
set_option maxHeartbeats 8000000 in
theorem rRead_any (pb : Option Addr) (nb cb : Nat) (xs : List Nat) (w : World) (hn : nb = xs.length) (hb : BIn w pb xs) (hc : nb ≤ cb ∧ cb ≤ maxLen ∧ (pb = none → cb = 0)) :
    Calls Try.prog 74 #[.slice pb nb cb] w fun e w' => DocOut xs w.heap.size e w' ∧ Below w.heap.size w w' := by
  by_cases h1 : nb < 5
  · have g1 : (nb : Int) < 5 := by omega
    have HN : Hid (docR xs = none) := docR_len (by omega)
    clear h1 hb hc hn
    go_enter Try.func74, Try.ntmps74
    go_wp2
    go_ret2
    exact ⟨.inr ⟨HN.out, rfl⟩, Below.refl _ _⟩
  by_cases h2 : 65536 < nb
  · have g1 : (5 : Int) ≤ (nb : Int) := by omega
    have g2 : (65536 : Int) < (nb : Int) := by omega
    have HN : Hid (docR xs = none) := docR_len (by omega)
    clear h1 h2 hb hc hn
    go_enter Try.func74, Try.ntmps74
    go_wp2
    go_ret2
    exact ⟨.inr ⟨HN.out, rfl⟩, Below.refl _ _⟩
  have hlen : ¬ (xs.length < 5 ∨ 65536 < xs.length) := by omega
  obtain ⟨z, hz⟩ : ∃ z, nb - 4 = z := ⟨_, rfl⟩
  have hxz : xs.length - 4 = z := by omega
  have hw : IntKind.i64.wrap ((nb : Int) - 4) = (z : Int) := by rw [IntKind.wrap_i64]; omega
  have hs2 := cut_to pb nb cb z (by omega)
  have ht : (xs.take z).length = z := by rw [List.length_take]; omega
  have hrow0 : Brow w w pb z cb (xs.take z) := ⟨ht.symm, hb.take' z, ⟨by omega, hc.2⟩, fun hp a ha => by obtain ⟨b, o, e, hcc⟩ := (hb.take' z).1 hp; rw [ha] at e; rw [Option.some.inj e]; exact .inl (World.block_lt_of_cell? _ _ (hcc 0 hp))⟩
  have g1 : (5 : Int) ≤ (nb : Int) := by omega
  have g2 : (nb : Int) ≤ 65536 := by omega
  have HL : Hid (¬ (xs.length < 5 ∨ 65536 < xs.length) ∧ xs.length - 4 = z ∧ z ≤ 65536) := ⟨hlen, hxz, by omega⟩
  have HXB : Hid (BIn w pb xs ∧ nb = xs.length) := ⟨hb, hn⟩
  rcases hr : readN (xs.take z) with _ | ⟨m, k0⟩
  · have HN : Hid (docR xs = none) := docR_no HL.out.1 (by rw [HL.out.2.1]; unfold gD; rw [hr])
    have HRD := refRead_none pb z cb (xs.take z) w ht.symm hrow0.bin (by unfold maxLen; omega) hr
    clear h1 h2 hb hc hn hz hxz ht hlen hr hrow0
    go_enter Try.func74, Try.ntmps74
    go_wp2_with fail
    refine HRD.mono ?_
    rintro e w1 ⟨rfl, rfl⟩
    go_wp2
    go_ret2
    exact ⟨.inr ⟨HN.out, rfl⟩, Below.refl _ _⟩
  · have HRD := refRead_some pb z cb (xs.take z) w m k0 ht.symm hrow0.bin (by unfold maxLen; omega) hr
    obtain ⟨k1, k2', k3, k4⟩ := readN_some hr
    rw [ht] at k2'
    by_cases hm : 4096 < m
    · have g3 : decide ((4096 : Int) < (m : Int)) = true := decide_eq_true (by omega)
      have HN : Hid (docR xs = none) := docR_no HL.out.1 (by rw [HL.out.2.1]; unfold gD; rw [hr]; simp only; rw [if_pos hm])
      clear h1 h2 hb hc hn hz hxz ht hlen hr hrow0 hm k4
      go_enter Try.func74, Try.ntmps74
      go_wp2_with fail
      refine HRD.mono ?_
      rintro e w1 ⟨rfl, rfl⟩
      go_wp2
      go_ret2
      exact ⟨.inr ⟨HN.out, rfl⟩, Below.refl _ _⟩
    have g3 : decide ((4096 : Int) < (m : Int)) = false := decide_eq_false (by omega)
    obtain ⟨p0, hs3, hrow1⟩ := hrow0.cut k2'
    obtain ⟨R, hR⟩ : ∃ R, gL m ByteArray.empty ((xs.take z).drop k0) = R := ⟨_, rfl⟩
    have HGD : Hid (gD (xs.take (xs.length - 4)) = R) := by show _ = _; rw [HL.out.2.1]; unfold gD; rw [hr]; simp only; rw [if_neg hm]; exact hR
    have HON : Hid (OnD w R m ByteArray.empty ((xs.take z).drop k0) p0 (z - k0) (cb - k0) (.slice none 0 0) [] w) := ⟨eown_nil _ _, Below.refl _ _, hrow1, by rw [← hR]; simp, by rw [List.length_drop, ht]; have := HL.out.2.2; have : ByteArray.empty.size = 0 := rfl; omega⟩
    have hmw : IntKind.i64.wrap (m : Int) = (m : Int) := by rw [IntKind.wrap_i64]; omega
    have hmI : (m : Int) ≤ 4096 := by omega
    obtain ⟨i0, hi, hz0, hz1, hz2⟩ := info_parts' info_entry
    clear h1 h2 hb hc hn hz hxz ht hlen hr hrow0 hm k4 k1 k2' k3 hrow1 hR
    go_enter Try.func74, Try.ntmps74
    go_wp2_with fail
    refine HRD.mono ?_
    rintro e w1 ⟨rfl, rfl⟩
    clear HRD
    go_wp2
    clear hs3
    go_loopw [4, 8, 9, 10] (fun iv v a i wr => ∃ k s xk p n c l, k ≤ m ∧ i = .int .i64 ((k : Nat) : Int) ∧ a = .string s ∧ iv = .slice p n c ∧ l.length = k ∧ OnD w1 R (m - k) s xk p n c v l wr) (fun _ _ _ i _ => m - (intOf i).toNat)
    case atStart => exact ⟨0, ByteArray.empty, _, p0, z - k0, cb - k0, [], by omega, rfl, rfl, rfl, rfl, HON.out⟩
    case round =>
      obtain ⟨k, s, xk, p, n, c, l, hk, rfl, rfl, rfl, hll, hon⟩ := hrel
      obtain ⟨q, cq, rfl, _, _, _⟩ := hon.own.form
      have HO : Hid (OnD w1 R (m - k) s xk p n c (.slice q l.length cq) l wr) := hon
      have HLL : Hid (l.length = k ∧ k ≤ 4096) := ⟨hll, by omega⟩
      clear hll
      by_cases hkm : k < m
      · have g4 : decide (k < m) = true := decide_eq_true hkm
        have hkI : (k : Int) < (m : Int) := by omega
        have HMK : Hid (m - k = m - (k + 1) + 1) := by show _ = _; omega
        have HNO : Hid (gEnt s xk = none → docR xs = none) := by
          intro hg
          have h1 := HO.out
          rw [HMK.out] at h1
          exact docR_no HL.out.1 (by rw [HGD.out]; exact h1.stop hg)
        have hrow := hon.row
        have hal := hon.len
        have hsw : IntKind.u64.wrap (s.size : Int) = (s.size : Int) := by rw [IntKind.wrap_u64]; omega
        rcases hr1 : readN xk with _ | ⟨pp, k1⟩
        · have HRD := refRead_none p n c xk wr hrow.len hrow.bin (by unfold maxLen; omega) hr1
          have HN : Hid (docR xs = none) := HNO.out (gEnt_1 hr1)
          clear hon hrow hr1 hal
          go_wp2_with fail
          refine HRD.mono ?_
          rintro e w2 ⟨rfl, rfl⟩
          go_wp2
          go_ret2
          exact ⟨.inr ⟨HN.out, rfl⟩, HO.out.bel⟩
        · have HRD := refRead_some p n c xk wr pp k1 hrow.len hrow.bin (by unfold maxLen; omega) hr1
          obtain ⟨j1, j2, j3, j4⟩ := readN_some hr1
          have HR1 : Hid (readN xk = some (pp, k1)) := hr1
          by_cases hps : s.size < pp
          · have g5 : decide ((s.size : Int) < (pp : Int)) = true := decide_eq_true (by omega)
            have g5' : decide (s.size < pp) = true := decide_eq_true hps
            have HN : Hid (docR xs = none) := HNO.out (gEnt_2 hr1 hps)
            clear hon hrow hr1 hal j4
            go_wp2_with fail
            refine HRD.mono ?_
            rintro e w2 ⟨rfl, rfl⟩
            go_wp2
            go_ret2
            exact ⟨.inr ⟨HN.out, rfl⟩, HO.out.bel⟩
          have g5 : decide ((s.size : Int) < (pp : Int)) = false := decide_eq_false (by omega)
          have g5' : ¬ s.size < pp := hps
          obtain ⟨p1, hs4, hrow2⟩ := hrow.cut (k := k1) (by rw [hrow.len]; exact j2)
          have HCT := refCut_u p1 (n - k1) (c - k1) (xk.drop k1) wr hrow2.len hrow2.bin (by rw [List.length_drop]; omega) hrow2.cap.1
          have HPS : Hid (¬ s.size < pp ∧ s.size + xk.length ≤ 65536) := ⟨hps, hal⟩
          clear hon hrow hr1 j4 j1 j2 j3 hrow2
          go_wp2_with fail
          refine HRD.mono ?_
          rintro e w2 ⟨rfl, rfl⟩
          go_wp2_with fail
          refine HCT.mono ?_
          rintro e w3 hct
          rcases hct with ⟨h3, rfl, hb3⟩ | ⟨rest, in2, v3, h3, rfl, ho3, hb3, hl3, hb256, ht256⟩
          · have HN : Hid (docR xs = none) := HNO.out (gEnt_3 HR1.out HPS.out.1 h3)
            have HB3 : Hid (Below w1.heap.size w1 w3) := below_bt HO.out.bel hb3
            clear h3 hb3 HCT HRD hs4
            go_wp2
            go_ret2
            exact ⟨.inr ⟨HN.out, rfl⟩, HB3.out⟩
          obtain ⟨p3, c3, rfl, _, _, _⟩ := own_form ho3
          have hrow3 : Brow w1 w3 p3 in2.length c3 in2 := Brow.own ho3 hb256
          have HO3 : Hid (EOwn w3 w1.heap.size (.slice q l.length cq) l ∧ Below w1.heap.size w1 w3) := ⟨HO.out.own.below hb3, below_bt HO.out.bel hb3⟩
          have H3 : Hid (cutT (xk.drop k1) = some (rest, in2) ∧ rest.length + in2.length ≤ xk.length ∧ ∀ c ∈ rest, c < 256) := ⟨h3, by rw [List.length_drop] at hl3; omega, ht256⟩
          rcases hr2 : readN in2 with _ | ⟨seq, k2⟩
          · have HRE := refRead_none p3 in2.length c3 in2 w3 rfl hrow3.bin (by unfold maxLen; rw [List.length_drop] at hl3; omega) hr2
            have HN : Hid (docR xs = none) := HNO.out (gEnt_4 HR1.out HPS.out.1 h3 hr2)
            clear h3 hb3 HCT HRD hs4 ho3 hl3 hb256 ht256 hrow3 hr2 hal
            go_wp2_with fail
            refine HRE.mono ?_
            rintro e w4 ⟨rfl, rfl⟩
            go_wp2
            go_ret2
            exact ⟨.inr ⟨HN.out, rfl⟩, HO3.out.2⟩
          have HRE := refRead_some p3 in2.length c3 in2 w3 seq k2 rfl hrow3.bin (by unfold maxLen; rw [List.length_drop] at hl3; omega) hr2
          obtain ⟨j1, j2, j3, j4⟩ := readN_some hr2
          have HR2 : Hid (readN in2 = some (seq, k2)) := hr2
          have hlx : in2.length ≤ 65536 := by rw [List.length_drop] at hl3; omega
          by_cases hsq : 2147483647 < seq
          · have g6 : decide ((2147483647 : Int) < (seq : Int)) = true := decide_eq_true (by omega)
            have HN : Hid (docR xs = none) := HNO.out (gEnt_5 HR1.out HPS.out.1 h3 hr2 (.inl hsq))
            clear h3 hb3 HCT HRD hs4 ho3 hl3 hb256 ht256 hrow3 hr2 hal j4 hsq hlx
            go_wp2_with fail
            refine HRE.mono ?_
            rintro e w4 ⟨rfl, rfl⟩
            go_wp2
            go_ret2
            exact ⟨.inr ⟨HN.out, rfl⟩, HO3.out.2⟩
          have g6 : decide ((2147483647 : Int) < (seq : Int)) = false := decide_eq_false (by omega)
          by_cases hle : in2.length = k2
          · have g7 : ((in2.length : Int) == (k2 : Int)) = true := by simp [hle]
            have g7' : (in2.length == k2) = true := by simp [hle]
            have HN : Hid (docR xs = none) := HNO.out (gEnt_5 HR1.out HPS.out.1 h3 hr2 (.inr hle))
            clear h3 hb3 HCT HRD hs4 ho3 hl3 hb256 ht256 hrow3 hr2 hal j4 hsq hlx hle
            go_wp2_with fail
            refine HRE.mono ?_
            rintro e w4 ⟨rfl, rfl⟩
            go_wp2
            go_ret2
            exact ⟨.inr ⟨HN.out, rfl⟩, HO3.out.2⟩
          have g7 : ((in2.length : Int) == (k2 : Int)) = false := by simp; omega
          have g7' : (in2.length == k2) = false := by simpa using hle
          have H5 : Hid (¬ (2147483647 < seq ∨ in2.length = k2)) := by show ¬ _; omega
          obtain ⟨b3, o3, rfl⟩ := hrow3.bin.addr (by omega)
          have e0 := hrow3.bin.cell k2 (by omega)
          obtain ⟨ch, hch⟩ : ∃ ch, in2.getD k2 0 = ch := ⟨_, rfl⟩
          rw [hch] at e0
          have HCH : Hid (in2.getD k2 0 = ch) := hch
          have HRW3 : Hid (Brow w1 w3 (some ⟨b3, o3, none⟩) in2.length c3 in2 ∧ k2 + 1 ≤ in2.length) := ⟨hrow3, by omega⟩
          have e1 : (w3.alloc (.cells #[.string ⟨#[]⟩, .string ⟨#[]⟩, .int .i64 0, .bool false] 29)).cell? ⟨b3, o3 + k2, none⟩ = some (.int .u8 (ch : Int)) := ((below_alloc w3 _).cell (World.block_lt_of_cell? _ _ e0)).trans e0
          have q0 : (0 : Int) ≤ (k2 : Int) := by omega
          have q1 : (k2 : Int) < (in2.length : Int) := by omega
          have q2 : IntKind.i64.wrap (seq : Int) = (seq : Int) := by rw [IntKind.wrap_i64]; omega
          have q3 : IntKind.i64.wrap (pp : Int) = (pp : Int) := by rw [IntKind.wrap_i64]; omega
          have q4 : (pp : Int) ≤ (s.size : Int) := by omega
          have q5 : (0 : Int) ≤ (pp : Int) := by omega
          obtain ⟨k3, hk3⟩ : ∃ k3, k2 + 1 = k3 := ⟨_, rfl⟩
          have q6 : IntKind.i64.wrap ((k2 : Int) + 1) = (k3 : Int) := by rw [IntKind.wrap_i64]; omega
          have HK3 : Hid (k2 + 1 = k3) := hk3
          obtain ⟨key, hkey⟩ : ∃ key, s.extract 0 pp ++ strOf rest = key := ⟨_, rfl⟩
          have hcb : (s.extract 0 pp).size + (strOf rest).size ≤ 9223372036854775807 := by have := H3.out.2.1; have := HPS.out.2; rw [ByteArray.size_extract, strOf_size]; omega
          have hcat : ∀ w', (Op.stringOp .add (s.extract 0 pp) (strOf rest)).run Try.prog w' = .ok (.string key) w' := by
            intro w'
            rw [run_string_add_sum w' _ _ hcb, hkey]
          have HKY : Hid (s.extract 0 pp ++ strOf rest = key ∧ key.size ≤ pp + rest.length) := ⟨hkey, by rw [← hkey, ByteArray.size_append, ByteArray.size_extract, strOf_size]; omega⟩
          obtain ⟨gn, hgn⟩ : ∃ gn, ((ch : Int) == 1) = gn := ⟨_, rfl⟩
          have HGN : Hid (((ch : Int) == 1) = gn) := hgn
          have HPP : Hid (pp ≤ s.size) := by show _ ≤ _; omega
          clear h3 hb3 HCT HRD hs4 ho3 hl3 hb256 ht256 hrow3 hr2 hal j4 j1 j2 j3 hsq hlx hle hch hkey hps hk3
          go_wp2_with fail
          refine HRE.mono ?_
          rintro e w4 ⟨rfl, rfl⟩
          clear HRE
          go_upto_region 22 with fail
          go_cut [20] from 102 to 139 (fun j wx => ∃ h, j = .pointer (some ⟨h, 0, none⟩) ∧ wx.heap[h]? = some (.cells #[.string key, .string ByteArray.empty, .int .i64 (seq : Int), .bool gn] 29 (0, 0)) ∧ Below w4.heap.size w4 wx ∧ w4.heap.size ≤ h)
          case first =>
            go_region
            go_wp2
            go_meet
            case rel => exact ⟨_, rfl, heap_alloc_new _ _, (below_alloc _ _).drew, Nat.le_refl _⟩
          case rest =>
            obtain ⟨h, rfl, hbox, hbw, hhw⟩ := hcut
            have HH : Hid (w4.heap.size ≤ h) := hhw
            have hge : w1.heap.size ≤ h := Nat.le_trans HO3.out.2.size hhw
            obtain ⟨p5, hs5, hrow5⟩ := HRW3.out.1.cut (k := k3) (by rw [← HK3.out]; exact HRW3.out.2)
            have HR5 : Hid (Brow w1 wc p5 (in2.length - k3) (c3 - k3) (in2.drop k3)) := hrow5.below hbw
            obtain ⟨⟨x0, x1, x2, x3⟩, f0, f1, f2, f3⟩ := four hbox
            have HBX0 : Hid (wc.heap[h]? = some (.cells #[.string key, .string ByteArray.empty, .int .i64 (seq : Int), .bool gn] 29 (0, 0)) ∧ EOwn wc w1.heap.size (.slice q l.length cq) l ∧ Below w1.heap.size w1 wc) := ⟨hbox, HO3.out.1.below hbw, below_bt HO3.out.2 hbw⟩
            clear hbox hrow5 hcat hcb e0 e1 q0 q1 hhw
            cases gn with
            | true =>
              have HT : Hid (EOwn wc w1.heap.size (.slice q l.length cq) l ∧ Below w1.heap.size w1 wc ∧ Brow w1 wc p5 (in2.length - k3) (c3 - k3) (in2.drop k3) ∧ wc.heap[h]? = some (.cells #[.string key, .string ByteArray.empty, .int .i64 (seq : Int), .bool true] 29 (0, 0)) ∧ gEnt s xk = some (⟨key, ByteArray.empty, (seq : Int), true⟩, in2.drop k3) ∧ key.size + (in2.drop k3).length ≤ 65536) := by
                refine ⟨HBX0.out.2.1, HBX0.out.2.2, HR5.out, HBX0.out.1, ?_, ?_⟩
                · have h6 : in2.getD k2 0 = 1 := by rw [HCH.out]; have := HGN.out; simp at this; omega
                  have := gEnt_6 HR1.out HPS.out.1 H3.out.1 HR2.out H5.out h6
                  rw [HKY.out.1, HK3.out] at this
                  exact this
                · have := HKY.out.2; have := H3.out.2.1; have := HPS.out.2; have := HPP.out; rw [List.length_drop]; omega
              have hb9 := below_alloc wc (.cells #[.string key, .string ByteArray.empty, .int .i64 (seq : Int), .bool true] 29)
              have HOW : Hid (EOwn (wc.alloc (.cells #[.string key, .string ByteArray.empty, .int .i64 (seq : Int), .bool true] 29)) w1.heap.size (.slice q l.length cq) l) := HT.out.1.below hb9
              have HBE : Hid (Below w1.heap.size w1 (wc.alloc (.cells #[.string key, .string ByteArray.empty, .int .i64 (seq : Int), .bool true] 29))) := below_bt HT.out.2.1 hb9
              have HRW : Hid (Brow w1 (wc.alloc (.cells #[.string key, .string ByteArray.empty, .int .i64 (seq : Int), .bool true] 29)) p5 (in2.length - k3) (c3 - k3) (in2.drop k3)) := HT.out.2.2.1.below hb9
              have HBX : Hid ((wc.alloc (.cells #[.string key, .string ByteArray.empty, .int .i64 (seq : Int), .bool true] 29)).heap[h]? = some (.cells #[.string key, .string ByteArray.empty, .int .i64 (seq : Int), .bool true] 29 (0, 0))) := block_below HT.out.2.2.2.1 hb9
              have HLT : Hid (∀ k, (Value.slice q l.length cq).ownBlock = some k → w1.heap.size ≤ k ∧ k ≠ h) := fun k hk => ⟨(World.ownsRow.lt HOW.out k hk).1, by have := (World.ownsRow.lt HO3.out.1 k hk).2; have := HH.out; omega⟩
              have HCL : Hid (∀ j u, [Value.string key, .string ByteArray.empty, .int .i64 (seq : Int), .bool true][j]? = some u → (wc.alloc (.cells #[.string key, .string ByteArray.empty, .int .i64 (seq : Int), .bool true] 29)).cell? ((⟨wc.heap.size, 0, none⟩ : Addr).add j) = some u) := by
                have hcl := ent_cells wc (.string key) (.string ByteArray.empty) (.int .i64 (seq : Int)) (.bool true) 29
                (try rw [show wc.heap.size = wc.heap.size by simp] at hcl)
                exact hcl
              have HBA : Hid (∀ ua, (wc.alloc (.cells #[.string key, .string ByteArray.empty, .int .i64 (seq : Int), .bool true] 29)).grownBy ua (Value.slice q l.length cq).ownBlock → ua.cell? ⟨h, 0, none⟩ = some (.string key)) := by
                intro ua hga
                exact (four ((hga.block _ (lt_heap HBX.out) (fun e => (HLT.out h e.symm).2 rfl)).trans HBX.out)).1.1
              clear hb9
              go_wp2_with (at_builtin; go_loud (refine wpList_append_own _ rfl _ _ 26 rfl w1.heap.size 29 i0 _ 4 48 Try.underlying26 hi hz0 hz1 hz2 rfl (by omega) _ _ _ rfl HOW.out ⟨wc.heap.size, 0, none⟩ 1 1 [.string key, .string ByteArray.empty, .int .i64 (seq : Int), .bool true] rfl rfl HCL.out (ent_one key ByteArray.empty (seq : Int) true) (by have := HLL.out; unfold maxLen; omega) (by have := HLL.out; omega) HBE.out.size ?_); intro va ua hoa hga _; have d0 := HBA.out ua hga; have HNW : Hid (OnD w1 R (m - (k + 1)) key (in2.drop k3) p5 (in2.length - k3) (c3 - k3) va (l ++ [⟨key, ByteArray.empty, (seq : Int), true⟩]) ua) := ond_app HO.out HMK.out HT.out.2.2.2.2.1 HOW.out HBE.out HRW.out hoa hga HT.out.2.2.2.2.2; clear hoa hga)
              go_roundw
              case rel => exact ⟨k + 1, key, in2.drop k3, p5, in2.length - k3, c3 - k3, l ++ [⟨key, ByteArray.empty, (seq : Int), true⟩], by omega, by go_num, rfl, rfl, by rw [List.length_append, HLL.out.1]; rfl, HNW.out⟩
              case measure => simp [intOf]; omega
            | false =>
              have HNE : Hid (¬ in2.getD k2 0 = 1) := by show ¬ _; rw [HCH.out]; have := HGN.out; simp at this; omega
              have HCT := refCut_u p5 (in2.length - k3) (c3 - k3) (in2.drop k3) wc HR5.out.len HR5.out.bin (by rw [List.length_drop]; have := H3.out.2.1; have := HPS.out.2; omega) HR5.out.cap.1
              go_wp2_with fail
              refine HCT.mono ?_
              rintro e w6 hct
              rcases hct with ⟨h7, rfl, hb6⟩ | ⟨vv, in3, v6, h7, rfl, ho6, hb6, hl6, hb256, _⟩
              · have HN : Hid (docR xs = none) := HNO.out (gEnt_7 HR1.out HPS.out.1 H3.out.1 HR2.out H5.out HNE.out (by rw [HK3.out]; exact h7))
                have HB6 : Hid (Below w1.heap.size w1 w6) := below_bt HBX0.out.2.2 hb6
                clear h7 hb6 HCT
                go_wp2
                go_ret2
                exact ⟨.inr ⟨HN.out, rfl⟩, HB6.out⟩
              obtain ⟨p6, c6, rfl, _, _, _⟩ := own_form ho6
              have hbx6 := block_below HBX0.out.1 hb6
              have HT : Hid (EOwn (w6.setCell ⟨h, 1, none⟩ (.string (strOf vv))) w1.heap.size (.slice q l.length cq) l ∧ Below w1.heap.size w1 (w6.setCell ⟨h, 1, none⟩ (.string (strOf vv))) ∧ Brow w1 (w6.setCell ⟨h, 1, none⟩ (.string (strOf vv))) p6 in3.length c6 in3 ∧ (w6.setCell ⟨h, 1, none⟩ (.string (strOf vv))).heap[h]? = some (.cells #[.string key, .string (strOf vv), .int .i64 (seq : Int), .bool false] 29 (0, 0)) ∧ gEnt s xk = some (⟨key, strOf vv, (seq : Int), false⟩, in3) ∧ key.size + in3.length ≤ 65536) := by
                refine ⟨?_, (below_bt HBX0.out.2.2 hb6).setCell (by show w1.heap.size ≤ h; exact hge) _, (Brow.own ho6 hb256).set hbx6 (noU8_4 _ _ _ _) _ _, block_set hbx6 _, ?_, ?_⟩
                · exact World.ownsRow.kept (HBX0.out.2.1.below hb6) (grown_set _ _ _ _) (.inr (fun e => by have := (World.ownsRow.lt HO3.out.1 h e).2; have := HH.out; omega))
                · have := gEnt_8 HR1.out HPS.out.1 H3.out.1 HR2.out H5.out HNE.out (by rw [HK3.out]; exact h7)
                  rw [HKY.out.1] at this
                  exact this
                · have := HKY.out.2; have := H3.out.2.1; have := HPS.out.2; have := HPP.out; rw [List.length_drop] at hl6; omega
              clear x0 x1 x2 x3 f0 f1 f2 f3
              obtain ⟨⟨x0, x1, x2, x3⟩, f0, f1, f2, f3⟩ := four hbx6
              obtain ⟨⟨y0, y1, y2, y3⟩, _⟩ := four HT.out.2.2.2.1
              clear h7 hb6 HCT ho6 hl6 hb256 hbx6
              have hb9 := below_alloc (w6.setCell ⟨h, 1, none⟩ (.string (strOf vv))) (.cells #[.string key, .string (strOf vv), .int .i64 (seq : Int), .bool false] 29)
              have HOW : Hid (EOwn ((w6.setCell ⟨h, 1, none⟩ (.string (strOf vv))).alloc (.cells #[.string key, .string (strOf vv), .int .i64 (seq : Int), .bool false] 29)) w1.heap.size (.slice q l.length cq) l) := HT.out.1.below hb9
              have HBE : Hid (Below w1.heap.size w1 ((w6.setCell ⟨h, 1, none⟩ (.string (strOf vv))).alloc (.cells #[.string key, .string (strOf vv), .int .i64 (seq : Int), .bool false] 29))) := below_bt HT.out.2.1 hb9
              have HRW : Hid (Brow w1 ((w6.setCell ⟨h, 1, none⟩ (.string (strOf vv))).alloc (.cells #[.string key, .string (strOf vv), .int .i64 (seq : Int), .bool false] 29)) p6 in3.length c6 in3) := HT.out.2.2.1.below hb9
              have HBX : Hid (((w6.setCell ⟨h, 1, none⟩ (.string (strOf vv))).alloc (.cells #[.string key, .string (strOf vv), .int .i64 (seq : Int), .bool false] 29)).heap[h]? = some (.cells #[.string key, .string (strOf vv), .int .i64 (seq : Int), .bool false] 29 (0, 0))) := block_below HT.out.2.2.2.1 hb9
              have HLT : Hid (∀ k, (Value.slice q l.length cq).ownBlock = some k → w1.heap.size ≤ k ∧ k ≠ h) := fun k hk => ⟨(World.ownsRow.lt HOW.out k hk).1, by have := (World.ownsRow.lt HO3.out.1 k hk).2; have := HH.out; omega⟩
              have HCL : Hid (∀ j u, [Value.string key, .string (strOf vv), .int .i64 (seq : Int), .bool false][j]? = some u → ((w6.setCell ⟨h, 1, none⟩ (.string (strOf vv))).alloc (.cells #[.string key, .string (strOf vv), .int .i64 (seq : Int), .bool false] 29)).cell? ((⟨w6.heap.size, 0, none⟩ : Addr).add j) = some u) := by
                have hcl := ent_cells (w6.setCell ⟨h, 1, none⟩ (.string (strOf vv))) (.string key) (.string (strOf vv)) (.int .i64 (seq : Int)) (.bool false) 29
                (try rw [show (w6.setCell ⟨h, 1, none⟩ (.string (strOf vv))).heap.size = w6.heap.size by simp] at hcl)
                exact hcl
              have HBA : Hid (∀ ua, ((w6.setCell ⟨h, 1, none⟩ (.string (strOf vv))).alloc (.cells #[.string key, .string (strOf vv), .int .i64 (seq : Int), .bool false] 29)).grownBy ua (Value.slice q l.length cq).ownBlock → ua.cell? ⟨h, 0, none⟩ = some (.string key)) := by
                intro ua hga
                exact (four ((hga.block _ (lt_heap HBX.out) (fun e => (HLT.out h e.symm).2 rfl)).trans HBX.out)).1.1
              clear hb9
              go_wp2_with (at_builtin; go_loud (refine wpList_append_own _ rfl _ _ 26 rfl w1.heap.size 29 i0 _ 4 48 Try.underlying26 hi hz0 hz1 hz2 rfl (by omega) _ _ _ rfl HOW.out ⟨w6.heap.size, 0, none⟩ 1 1 [.string key, .string (strOf vv), .int .i64 (seq : Int), .bool false] rfl rfl HCL.out (ent_one key (strOf vv) (seq : Int) false) (by have := HLL.out; unfold maxLen; omega) (by have := HLL.out; omega) HBE.out.size ?_); intro va ua hoa hga _; have d0 := HBA.out ua hga; have HNW : Hid (OnD w1 R (m - (k + 1)) key in3 p6 in3.length c6 va (l ++ [⟨key, (strOf vv), (seq : Int), false⟩]) ua) := ond_app HO.out HMK.out HT.out.2.2.2.2.1 HOW.out HBE.out HRW.out hoa hga HT.out.2.2.2.2.2; clear hoa hga)
              go_roundw
              case rel => exact ⟨k + 1, key, in3, p6, in3.length, c6, l ++ [⟨key, strOf vv, (seq : Int), false⟩], by omega, by go_num, rfl, rfl, by rw [List.length_append, HLL.out.1]; rfl, HNW.out⟩
              case measure => simp [intOf]; omega
      · have g4 : decide (k < m) = false := decide_eq_false hkm
        have hkI : (m : Int) ≤ (k : Int) := by omega
        have HRL : Hid (R = some l) := by
          show _ = _
          rw [hon.cut, show m - k = 0 from by omega]
          unfold gL
          simp
        obtain ⟨ys, E, hE⟩ : ∃ ys E, makeE l = (ys, E) := ⟨_, _, rfl⟩
        have HDR : Hid (docR xs = if makeE l = (xs, 0) then some l else none) := docR_some HL.out.1 (by rw [HGD.out, HRL.out])
        have HE : Hid (makeE l = (ys, E)) := hE
        have HMK := rMake_any q l.length cq l wr ⟨rfl, hon.own.ents⟩ ys E hE
        clear hon hE
        go_wp2_with fail
        refine HMK.mono ?_
        rintro e w5 ⟨v5, rfl, ho5, hb5⟩
        obtain ⟨p5, c5, rfl, _, _, _⟩ := own_form ho5
        have HO5 : Hid (EOwn w5 w1.heap.size (.slice q l.length cq) l ∧ Below w1.heap.size w1 w5) := ⟨HO.out.own.below hb5, below_bt HO.out.bel hb5⟩
        rcases Nat.eq_zero_or_pos E with h0 | h0
        · subst h0
          have hyb : ∀ c ∈ ys, c < 256 := by obtain ⟨_, e, _⟩ := makeE_ok HE.out; rw [e]; exact pageN_lt l
          have hcv1 := conv_bytes (own_in ho5 hyb) rfl c5
          have hcv2 := conv_bytes (HXB.out.1.below (below_bt HO.out.bel hb5)) HXB.out.2 cb
          have hse := str_eq hyb HXB.out.1.2
          by_cases hyx : ys = xs
          · subst hyx
            have HN : Hid (docR ys = some l) := by show _ = _; rw [HDR.out, if_pos HE.out]
            clear ho5 hb5 HMK hyb hse
            go_wp2
            go_ret2
            exact ⟨.inl ⟨l, _, HN.out, rfl, HO5.out.1⟩, HO5.out.2⟩
          · have HN : Hid (docR xs = none) := by show _ = _; rw [HDR.out, if_neg (by rw [HE.out]; simp [hyx])]
            have hs1 : ((strOf ys).toList == (strOf xs).toList) = false := by rw [hse]; simp [hyx]
            clear ho5 hb5 HMK hyb hse hyx
            go_wp2
            go_ret2
            exact ⟨.inr ⟨HN.out, rfl⟩, HO5.out.2⟩
        · have hne : ((E : Int) != 0) = true := by simp; omega
          have HN : Hid (docR xs = none) := by show _ = _; rw [HDR.out, if_neg (by rw [HE.out]; simp; intro _; omega)]
          clear ho5 hb5 HMK h0
          go_wp2
          go_ret2
          exact ⟨.inr ⟨HN.out, rfl⟩, HO5.out.2⟩
end Go.Proofs.Ytlcbjmbphekliaa
namespace Go.Proofs.Ytlcbjmbphekliaa
open Go.RowKit Go.WideShapes

set_option maxHeartbeats 400000 in
theorem refCut_big (p : Option Addr) (cap : Nat) (xs : List Nat) (w : World) (hb : BIn w p xs) (hm : xs.length ≤ 100000000) (hcap : xs.length ≤ cap) (n k : Nat) (hr : readN xs = some (n, k)) (hl : k + n ≤ xs.length) :
    Calls Try.prog 73 #[.slice p xs.length cap] w fun e w' => ∃ v, e = .returned (.tuple #[.string (strOf ((xs.drop k).take n)), v, .int .i64 0]) ∧ w'.ownsRow w.heap.size 5 1 v (xs.drop (k + n)).length (Bs (xs.drop (k + n))) ∧ Below w.heap.size w w' := by
  obtain ⟨k1, k2, k3, k4⟩ := readN_some hr
  obtain ⟨b, o, rfl, hc⟩ := hb.1 (by omega)
  have HR : Hid _ := hr
  clear hr hc
  have hm' : xs.length ≤ maxLen := by unfold maxLen; omega
  have q1 : (0 : Int) ≤ (k : Int) + n ∧ (k : Int) + n ≤ cap := by omega
  have q2 : ((k : Int) + n).toNat = k + n := by omega
  have q3 : k ≤ k + n := by omega
  have q4 : (k : Int) + n ≤ xs.length := by omega
  have B1 := bin_part hb cap k hcap n
  have B2 := bin_part hb cap (k + n) hcap xs.length
  have e2 : Hid ((xs.drop (k + n)).take xs.length = xs.drop (k + n)) := List.take_of_length_le (by simp)
  rw [e2.out] at B2
  have L1 : Hid (n = ((xs.drop k).take n).length) := by show _ = _; simp; omega
  have L2 : Hid (xs.length - (k + n) = (xs.drop (k + n)).length) := by show _ = _; simp
  obtain ⟨A1, hA1⟩ : ∃ A, (if cap = k then some (⟨b, o, none⟩ : Addr) else some ⟨b, o + k, none⟩) = A := ⟨_, rfl⟩
  obtain ⟨A2, hA2⟩ : ∃ A, (if cap = k + n then some (⟨b, o, none⟩ : Addr) else some ⟨b, o + (k + n), none⟩) = A := ⟨_, rfl⟩
  rw [hA1] at B1
  rw [hA2] at B2
  have HB1 : Hid _ := B1
  have HB2 : Hid _ := B2
  have P2 : Hid (A2 = none → cap - (k + n) = 0) := by show _ → _; intro h; rw [h] at hA2; split at hA2 <;> cases hA2
  have Z2 : Hid (([] : List Nat).length + (xs.drop (k + n)).length ≤ 140737488355328) := by show _ ≤ _; simp; omega
  have HI : Hid (BIn w (some ⟨b, o, none⟩) xs) := hb
  clear B1 B2 hb
  go_enter Try.func73, Try.ntmps73
  go_wp2_with fail
  refine (refRead_some _ xs.length cap xs w n k rfl HI.out hm' HR.out).mono ?_
  rintro e w1 ⟨rfl, rfl⟩
  clear HR hm'
  go_wp2_with (at_builtin; refine wpList_append_bytes _ rfl _ _ rfl w1.heap.size _ [] (xs.drop (k + n)) A2 _ _ rfl rfl L2.out (World.ownsRow_nil _ _ _ _) HB2.out P2.out Z2.out (Nat.le_refl _) ?_)
  intro v' w2 hown hgrow
  have hbl : Below w1.heap.size w1 w2 := (Below.refl w1.heap.size w1).grown hgrow (Nat.le_refl _) (fun k hk => by simp [Value.ownBlock] at hk)
  have cv1 := conv_at (c := cap - k) (BIn.below HB1.out hbl) L1.out
  have HO : Hid (w2.ownsRow w1.heap.size 5 1 v' (xs.drop (k + n)).length (Bs (xs.drop (k + n)))) := by show World.ownsRow _ _ _ _ _ _ _; simpa using hown
  clear hown hgrow
  go_wp2
  go_ret3
  exact ⟨v', rfl, HO.out, hbl⟩
theorem refCut_w (p : Option Addr) (n cap : Nat) (xs : List Nat) (w : World) (hn : n = xs.length) (hb : BIn w p xs) (hm : xs.length ≤ 100000000) (hcap : xs.length ≤ cap) :
    Calls Try.prog 73 #[.slice p n cap] w fun e w' => CutO xs w e w' := by
  subst hn
  rcases hr : readN xs with _ | ⟨n, k⟩
  · refine (refCut_none p cap xs w hb (by unfold maxLen; omega) hr).mono ?_
    rintro e w' ⟨rfl, rfl⟩
    exact .inl ⟨cutT_none1 hr, rfl, Below.refl _ _⟩
  · by_cases hl : xs.length < k + n
    · refine (refCut_long p cap xs w hb (by unfold maxLen; omega) n k hr hl).mono ?_
      rintro e w' ⟨rfl, rfl⟩
      exact .inl ⟨cutT_none2 hr hl, rfl, Below.refl _ _⟩
    · refine (refCut_big p cap xs w hb hm hcap n k hr (by omega)).mono ?_
      rintro e w' ⟨v, rfl, ho, hbb⟩
      exact .inr ⟨_, _, v, cutT_some hr hl, rfl, ho, hbb, by rw [List.length_take, List.length_drop, List.length_drop]; omega, fun c hc => hb.2 c (List.mem_of_mem_drop hc), fun c hc => hb.2 c (List.mem_of_mem_drop (List.mem_of_mem_take hc))⟩

def tL : Nat → List Nat → List Nat → Option (List EntV)
  | 0, _, _ => some []
  | k + 1, xs, left =>
    match cutT xs with
    | none => none
    | some (_, a) =>
      match cutT a with
      | none => none
      | some (_, c) =>
        match readN c with
        | none => none
        | some (size, j) => if left.length < size then none else
          match readE (left.take size) with
          | none => none
          | some l => (tL k (c.drop j) (left.drop size)).map fun m => l ++ m
def docG (xs : List Nat) : Option (List EntV) :=
  match cutTab xs with
  | none => none
  | some (left, inn) =>
    match readN inn with
    | none => none
    | some (m, k) => if 4096 < m then none else tL m (inn.drop k) left
noncomputable def docT (xs : List Nat) : Option (List EntV) :=
  match docG xs with
  | none => none
  | some l => if makeT l = (xs, 0) then some l else none
theorem tL_back : ∀ (ps : List (List EntV)) (r : List Nat), (∀ p ∈ ps, makeE p = (pageN p, 0) ∧ OkP p) → tL ps.length (spotsN ps ++ r) (pagesN ps) = some ps.flatten
  | [], _, _ => rfl
  | p :: ps, r, h => by
    obtain ⟨h1, h2, h3, h4⟩ := h p (by simp)
    have ih := tL_back ps r (fun q hq => h q (by simp [hq]))
    have e : spotsN (p :: ps) ++ r = smallN (numsOf (firstK p)).length ++ (numsOf (firstK p) ++ (smallN (numsOf (lastKy p)).length ++ (numsOf (lastKy p) ++ (smallN (pageN p).length ++ (spotsN ps ++ r))))) := by
      simp only [spotsN, List.flatMap_cons, spotN, textN_def, numsOf_len, List.append_assoc]
    have c1 := cutT_back (numsOf (firstK p)) (smallN (numsOf (lastKy p)).length ++ (numsOf (lastKy p) ++ (smallN (pageN p).length ++ (spotsN ps ++ r)))) (by rw [numsOf_len]; omega)
    have c2 := cutT_back (numsOf (lastKy p)) (smallN (pageN p).length ++ (spotsN ps ++ r)) (by rw [numsOf_len]; omega)
    have c3 := read_back (pageN p).length (spotsN ps ++ r) (by omega)
    simp only [List.length_cons, tL, e, c1, c2, c3]
    rw [pagesN_cons, if_neg (by simp), List.take_left' rfl, List.drop_left' rfl, read_make h1, List.drop_left' rfl, ih]
    simp
theorem docG_back {l : List EntV} {xs : List Nat} (h : makeT l = (xs, 0)) : docG xs = some l := by
  obtain ⟨h1, h2, rfl, h4⟩ := makeT_ok h
  have hp := parts_is l
  have hn : (partE l).length ≤ 4096 := Nat.le_trans (len_flat _ hp.pos) (by rw [hp.flat]; exact ((checkE_rise l).1 h1).1)
  have hb := tL_back (partE l) [] (fun p hm => ⟨makeE_page (hp.small h1 p hm).1 (by have := (hp.small h1 p hm).2; omega), okp_of hp h1 p hm⟩)
  rw [List.append_nil, hp.flat] at hb
  unfold docG
  rw [cutTab_table h4]
  simp only [indexN]
  rw [read_back _ _ (by omega)]
  simp only
  rw [if_neg (by omega), List.drop_left' rfl, hb]
theorem docT_iff {l : List EntV} {xs : List Nat} : docT xs = some l ↔ makeT l = (xs, 0) := by
  constructor
  · intro h
    unfold docT at h
    split at h
    · cases h
    · split at h
      · rename_i hm
        rw [← Option.some.inj h]; exact hm
      · cases h
  · intro h
    unfold docT
    rw [docG_back h]
    simp only
    rw [if_pos h]
theorem docT_none {xs : List Nat} (hx : ∀ c ∈ xs, c < 256) (h : docT xs = none) : readT xs = none := by
  cases hr : readT xs with
  | none => rfl
  | some ps =>
    have := docT_iff.2 (make_readT hx hr).1
    rw [h] at this
    cases this
/-! ### Steps -/
theorem docT_g {xs : List Nat} (h : docG xs = none) : docT xs = none := by unfold docT; rw [h]
theorem docG_1 {xs : List Nat} (h : cutTab xs = none) : docG xs = none := by unfold docG; rw [h]
theorem docG_2 {xs left inn : List Nat} (h : cutTab xs = some (left, inn)) (h2 : readN inn = none) : docG xs = none := by unfold docG; rw [h]; simp only; rw [h2]
theorem docG_3 {xs left inn : List Nat} (h : cutTab xs = some (left, inn)) {m k : Nat} (h2 : readN inn = some (m, k)) (h3 : 4096 < m) : docG xs = none := by unfold docG; rw [h]; simp only; rw [h2]; simp only; rw [if_pos h3]
theorem docG_4 {xs left inn : List Nat} (h : cutTab xs = some (left, inn)) {m k : Nat} (h2 : readN inn = some (m, k)) (h3 : ¬ 4096 < m) : docG xs = tL m (inn.drop k) left := by unfold docG; rw [h]; simp only; rw [h2]; simp only; rw [if_neg h3]
theorem tL_1 {k : Nat} {xs left : List Nat} (h : cutT xs = none) : tL (k + 1) xs left = none := by unfold tL; rw [h]
theorem tL_2 {k : Nat} {xs left t a : List Nat} (h : cutT xs = some (t, a)) (h2 : cutT a = none) : tL (k + 1) xs left = none := by unfold tL; rw [h]; simp only; rw [h2]
theorem tL_3 {k : Nat} {xs left t a u c : List Nat} (h : cutT xs = some (t, a)) (h2 : cutT a = some (u, c)) (h3 : readN c = none) : tL (k + 1) xs left = none := by unfold tL; rw [h]; simp only; rw [h2]; simp only; rw [h3]
theorem tL_4 {k : Nat} {xs left t a u c : List Nat} (h : cutT xs = some (t, a)) (h2 : cutT a = some (u, c)) {size j : Nat} (h3 : readN c = some (size, j)) (h4 : left.length < size) : tL (k + 1) xs left = none := by unfold tL; rw [h]; simp only; rw [h2]; simp only; rw [h3]; simp only; rw [if_pos h4]
theorem tL_5 {k : Nat} {xs left t a u c : List Nat} (h : cutT xs = some (t, a)) (h2 : cutT a = some (u, c)) {size j : Nat} (h3 : readN c = some (size, j)) (h4 : ¬ left.length < size) (h5 : readE (left.take size) = none) : tL (k + 1) xs left = none := by unfold tL; rw [h]; simp only; rw [h2]; simp only; rw [h3]; simp only; rw [if_neg h4, h5]
theorem tL_6 {k : Nat} {xs left t a u c : List Nat} (h : cutT xs = some (t, a)) (h2 : cutT a = some (u, c)) {size j : Nat} (h3 : readN c = some (size, j)) (h4 : ¬ left.length < size) {l : List EntV} (h5 : readE (left.take size) = some l) : tL (k + 1) xs left = (tL k (c.drop j) (left.drop size)).map fun m => l ++ m := by simp only [tL, h, h2, h3, if_neg h4, h5]
theorem cutT_nil : cutT [] = none := cutT_none1 rfl
theorem read_count {xs : List Nat} (hx : ∀ c ∈ xs, c < 256) {l : List EntV} (h : readE xs = some l) : l.length ≤ xs.length := by
  obtain ⟨_, e, _⟩ := makeE_ok (make_read hx h)
  rw [e]
  exact ents_page l
end Go.Proofs.Ytlcbjmbphekliaa
namespace Go.Proofs.Ytlcbjmbphekliaa
open Go.RowKit Go.WideShapes

theorem rGet8_any (p : Option Addr) (c : Nat) (xs : List Nat) (w : World) (h : BIn w p xs) (h8 : 8 ≤ xs.length) (N : Nat) (hN : get8 xs = N) :
    Calls Try.prog 71 #[.slice p 8 c] w fun e w' => e = .returned (.tuple #[.int .u64 (N : Int), .int .i64 0]) ∧ w' = w := by
  subst hN
  exact refGet_ok p c _ _ _ _ _ _ _ _ w (bin_eight h h8)
theorem get8_take {xs : List Nat} (h : 8 ≤ xs.length) : get8 (xs.take 8) = get8 xs := by
  match xs, h with
  | a :: b :: c :: d :: e :: f :: g :: i :: r, _ => rfl
structure OnR (w : World) (R : Option (List EntV)) (k : Nat) (inn : List Nat) (pi : Option Addr) (ni ci : Nat) (left : List Nat) (pl : Option Addr) (nl cl : Nat) (v : Value) (l : List EntV) (wr : World) : Prop where
  own : EOwn wr w.heap.size v l
  bel : Below w.heap.size w wr
  row : Brow w wr pi ni ci inn
  lft : BIn w pl left ∧ nl = left.length ∧ nl ≤ cl ∧ cl ≤ maxLen ∧ (pl = none → cl = 0)
  cut : R = (tL k inn left).map fun m => l ++ m
  few : l.length + left.length ≤ 524288
  inl : inn.length ≤ 524288
theorem old_block {w : World} {p : Option Addr} {xs : List Nat} (h : BIn w p xs) (h0 : 0 < xs.length) {a : Addr} (ha : p = some a) : a.block < w.heap.size := by
  obtain ⟨b, o, e, hc⟩ := h.1 h0
  rw [ha] at e
  rw [Option.some.inj e]
  exact World.block_lt_of_cell? _ _ (hc 0 h0)
def RdOut (xs : List Nat) (base : Nat) (e : Ending) (w' : World) : Prop :=
  (∃ l v, docT xs = some l ∧ e = .returned (.tuple #[v, .bool true]) ∧ EOwn w' base v l) ∨ (docT xs = none ∧ ∃ v, e = .returned (.tuple #[v, .bool false]))
set_option maxRecDepth 20000 in
set_option maxHeartbeats 8000000 in
theorem rReadT_any (p : Option Addr) (n c : Nat) (xs : List Nat) (w : World) (h : BHand w p n c xs) :
    Calls Try.prog 47 #[.slice p n c] w fun e w' => RdOut xs w.heap.size e w' ∧ Below w.heap.size w w' := by
  have hn := h.len
  have hb := h.bin
  have hc := h.cap
  clear h
  by_cases h1 : n < 28
  · have g1 : (n : Int) < 28 := by omega
    have HN : Hid (docT xs = none) := docT_g (docG_1 (cutTab_bad (by omega)))
    clear h1 hb hc hn
    go_enter Try.func47, Try.ntmps47
    go_wp2
    go_ret2
    exact ⟨.inr ⟨HN.out, _, rfl⟩, Below.refl _ _⟩
  by_cases h2 : 524288 < n
  · have g1 : (28 : Int) ≤ (n : Int) := by omega
    have g2 : (524288 : Int) < (n : Int) := by omega
    have HN : Hid (docT xs = none) := docT_g (docG_1 (cutTab_bad (by omega)))
    clear h1 h2 hb hc hn
    go_enter Try.func47, Try.ntmps47
    go_wp2
    go_ret2
    exact ⟨.inr ⟨HN.out, _, rfl⟩, Below.refl _ _⟩
  obtain ⟨z, hz⟩ : ∃ z, n - 28 = z := ⟨_, rfl⟩
  obtain ⟨z1, hz1⟩ : ∃ z1, z + 8 = z1 := ⟨_, rfl⟩
  obtain ⟨z2, hz2⟩ : ∃ z2, z + 16 = z2 := ⟨_, rfl⟩
  have hw28 : IntKind.i64.wrap ((n : Int) - 28) = (z : Int) := by rw [IntKind.wrap_i64]; omega
  have hw20 : IntKind.i64.wrap ((n : Int) - 20) = (z1 : Int) := by rw [IntKind.wrap_i64]; omega
  have hw12 : IntKind.i64.wrap ((n : Int) - 12) = (z2 : Int) := by rw [IntKind.wrap_i64]; omega
  have hwn : IntKind.u64.wrap (n : Int) = (n : Int) := by rw [IntKind.wrap_u64]; omega
  obtain ⟨p1, c1, hs1, hbn1, q1, q2, q3⟩ := cut_mid p n c z z1 .i64 .i64 xs hn hc.1 (by omega) (by omega)
  obtain ⟨p2, c2, hs2, hbn2, r1, r2, r3⟩ := cut_mid p n c z1 z2 .i64 .i64 xs hn hc.1 (by omega) (by omega)
  have hB1 := hbn1 w hb
  have hB2 := hbn2 w hb
  rw [show z1 - z = 8 by omega] at hs1 hB1
  rw [show z2 - z1 = 8 by omega] at hs2 hB2
  obtain ⟨P, hP⟩ : ∃ P, get8 (xs.drop z) = P := ⟨_, rfl⟩
  obtain ⟨I, hI⟩ : ∃ I, get8 ((xs.drop z).drop 8) = I := ⟨_, rfl⟩
  have hI1 : get8 (xs.drop z1) = I := by rw [← hI, List.drop_drop, hz1]
  have HG1 := rGet8_any p1 c1 _ w hB1 (by rw [List.length_take, List.length_drop]; omega) P (by rw [get8_take (by rw [List.length_drop]; omega)]; exact hP)
  have HG2 := rGet8_any p2 c2 _ w hB2 (by rw [List.length_take, List.length_drop]; omega) I (by rw [get8_take (by rw [List.length_drop]; omega)]; exact hI1)
  have hPl : P < 18446744073709551616 := hP ▸ get8_lt (fun c hc => hb.2 c (List.mem_of_mem_drop hc))
  have hIl : I < 18446744073709551616 := hI ▸ get8_lt (fun c hc => hb.2 c (List.mem_of_mem_drop (List.mem_of_mem_drop hc)))
  have HCT : Hid (cutTab xs = if P ≤ z ∧ I ≤ z - P then some (xs.take P, (xs.drop P).take I) else none) := cutTab_is (xs := xs) (by omega) (by omega) hP hI
  have HB : Hid (BIn w p xs ∧ n = xs.length ∧ n ≤ c ∧ c ≤ maxLen ∧ (p = none → c = 0)) := ⟨hb, hn, hc⟩
  have g1 : (28 : Int) ≤ (n : Int) := by omega
  have g2 : (n : Int) ≤ 524288 := by omega
  have HZ : Hid (n - 28 = z ∧ 28 ≤ n ∧ n ≤ 524288) := ⟨hz, by omega, by omega⟩
  clear q1 q2 q3 r1 r2 r3 hbn1 hbn2 hB1 hB2 hP hI hI1 hn hb hc hz hz1 hz2 h1 h2
  go_enter Try.func47, Try.ntmps47
  go_wp2_with fail
  refine HG1.mono ?_
  rintro e w1 ⟨rfl, rfl⟩
  go_wp2_with fail
  refine HG2.mono ?_
  rintro e w2 ⟨rfl, rfl⟩
  clear HG1 HG2 hs1 hs2 hw20 hw12
  by_cases h3 : n < P
  · have g3 : (n : Int) < (P : Int) := by omega
    have HN : Hid (docT xs = none) := docT_g (docG_1 (by rw [HCT.out, if_neg (by have := HZ.out; omega)]))
    clear h3
    go_wp2
    go_ret2
    exact ⟨.inr ⟨HN.out, _, rfl⟩, Below.refl _ _⟩
  have g3 : (P : Int) ≤ (n : Int) := by omega
  by_cases h4 : n < I
  · have g4 : (n : Int) < (I : Int) := by omega
    have HN : Hid (docT xs = none) := docT_g (docG_1 (by rw [HCT.out, if_neg (by have := HZ.out; omega)]))
    clear h3 h4
    go_wp2
    go_ret2
    exact ⟨.inr ⟨HN.out, _, rfl⟩, Below.refl _ _⟩
  have g4 : (I : Int) ≤ (n : Int) := by omega
  obtain ⟨S, hS⟩ : ∃ S, P + I = S := ⟨_, rfl⟩
  have hwS : IntKind.u64.wrap ((P : Int) + (I : Int)) = (S : Int) := by rw [IntKind.wrap_u64]; omega
  have hwS2 : IntKind.i64.wrap (S : Int) = (S : Int) := by rw [IntKind.wrap_i64]; omega
  have hwP : IntKind.i64.wrap (P : Int) = (P : Int) := by rw [IntKind.wrap_i64]; omega
  by_cases h5 : z < S
  · have g5 : (z : Int) < (S : Int) := by omega
    have HN : Hid (docT xs = none) := docT_g (docG_1 (by rw [HCT.out, if_neg (by have := HZ.out; omega)]))
    clear h3 h4 h5 hS
    go_wp2
    go_ret2
    exact ⟨.inr ⟨HN.out, _, rfl⟩, Below.refl _ _⟩
  have g5 : (S : Int) ≤ (z : Int) := by omega
  obtain ⟨inn, hinn⟩ : ∃ inn, (xs.drop P).take I = inn := ⟨_, rfl⟩
  obtain ⟨left, hleft⟩ : ∃ left, xs.take P = left := ⟨_, rfl⟩
  have HCS : Hid (cutTab xs = some (left, inn)) := by
    show _ = _
    rw [HCT.out, if_pos (by have := HZ.out; omega), hinn, hleft]
  obtain ⟨pi, ci, hs3, hbi, i1, i2, i3⟩ := cut_mid p n c P S .i64 .i64 xs HB.out.2.1 HB.out.2.2.1 (by omega) (by have := HZ.out; omega)
  rw [show S - P = I by omega] at hs3 hbi
  have hil : inn.length = I := by rw [← hinn, List.length_take, List.length_drop]; have := HZ.out; have := HB.out.2.1; omega
  have hBI := hbi w2 HB.out.1
  rw [hinn] at hBI
  have HROW : Hid (Brow w2 w2 pi I ci inn) := ⟨hil.symm, hBI, ⟨by rw [hil]; have := HB.out; have := HZ.out; omega, by have := HB.out; omega, fun hp => by have := HB.out.2.2.2.2 (i3 hp); omega⟩, fun h0 a ha => .inl (old_block hBI h0 ha)⟩
  have hs4 := cut_to p n c P (by have := HB.out; omega)
  have HLF : Hid (BIn w2 p left ∧ P = left.length ∧ P ≤ c ∧ c ≤ maxLen ∧ (p = none → c = 0)) := by
    refine ⟨?_, ?_, by have := HB.out; omega, HB.out.2.2.2⟩
    · rw [← hleft]; exact HB.out.1.take' P
    · rw [← hleft, List.length_take]; have := HB.out.2.1; omega
  have hSc : (S : Int) ≤ (c : Int) := by have := HB.out; have := HZ.out; omega
  have hPS : (P : Int) ≤ (S : Int) := by omega
  have HPI : Hid (P ≤ 524288 ∧ I ≤ 524288 ∧ P ≤ n ∧ inn.length = I) := ⟨by have := HZ.out; omega, by have := HZ.out; omega, by omega, hil⟩
  clear i1 i2 i3 hbi hBI hil hinn hleft h3 h4 h5 hS HCT
  rcases hrd : readN inn with _ | ⟨m, k0⟩
  · have HN : Hid (docT xs = none) := docT_g (docG_2 HCS.out hrd)
    have HRD := refRead_none pi I ci inn w2 HROW.out.len HROW.out.bin (by have := HPI.out; unfold maxLen; omega) hrd
    clear hrd
    go_wp2_with fail
    refine HRD.mono ?_
    rintro e w3 ⟨rfl, rfl⟩
    clear HRD
    go_wp2
    go_ret2
    exact ⟨.inr ⟨HN.out, _, rfl⟩, Below.refl _ _⟩
  have HRD := refRead_some pi I ci inn w2 m k0 HROW.out.len HROW.out.bin (by have := HPI.out; unfold maxLen; omega) hrd
  obtain ⟨d1, d2, d3, d4⟩ := readN_some hrd
  by_cases h6 : 4096 < m
  · have g6 : (4096 : Int) < (m : Int) := by omega
    have HN : Hid (docT xs = none) := docT_g (docG_3 HCS.out hrd h6)
    clear hrd h6 d1 d2 d3 d4
    go_wp2_with fail
    refine HRD.mono ?_
    rintro e w3 ⟨rfl, rfl⟩
    clear HRD
    go_wp2
    go_ret2
    exact ⟨.inr ⟨HN.out, _, rfl⟩, Below.refl _ _⟩
  have g6 : (m : Int) ≤ 4096 := by omega
  have hwm : IntKind.i64.wrap (m : Int) = (m : Int) := by rw [IntKind.wrap_i64]; omega
  have HGD : Hid (docG xs = tL m (inn.drop k0) left) := docG_4 HCS.out hrd h6
  have HK0 : Hid (k0 ≤ I) := by have := HPI.out; show _ ≤ _; omega
  obtain ⟨pj, hs5, hrj⟩ := HROW.out.cut HK0.out
  obtain ⟨nj, hnj⟩ : ∃ nj, I - k0 = nj := ⟨_, rfl⟩
  obtain ⟨cj, hcj⟩ : ∃ cj, ci - k0 = cj := ⟨_, rfl⟩
  rw [hnj, hcj] at hs5 hrj
  have hk0c : (k0 : Int) ≤ (I : Int) := by have := HK0.out; omega
  have HST : Hid (OnR w2 (docG xs) m (inn.drop k0) pj nj cj left p P c (.slice none 0 0) [] w2) := by
    refine ⟨eown_nil _ _, Below.refl _ _, hrj, HLF.out, ?_, ?_, ?_⟩
    · rw [HGD.out]; simp
    · rw [← HLF.out.2.1]; have := HPI.out; simp only [List.length_nil]; omega
    · rw [List.length_drop]; have := HPI.out; omega
  clear hrd h6 d1 d2 d3 d4 hnj hcj hrj HGD
  go_wp2_with fail
  refine HRD.mono ?_
  rintro e w3 ⟨rfl, rfl⟩
  clear HRD
  go_wp2
  clear hs3 hs4 hs5 hwS hwS2 hwP hSc hPS hk0c g3 g4 g5 hw28 hwn
  go_loopw [9, 13, 14, 15] (fun s9 s13 s14 s15 wr => ∃ (k : Nat) (inn : List Nat) (pi : Option Addr) (ni ci : Nat) (left : List Nat) (pl : Option Addr) (nl cl : Nat) (l : List EntV), k ≤ m ∧ s15 = .int .i64 (k : Int) ∧ s9 = .slice pi ni ci ∧ s13 = .slice pl nl cl ∧ OnR w3 (docG xs) (m - k) inn pi ni ci left pl nl cl s14 l wr) (fun _ _ _ i _ => m - (intOf i).toNat)
  case atStart => exact ⟨0, _, pj, nj, cj, left, p, P, c, [], by omega, rfl, rfl, rfl, HST.out⟩
  case round =>
    obtain ⟨k, inn, pi, ni, ci, left, pl, nl, cl, l, hk, rfl, rfl, rfl, hon⟩ := hrel
    obtain ⟨vq, vc, rfl, hvc1, hvc2, _⟩ := hon.own.form
    have HO : Hid (OnR w3 (docG xs) (m - k) inn pi ni ci left pl nl cl (.slice vq l.length vc) l wr) := hon
    have HVC : Hid (l.length ≤ vc) := hvc1
    have hnlI : (nl : Int) ≤ 524288 := by have := hon.few; have := hon.lft; omega
    clear hon HST hvc1 hvc2
    by_cases hkm : k < m
    · have hkI : (k : Int) < (m : Int) := by omega
      obtain ⟨r, hr⟩ : ∃ r, m - k = r + 1 := ⟨m - k - 1, by omega⟩
      have HNO : Hid (tL (r + 1) inn left = none → docT xs = none) := by
        intro h
        refine docT_g ?_
        rw [HO.out.cut, hr, h]; rfl
      have HRR : Hid (m - k = r + 1 ∧ k < m) := ⟨hr, hkm⟩
      have HC1 := refCut_w pi ni ci inn wr HO.out.row.len HO.out.row.bin (by have := HO.out.inl; omega) HO.out.row.cap.1
      clear hr hkm
      go_wp2_with fail
      refine HC1.mono ?_
      rintro e wa hca
      clear HC1
      rcases hca with ⟨t1, rfl, hba⟩ | ⟨t, a, va, t1, rfl, hoa, hba, hla, ha256, _⟩
      · have HN : Hid (docT xs = none) := HNO.out (tL_1 t1)
        have HBA : Hid (Below w3.heap.size w3 wa) := below_bt HO.out.bel hba
        have HC2 := refCut_w none 0 0 [] wa rfl (bin_nil wa) (by simp) (by simp)
        clear t1 hba
        go_wp2_with fail
        refine HC2.mono ?_
        rintro e wb hcb
        clear HC2
        rcases hcb with ⟨_, rfl, hbb⟩ | ⟨_, _, _, t2, _⟩
        · have HBB : Hid (Below w3.heap.size w3 wb) := below_bt HBA.out hbb
          have HR3 := refRead_none none 0 0 [] wb rfl (bin_nil wb) (by simp) rfl
          clear hbb
          go_wp2_with fail
          refine HR3.mono ?_
          rintro e wc ⟨rfl, rfl⟩
          clear HR3
          go_wp2
          go_ret2
          exact ⟨.inr ⟨HN.out, _, rfl⟩, HBB.out⟩
        · rw [cutT_nil] at t2; cases t2
      obtain ⟨pa, ca, rfl, hca1, _, _⟩ := own_form hoa
      have HA : Hid (cutT inn = some (t, a) ∧ a.length ≤ 524288) := ⟨t1, by have := HO.out.inl; omega⟩
      have HBA : Hid (Below w3.heap.size w3 wa ∧ Below wr.heap.size wr wa) := ⟨below_bt HO.out.bel hba, hba⟩
      have HC2 := refCut_w pa a.length ca a wa rfl (own_in hoa ha256) (by have := HA.out.2; omega) hca1
      clear t1 hba hoa hla ha256 hca1
      go_wp2_with fail
      refine HC2.mono ?_
      rintro e wb hcb
      clear HC2
      rcases hcb with ⟨t2, rfl, hbb⟩ | ⟨u, cs, vb, t2, rfl, hob, hbb, hlb, hb256, _⟩
      · have HN : Hid (docT xs = none) := HNO.out (tL_2 HA.out.1 t2)
        have HBB : Hid (Below w3.heap.size w3 wb) := below_bt HBA.out.1 hbb
        have HR3 := refRead_none none 0 0 [] wb rfl (bin_nil wb) (by simp) rfl
        clear hbb t2
        go_wp2_with fail
        refine HR3.mono ?_
        rintro e wc ⟨rfl, rfl⟩
        clear HR3
        go_wp2
        go_ret2
        exact ⟨.inr ⟨HN.out, _, rfl⟩, HBB.out⟩
      obtain ⟨pb, cb, rfl, hcb1, _, _⟩ := own_form hob
      have HBD : Hid (cutT a = some (u, cs) ∧ cs.length ≤ 524288 ∧ Below wr.heap.size wr wb ∧ Brow w3 wb pb cs.length cb cs ∧ Below w3.heap.size w3 wb) := ⟨t2, by have := HA.out.2; omega, below_bt HBA.out.2 hbb, Brow.own hob hb256, below_bt HBA.out.1 hbb⟩
      clear t2 hbb hob hlb hb256 hcb1 HBA
      rcases hrd : readN cs with _ | ⟨size, j⟩
      · have HN : Hid (docT xs = none) := HNO.out (tL_3 HA.out.1 HBD.out.1 hrd)
        have HR3 := refRead_none pb cs.length cb cs wb rfl HBD.out.2.2.2.1.bin (by have := HBD.out; unfold maxLen; omega) hrd
        clear hrd
        go_wp2_with fail
        refine HR3.mono ?_
        rintro e wc ⟨rfl, rfl⟩
        clear HR3
        go_wp2
        go_ret2
        exact ⟨.inr ⟨HN.out, _, rfl⟩, HBD.out.2.2.2.2⟩
      have HR3 := refRead_some pb cs.length cb cs wb size j rfl HBD.out.2.2.2.1.bin (by have := HBD.out; unfold maxLen; omega) hrd
      obtain ⟨d1, d2, d3, d4⟩ := readN_some hrd
      have hwl : IntKind.u64.wrap (nl : Int) = (nl : Int) := by rw [IntKind.wrap_u64]; omega
      by_cases h7 : nl < size
      · have g7 : (nl : Int) < (size : Int) := by omega
        have HN : Hid (docT xs = none) := HNO.out (tL_4 HA.out.1 HBD.out.1 hrd (by have := HO.out.lft.2.1; omega))
        clear hrd h7 d1 d2 d3 d4
        go_wp2_with fail
        refine HR3.mono ?_
        rintro e wc ⟨rfl, rfl⟩
        clear HR3
        go_wp2
        go_ret2
        exact ⟨.inr ⟨HN.out, _, rfl⟩, HBD.out.2.2.2.2⟩
      have g7 : (size : Int) ≤ (nl : Int) := by omega
      have hws : IntKind.i64.wrap (size : Int) = (size : Int) := by rw [IntKind.wrap_i64]; omega
      have HSZ : Hid (readN cs = some (size, j) ∧ ¬ left.length < size ∧ size ≤ nl ∧ j ≤ cs.length ∧ (left.take size).length = size) := ⟨hrd, by have := HO.out.lft.2.1; omega, by omega, d2, by rw [List.length_take]; have := HO.out.lft.2.1; omega⟩
      have hs6 := cut_to pl nl cl size (by have := HO.out.lft; omega)
      have HX256 : Hid (∀ c ∈ left.take size, c < 256) := fun c hc => HO.out.lft.1.2 c (List.mem_of_mem_take hc)
      have HR8 : Hid (∀ wz, Below w3.heap.size w3 wz → Calls Try.prog 74 #[.slice pl size cl] wz fun e w' => DocOut (left.take size) wz.heap.size e w' ∧ Below wz.heap.size wz w') := fun wz hz => rRead_any pl size cl (left.take size) wz HSZ.out.2.2.2.2.symm ((HO.out.lft.1.below hz).take' size) ⟨by have := HO.out.lft; omega, HO.out.lft.2.2.2⟩
      clear hrd h7 d1 d2 d3 d4
      go_wp2_with fail
      refine HR3.mono ?_
      rintro e wc ⟨rfl, rfl⟩
      clear HR3
      go_wp2_with fail
      refine (HR8.out _ HBD.out.2.2.2.2).mono ?_
      rintro e wd ⟨hdo, hbd⟩
      clear HR8
      rcases hdo with ⟨pg, v8, hdr, rfl, hop⟩ | ⟨hdr, rfl⟩
      · rw [docR_eq HX256.out] at hdr
        obtain ⟨p8, c8, rfl, _, _, hp8⟩ := hop.form
        have HPG : Hid (readE (left.take size) = some pg ∧ pg.length ≤ size) := ⟨hdr, by have := read_count HX256.out hdr; have := HSZ.out; omega⟩
        have HE8 : Hid (EntsIn wd p8 pg) := hop.ents
        have HOW : Hid (EOwn wd w3.heap.size (.slice vq l.length vc) l ∧ Below w3.heap.size w3 wd ∧ Brow w3 wd pb cs.length cb cs) := ⟨(HO.out.own.below HBD.out.2.2.1).below hbd, below_bt HBD.out.2.2.2.2 hbd, HBD.out.2.2.2.1.below hbd⟩
        have hzd := HOW.out.2.1.size
        obtain ⟨pf, hs7, hbf, hpf, _⟩ := cut_from pl nl cl size left HO.out.lft.2.1 HO.out.lft.2.2.1 HSZ.out.2.2.1 HO.out.lft.2.2.2.2
        obtain ⟨nf, hnf⟩ : ∃ nf, nl - size = nf := ⟨_, rfl⟩
        obtain ⟨cf, hcf⟩ : ∃ cf, cl - size = cf := ⟨_, rfl⟩
        rw [hnf, hcf] at hs7
        rw [hcf] at hpf
        obtain ⟨pk, hs8, hrk⟩ := HOW.out.2.2.cut HSZ.out.2.2.2.1
        obtain ⟨nj2, hnj2⟩ : ∃ nf, cs.length - j = nf := ⟨_, rfl⟩
        obtain ⟨cj2, hcj2⟩ : ∃ cf, cb - j = cf := ⟨_, rfl⟩
        rw [hnj2, hcj2] at hs8 hrk
        have HRK : Hid (Brow w3 wd pk nj2 cj2 (cs.drop j)) := hrk
        have HLF2 : Hid (BIn w3 pf (left.drop size) ∧ nf = (left.drop size).length ∧ nf ≤ cf ∧ cf ≤ maxLen ∧ (pf = none → cf = 0)) := by
          refine ⟨hbf w3 HO.out.lft.1, ?_, ?_, ?_, hpf⟩
          · rw [List.length_drop, ← HO.out.lft.2.1, hnf]
          · have := HO.out.lft; omega
          · have := HO.out.lft; omega
        have hjI : (j : Int) ≤ (cs.length : Int) := by have := HSZ.out; omega
        have HFW : Hid (l.length + pg.length + (left.drop size).length ≤ 524288) := by show _ ≤ _; rw [List.length_drop]; have := HO.out.few; have := HPG.out.2; have := HSZ.out; have := HO.out.lft.2.1; omega
        have HCU : Hid (docG xs = (tL r (cs.drop j) (left.drop size)).map fun m => (l ++ pg) ++ m) := by
          show _ = _
          rw [HO.out.cut, HRR.out.1, tL_6 HA.out.1 HBD.out.1 HSZ.out.1 HSZ.out.2.1 HPG.out.1, Option.map_map]
          congr 1
          funext m
          simp
        clear hdr hop hbd hbf hpf hnf hcf hrk hnj2 hcj2
        go_wp2_with (at_builtin; go_loud (refine wpList_append_two _ (by rfl) _ _ rfl w3.heap.size (.slice vq l.length vc) l pg p8 _ c8 rfl rfl rfl HOW.out.1 HE8.out hp8 (by have := HFW.out; omega) hzd ?_); intro va ua hoa hga; have HNX : Hid (OnR w3 (docG xs) r (cs.drop j) pk nj2 cj2 (left.drop size) pf nf cf va (l ++ pg) ua) := ⟨hoa, HOW.out.2.1.grown hga HOW.out.2.1.size (fun k hk => (World.ownsRow.lt HOW.out.1 k hk).1), HRK.out.app HOW.out.1 hga, HLF2.out, HCU.out, by rw [List.length_append]; exact HFW.out, by rw [List.length_drop]; have := HBD.out.2.1; omega⟩; clear hoa hga)
        go_wp2
        go_roundw
        case rel => exact ⟨k + 1, cs.drop j, pk, nj2, cj2, left.drop size, pf, nf, cf, l ++ pg, by have := HRR.out; omega, by go_num, rfl, rfl, by rw [show m - (k + 1) = r by have := HRR.out; omega]; exact HNX.out⟩
        case measure => have := HRR.out; simp [intOf]; omega
      · rw [docR_eq HX256.out] at hdr
        have HN : Hid (docT xs = none) := HNO.out (tL_5 HA.out.1 HBD.out.1 HSZ.out.1 HSZ.out.2.1 hdr)
        have HBE : Hid (Below w3.heap.size w3 wd) := below_bt HBD.out.2.2.2.2 hbd
        clear hdr hbd
        go_wp2
        go_ret2
        exact ⟨.inr ⟨HN.out, _, rfl⟩, HBE.out⟩
    · have hkI : (m : Int) ≤ (k : Int) := by omega
      have HRL : Hid (docG xs = some l) := by
        show _ = _
        rw [HO.out.cut, show m - k = 0 by omega]
        simp [tL]
      obtain ⟨ys, E, hE⟩ : ∃ ys E, makeT l = (ys, E) := ⟨_, _, rfl⟩
      have HDR : Hid (docT xs = if makeT l = (xs, 0) then some l else none) := by show _ = _; unfold docT; rw [HRL.out]
      have HE : Hid (makeT l = (ys, E)) := hE
      have HMK := rMakeT_any vq l.length vc l wr ⟨rfl, HO.out.own.ents⟩ HVC.out ys E hE
      clear hE
      go_wp2_with fail
      refine HMK.mono ?_
      rintro e w5 ⟨v5, rfl, ho5, hb5⟩
      obtain ⟨p5, c5, rfl, _, _, _⟩ := own_form ho5
      have HO5 : Hid (EOwn w5 w3.heap.size (.slice vq l.length vc) l ∧ Below w3.heap.size w3 w5) := ⟨HO.out.own.below hb5, below_bt HO.out.bel hb5⟩
      rcases Nat.eq_zero_or_pos E with h0 | h0
      · subst h0
        have hyb : ∀ c ∈ ys, c < 256 := makeT_lt HE.out
        have hB5 := own_in ho5 hyb
        have hB6 := HB.out.1.below HO5.out.2
        have hcv1 : ∀ j, (convert 22 9 (.slice p5 ys.length c5)).run Try.prog (w5.drewN j) = .ok (.string (strOf ys)) (w5.drewN j) := fun j => conv_bytes (hB5.below (below_drewN (Below.refl _ _) j)) rfl c5
        have hcv2 : ∀ j, (convert 22 9 (.slice p n c)).run Try.prog (w5.drewN j) = .ok (.string (strOf xs)) (w5.drewN j) := fun j => conv_bytes (hB6.below (below_drewN (Below.refl _ _) j)) HB.out.2.1 c
        have hse := str_eq hyb HB.out.1.2
        by_cases hyx : ys = xs
        · have HN : Hid (docT xs = some l) := by show _ = _; rw [HDR.out, if_pos (by rw [HE.out, hyx])]
          have hs1 : ((strOf ys).toList == (strOf xs).toList) = true := by rw [hse]; simp [hyx]
          clear ho5 hb5 HMK hyb hse hyx hB5 hB6
          go_wp2
          go_quiet (fail)
          go_wp2
          go_ret2
          exact ⟨.inl ⟨l, _, HN.out, rfl, HO5.out.1.below (below_drewN (Below.refl _ _) _)⟩, below_drewN HO5.out.2 _⟩
        · have HN : Hid (docT xs = none) := by show _ = _; rw [HDR.out, if_neg (by rw [HE.out]; simp [hyx])]
          have hs1 : ((strOf ys).toList == (strOf xs).toList) = false := by rw [hse]; simp [hyx]
          clear ho5 hb5 HMK hyb hse hyx hB5 hB6
          go_wp2
          go_quiet (fail)
          go_wp2
          go_ret2
          exact ⟨.inr ⟨HN.out, _, rfl⟩, below_drewN HO5.out.2 _⟩
      · have hne : ((E : Int) == 0) = false := by rw [beq_eq_false_iff_ne]; omega
        have HN : Hid (docT xs = none) := by show _ = _; rw [HDR.out, if_neg (by rw [HE.out]; simp; intro _; omega)]
        clear ho5 hb5 HMK h0
        go_wp2
        go_quiet (fail)
        go_wp2
        go_ret2
        exact ⟨.inr ⟨HN.out, _, rfl⟩, below_drewN HO5.out.2 _⟩
end Go.Proofs.Ytlcbjmbphekliaa
namespace Go.Proofs.Ytlcbjmbphekliaa
open Go.RowKit Go.WideShapes

theorem doc_read {xs : List Nat} {l : List EntV} (h : docT xs = some l) : readT xs = some (partE l) := read_makeT (docT_iff.1 h)
set_option maxRecDepth 8000 in
set_option maxHeartbeats 2000000 in
theorem rCheck_t (p : Option Addr) (n c : Nat) (xs : List Nat) (w : World) (h : BHand w p n c xs) (E : Nat) (hE : okT xs = E) :
    Calls Try.prog 26 #[.slice p n c] w fun e w' => e = .returned (.int .i64 (E : Int)) ∧ Below w.heap.size w w' := by
  have HRD := rReadT_any p n c xs w h
  have HE : Hid (okT xs = E ∧ ∀ c ∈ xs, c < 256) := ⟨hE, h.bin.2⟩
  clear h hE
  go_enter Try.func26, Try.ntmps26
  go_wp2_with fail
  refine HRD.mono ?_
  rintro e w1 ⟨hout, hb1⟩
  have HB1 : Hid (Below w.heap.size w w1) := hb1
  clear hb1 HRD
  rcases hout with ⟨l, v, hd, rfl, ho⟩ | ⟨hd, v, rfl⟩
  · have HZ : Hid (E = 0) := by show _ = _; rw [← HE.out.1, okT_some (doc_read hd)]
    clear hd ho
    go_wp2
    go_ret
    exact ⟨by rw [HZ.out]; rfl, HB1.out⟩
  · have HZ : Hid (E = 90) := by show _ = _; rw [← HE.out.1, okT_none (docT_none HE.out.2 hd)]
    clear hd
    go_wp2
    go_ret
    exact ⟨by rw [HZ.out]; rfl, HB1.out⟩
set_option maxRecDepth 8000 in
set_option maxHeartbeats 2000000 in
theorem rAll_t (p : Option Addr) (n c : Nat) (xs : List Nat) (w : World) (h : BHand w p n c xs) (E : Nat) (hE : okT xs = E) (L : List EntV) (hL : allT xs = L) :
    Calls Try.prog 23 #[.slice p n c] w fun e w' => ∃ v, e = .returned (.tuple #[v, .int .i64 (E : Int)]) ∧ EOwn w' w.heap.size v L ∧ Below w.heap.size w w' := by
  have HRD := rReadT_any p n c xs w h
  have HE : Hid (okT xs = E ∧ (∀ c ∈ xs, c < 256) ∧ allT xs = L) := ⟨hE, h.bin.2, hL⟩
  clear h hE hL
  go_enter Try.func23, Try.ntmps23
  go_wp2_with fail
  refine HRD.mono ?_
  rintro e w1 ⟨hout, hb1⟩
  have HB1 : Hid (Below w.heap.size w w1) := hb1
  clear hb1 HRD
  rcases hout with ⟨l, v, hd, rfl, ho⟩ | ⟨hd, v, rfl⟩
  · have HZ : Hid (E = 0 ∧ L = l) := ⟨by rw [← HE.out.1, okT_some (doc_read hd)], by rw [← HE.out.2.2]; unfold allT; rw [doc_read hd]; exact (parts_is l).flat⟩
    have HO : Hid (EOwn w1 w.heap.size v l) := ho
    clear hd ho
    go_wp2
    go_ret2
    exact ⟨v, by rw [HZ.out.1]; rfl, by rw [HZ.out.2]; exact HO.out, HB1.out⟩
  · have HZ : Hid (E = 90 ∧ L = []) := ⟨by rw [← HE.out.1, okT_none (docT_none HE.out.2.1 hd)], by rw [← HE.out.2.2]; unfold allT; rw [docT_none HE.out.2.1 hd]⟩
    clear hd
    go_wp2
    go_ret2
    exact ⟨.slice none 0 0, by rw [HZ.out.1]; rfl, by rw [HZ.out.2]; exact eown_nil _ _, HB1.out⟩
set_option maxRecDepth 8000 in
set_option maxHeartbeats 2000000 in
theorem rPages_t (p : Option Addr) (n c : Nat) (xs : List Nat) (w : World) (h : BHand w p n c xs) (E : Nat) (hE : okT xs = E) (N : Nat) (hN : countT xs = N) :
    Calls Try.prog 25 #[.slice p n c] w fun e w' => e = .returned (.tuple #[.int .i64 (N : Int), .int .i64 (E : Int)]) ∧ Below w.heap.size w w' := by
  have HRD := rReadT_any p n c xs w h
  have HE : Hid (okT xs = E ∧ (∀ c ∈ xs, c < 256) ∧ countT xs = N) := ⟨hE, h.bin.2, hN⟩
  clear h hE hN
  go_enter Try.func25, Try.ntmps25
  go_wp2_with fail
  refine HRD.mono ?_
  rintro e w1 ⟨hout, hb1⟩
  have HB1 : Hid (Below w.heap.size w w1) := hb1
  clear hb1 HRD
  rcases hout with ⟨l, v, hd, rfl, ho⟩ | ⟨hd, v, rfl⟩
  · have HZ : Hid (E = 0 ∧ N = (partE l).length) := ⟨by rw [← HE.out.1, okT_some (doc_read hd)], by rw [← HE.out.2.2]; unfold countT; rw [doc_read hd]⟩
    obtain ⟨q, cq, rfl, hcq, _, _⟩ := ho.form
    have HPD := Parted_any q l.length cq l w1 ⟨rfl, ho.ents⟩ (makeT_ok (docT_iff.1 hd)).1 hcq
    clear hd ho hcq
    go_wp2_with fail
    refine HPD.mono ?_
    rintro e w2 ⟨⟨v7, ps, rfl, ho7, hps, _⟩, hb2⟩
    obtain ⟨q7, c7, rfl, _, _, _⟩ := own_form ho7
    have HB2 : Hid (Below w.heap.size w w2) := below_bt HB1.out hb2
    have HPL : Hid (ps.length = N) := by show _ = _; rw [HZ.out.2, ← hps]; simp [partsOf]
    clear ho7 hb2 hps HPD
    go_wp2
    go_ret2
    exact ⟨by rw [HZ.out.1, ← HPL.out]; rfl, HB2.out⟩
  · have HZ : Hid (E = 90 ∧ N = 0) := ⟨by rw [← HE.out.1, okT_none (docT_none HE.out.2.1 hd)], by rw [← HE.out.2.2]; unfold countT; rw [docT_none HE.out.2.1 hd]⟩
    clear hd
    go_wp2
    go_ret2
    exact ⟨by rw [HZ.out.1, HZ.out.2]; rfl, HB1.out⟩
set_option maxRecDepth 8000 in
set_option maxHeartbeats 2000000 in
theorem rEnds_t (p : Option Addr) (n c : Nat) (xs : List Nat) (w : World) (h : BHand w p n c xs) (a b : ByteArray) (E : Nat) (hR : endsT xs = (a, b, E)) :
    Calls Try.prog 24 #[.slice p n c] w fun e w' => e = .returned (.tuple #[.string a, .string b, .int .i64 (E : Int)]) ∧ Below w.heap.size w w' := by
  have HRD := rReadT_any p n c xs w h
  have HE : Hid (endsT xs = (a, b, E) ∧ (∀ c ∈ xs, c < 256)) := ⟨hR, h.bin.2⟩
  clear h hR
  go_enter Try.func24, Try.ntmps24
  go_wp2_with fail
  refine HRD.mono ?_
  rintro e w1 ⟨hout, hb1⟩
  have HB1 : Hid (Below w.heap.size w w1) := hb1
  clear hb1 HRD
  rcases hout with ⟨l, v, hd, rfl, ho⟩ | ⟨hd, v, rfl⟩
  · have hm := docT_iff.1 hd
    have hen := endsT_made hm
    rw [HE.out.1] at hen
    simp only [Prod.mk.injEq] at hen
    obtain ⟨m1, m2, _, _⟩ := makeT_ok hm
    obtain ⟨q, cq, rfl, _, _, _⟩ := ho.form
    obtain ⟨bb, oo, rfl⟩ := ho.ents.addr m2
    obtain ⟨L1, hL1⟩ : ∃ L1, l.length - 1 = L1 := ⟨_, rfl⟩
    have hll := ((checkE_rise l).1 m1).1
    obtain ⟨x0, _, _, _⟩ := ho.ents.at (k := 0) m2
    obtain ⟨z0, _, _, _⟩ := ho.ents.at (k := L1) (by omega)
    obtain ⟨fk, hfk⟩ : ∃ k, firstK l = k := ⟨_, rfl⟩
    obtain ⟨lk, hlk⟩ : ∃ k, lastKy l = k := ⟨_, rfl⟩
    have e1 : (l.getD 0 zeroE).key = fk := hfk
    have e2 : (l.getD L1 zeroE).key = lk := by rw [← hL1]; exact hlk
    rw [e1, Nat.zero_mul, Nat.add_zero] at x0
    rw [e2] at z0
    have HY : Hid (a = fk ∧ b = lk ∧ E = 0) := by rw [hfk, hlk] at hen; exact hen
    have hllI : (l.length : Int) ≤ 4096 := by omega
    have hL0 : (0 : Int) < (l.length : Int) := by omega
    have hwL : IntKind.i64.wrap ((l.length : Int) - 1) = (L1 : Int) := by rw [IntKind.wrap_i64]; omega
    have hL2 : (L1 : Int) < (l.length : Int) := by omega
    have hL3 : (0 : Int) ≤ (L1 : Int) := by omega
    clear hd ho hm m1 m2 e1 e2 hL1 hll hfk hlk HE hen
    go_wp2
    go_quiet (fail)
    go_wp2
    go_ret3
    exact ⟨by rw [HY.out.1, HY.out.2.1, HY.out.2.2]; rfl, below_drewN HB1.out _⟩
  · have hen := endsT_none (docT_none HE.out.2 hd)
    rw [HE.out.1] at hen
    simp only [Prod.mk.injEq] at hen
    obtain ⟨rfl, rfl, rfl⟩ := hen
    clear hd
    go_wp2
    go_ret3
    exact ⟨rfl, HB1.out⟩
end Go.Proofs.Ytlcbjmbphekliaa
namespace Go.Proofs.Ytlcbjmbphekliaa
open Go.RowKit Go.WideShapes

set_option maxRecDepth 8000 in
set_option maxHeartbeats 2000000 in
theorem rRange_t (p : Option Addr) (n c : Nat) (xs : List Nat) (f t : ByteArray) (w : World) (h : BHand w p n c xs) (L : List EntV) (E : Nat) (hR : rangeT xs f t = (L, E)) (hf : (f.size : Int) ≤ 9223372036854775807) (ht : (t.size : Int) ≤ 9223372036854775807) :
    Calls Try.prog 21 #[.slice p n c, .string f, .string t] w fun e w' => ∃ v, e = .returned (.tuple #[v, .int .i64 (E : Int)]) ∧ EOwn w' w.heap.size v L ∧ Below w.heap.size w w' := by
  have HRD := rReadT_any p n c xs w h
  have HR : Hid (rangeT xs f t = (L, E) ∧ ∀ c ∈ xs, c < 256) := ⟨hR, h.bin.2⟩
  obtain ⟨i0, hi, hz0, hz1, hz2⟩ := info_parts' info_entry
  clear h hR
  go_enter Try.func21, Try.ntmps21
  go_wp2_with fail
  refine HRD.mono ?_
  rintro e w1 ⟨hout, hb1⟩
  have HB1 : Hid (Below w.heap.size w w1) := hb1
  clear hb1 HRD
  rcases hout with ⟨l, v, hd, rfl, ho⟩ | ⟨hd, v, rfl⟩
  · have hm := docT_iff.1 hd
    obtain ⟨q, cq, rfl, _, _, _⟩ := ho.form
    have HL : Hid (makeT l = (xs, 0) ∧ EntsIn w1 q l ∧ l.length ≤ 4096) := ⟨hm, ho.ents, ((checkE_rise l).1 (makeT_ok hm).1).1⟩
    have HZ := rangeT_some (doc_read hd) f t
    rw [HR.out.1] at HZ
    have HZ' : Hid ((L, E) = if 256 < f.size ∨ 256 < t.size then ([], 3) else (rangeG (partE l) f t, 0)) := HZ
    have hlI : (l.length : Int) ≤ 4096 := by have := HL.out.2.2; omega
    clear hd HZ ho hm
    by_cases h1 : 256 < f.size
    · have g1' : (256 : Int) < (f.size : Int) := by omega
      have HY : Hid (L = [] ∧ E = 3) := by have := HZ'.out; rw [if_pos (.inl h1)] at this; exact ⟨(Prod.mk.inj this).1, (Prod.mk.inj this).2⟩
      clear h1
      go_wp2
      go_ret2
      exact ⟨.slice none 0 0, by rw [HY.out.2]; rfl, by rw [HY.out.1]; exact eown_nil _ _, HB1.out⟩
    have g1' : (f.size : Int) ≤ 256 := by omega
    by_cases h2 : 256 < t.size
    · have g2' : (256 : Int) < (t.size : Int) := by omega
      have HY : Hid (L = [] ∧ E = 3) := by have := HZ'.out; rw [if_pos (.inr h2)] at this; exact ⟨(Prod.mk.inj this).1, (Prod.mk.inj this).2⟩
      clear h1 h2
      go_wp2
      go_ret2
      exact ⟨.slice none 0 0, by rw [HY.out.2]; rfl, by rw [HY.out.1]; exact eown_nil _ _, HB1.out⟩
    have g2' : (t.size : Int) ≤ 256 := by omega
    have HY : Hid (l.filter (keepU f t) = L ∧ E = 0) := by
      have h3 := range_made HL.out.1 (f := f) (t := t) (by omega) (by omega)
      rw [HR.out.1] at h3
      exact ⟨(Prod.mk.inj h3).1.symm, (Prod.mk.inj h3).2⟩
    clear h1 h2
    go_wp2
    go_loopw [10, 11] (fun v i wr => ∃ k : Nat, k ≤ l.length ∧ i = .int .i64 k ∧ OnB w1 v ((l.take k).filter (keepU f t)) wr) (fun _ i _ => l.length - (intOf i).toNat)
    case atStart => exact ⟨0, by omega, rfl, eown_nil _ _, Below.refl _ _⟩
    case round =>
      obtain ⟨k, hk, rfl, hon⟩ := hrel
      obtain ⟨vq, vc, rfl, _, _, _⟩ := hon.own.form
      obtain ⟨M, hM⟩ : ∃ M, (l.take k).filter (keepU f t) = M := ⟨_, rfl⟩
      rw [hM] at hon ⊢
      have HO : Hid (OnB w1 (.slice vq M.length vc) M wr) := hon
      have HME : Hid ((l.take k).filter (keepU f t) = M) := hM
      have HLN : Hid (M.length ≤ 4096) := by show _ ≤ _; rw [← hM]; exact Nat.le_trans (List.length_filter_le _ _) (by rw [List.length_take]; have := HL.out.2.2; omega)
      clear hon hM
      by_cases hkn : k < l.length
      · have hkI : (k : Int) < (l.length : Int) := by omega
        have hen := HL.out.2.1.below HO.out.bel
        obtain ⟨be, oe, rfl⟩ := hen.addr (by omega)
        obtain ⟨x0, x1, x2, x3⟩ := hen.at hkn
        obtain ⟨x, hx⟩ : ∃ x, l.getD k zeroE = x := ⟨_, rfl⟩
        rw [hx] at x0 x1 x2 x3
        have hft := filter_take (keep := (keepU f t)) hkn hx
        obtain ⟨ke, ve, se, ge⟩ := x
        simp only at x0 x1 x2 x3
        obtain ⟨kv, hkv⟩ : ∃ kv, keepU f t ⟨ke, ve, se, ge⟩ = kv := ⟨_, rfl⟩
        have HFT : Hid ((l.take (k + 1)).filter (keepU f t) = (l.take k).filter (keepU f t) ++ (if keepU f t ⟨ke, ve, se, ge⟩ = true then [⟨ke, ve, se, ge⟩] else [])) := hft
        have HKN : Hid (k < l.length) := hkn
        have HOW : Hid (OnB w1 (.slice vq M.length vc) M (wr.alloc (.cells #[.string ke, .string ve, .int .i64 se, .bool ge] 29))) := HO.out.next (below_alloc _ _)
        have HCL : Hid (∀ j u, [Value.string ke, .string ve, .int .i64 se, .bool ge][j]? = some u → (wr.alloc (.cells #[.string ke, .string ve, .int .i64 se, .bool ge] 29)).cell? ((⟨wr.heap.size, 0, none⟩ : Addr).add j) = some u) := ent_cells wr _ _ _ _ _
        clear hen hx hft hkn
        unfold keepU at hkv
        simp only at hkv
        cases hA : Op.bytesLess ke.toList f.toList with
        | true =>
          have HKV : Hid (keepU f t ⟨ke, ve, se, ge⟩ = false) := by simp [Hid, keepU, ltB, hA]
          clear hkv
          have HKP : Hid ((l.take (k + 1)).filter (keepU f t) = M) := by show _ = _; rw [HFT.out, HKV.out, if_neg (by simp), List.append_nil, HME.out]
          go_wp2
          go_roundw
          case rel => exact ⟨k + 1, by have := HKN.out; omega, by go_num, by rw [HKP.out]; exact HO.out⟩
          case measure => have := HKN.out; simp [intOf]; omega
        | false =>
          by_cases hT : t = ByteArray.empty
          · have HKV : Hid (keepU f t ⟨ke, ve, se, ge⟩ = true) := by simp [Hid, keepU, ltB, hA, hT]
            have gt1 : (t.toList == []) = true := by rw [hT]; decide +kernel
            have gt2 : t.toList = [] := by simpa using gt1
            have gt3 : (t.toList == ByteArray.empty.toList) = true := by rw [eq_str]; simp [hT]
            clear hkv hT
            have HKP : Hid ((l.take (k + 1)).filter (keepU f t) = M ++ [⟨ke, ve, se, ge⟩]) := by show _ = _; rw [HFT.out, HKV.out, if_pos rfl, HME.out]
            go_wp2_with (at_builtin; go_loud (refine wpList_append_own _ rfl _ _ 26 rfl w1.heap.size 29 i0 _ 4 48 Try.underlying26 hi hz0 hz1 hz2 rfl (by omega) _ _ _ rfl HOW.out.own ⟨wr.heap.size, 0, none⟩ 1 1 [.string ke, .string ve, .int .i64 se, .bool ge] rfl rfl HCL.out (ent_one ke ve se ge) (by have := HLN.out; unfold maxLen; omega) (by have := HLN.out; omega) HOW.out.bel.size ?_); intro va ua hoa hga _)
            have HNX : Hid (OnB w1 va (M ++ [⟨ke, ve, se, ge⟩]) ua) := HOW.out.app hga hoa
            clear hoa hga
            go_wp2
            go_roundw
            case rel => exact ⟨k + 1, by have := HKN.out; omega, by go_num, by rw [HKP.out]; exact HNX.out⟩
            case measure => have := HKN.out; simp [intOf]; omega
          · have gT : (t.toList == ByteArray.empty.toList) = false := by rw [eq_str]; simp [hT]
            have gT' : (t.toList == []) = false := by rw [show ([] : List UInt8) = ByteArray.empty.toList by decide +kernel]; exact gT
            cases hB : Op.bytesLess ke.toList t.toList with
            | true =>
              have HKV : Hid (keepU f t ⟨ke, ve, se, ge⟩ = true) := by simp [Hid, keepU, ltB, hA, hB]
              clear hkv hT
              have HKP : Hid ((l.take (k + 1)).filter (keepU f t) = M ++ [⟨ke, ve, se, ge⟩]) := by show _ = _; rw [HFT.out, HKV.out, if_pos rfl, HME.out]
              go_wp2_with (at_builtin; go_loud (refine wpList_append_own _ rfl _ _ 26 rfl w1.heap.size 29 i0 _ 4 48 Try.underlying26 hi hz0 hz1 hz2 rfl (by omega) _ _ _ rfl HOW.out.own ⟨wr.heap.size, 0, none⟩ 1 1 [.string ke, .string ve, .int .i64 se, .bool ge] rfl rfl HCL.out (ent_one ke ve se ge) (by have := HLN.out; unfold maxLen; omega) (by have := HLN.out; omega) HOW.out.bel.size ?_); intro va ua hoa hga _)
              have HNX : Hid (OnB w1 va (M ++ [⟨ke, ve, se, ge⟩]) ua) := HOW.out.app hga hoa
              clear hoa hga
              go_wp2
              go_roundw
              case rel => exact ⟨k + 1, by have := HKN.out; omega, by go_num, by rw [HKP.out]; exact HNX.out⟩
              case measure => have := HKN.out; simp [intOf]; omega
            | false =>
              have HKV : Hid (keepU f t ⟨ke, ve, se, ge⟩ = false) := by simp [Hid, keepU, ltB, hA, hB, hT]
              clear hkv hT
              have HKP : Hid ((l.take (k + 1)).filter (keepU f t) = M) := by show _ = _; rw [HFT.out, HKV.out, if_neg (by simp), List.append_nil, HME.out]
              go_wp2
              go_roundw
              case rel => exact ⟨k + 1, by have := HKN.out; omega, by go_num, by rw [HKP.out]; exact HO.out⟩
              case measure => have := HKN.out; simp [intOf]; omega
      · have hkI : (l.length : Int) ≤ (k : Int) := by omega
        have HML : Hid (M = L) := by show _ = _; rw [← HME.out, List.take_of_length_le (by omega), HY.out.1]
        go_wp2
        go_ret2
        exact ⟨_, by rw [HY.out.2]; rfl, by rw [← HML.out]; exact own_mono HO.out.own HB1.out.size, below_bt HB1.out HO.out.bel⟩
  · have HY : Hid (L = [] ∧ E = 90) := by have := rangeT_none (docT_none HR.out.2 hd) f t; rw [HR.out.1] at this; exact ⟨(Prod.mk.inj this).1, (Prod.mk.inj this).2⟩
    clear hd
    go_wp2
    go_ret2
    exact ⟨.slice none 0 0, by rw [HY.out.2]; rfl, by rw [HY.out.1]; exact eown_nil _ _, HB1.out⟩
end Go.Proofs.Ytlcbjmbphekliaa
namespace Go.Proofs.Ytlcbjmbphekliaa
open Go.RowKit Go.WideShapes

theorem newL_at {l : List EntV} {i : Nat} (h : i < l.length) {y : EntV} (hy : l.getD i zeroE = y) (k : ByteArray) (s : Int) : newL (l.drop i) k s = if y.key = k ∧ y.seq ≤ s then (y, true) else newL (l.drop (i + 1)) k s := by
  rw [dropE h, hy]; rfl
set_option maxRecDepth 8000 in
set_option maxHeartbeats 2000000 in
theorem rNewest_any (q : Option Addr) (n c : Nat) (l : List EntV) (key : ByteArray) (seq : Int) (w : World) (h : EntsL w q n l) (hz : n ≤ 1000000) (y : EntV) (is : Bool) (hR : newL l key seq = (y, is)) :
    Calls Try.prog 48 #[.slice q n c, .string key, .int .i64 seq] w fun e w' => e = .returned (.tuple #[entV y, .bool is]) ∧ Below w.heap.size w w' := by
  have HE : Hid (EntsIn w q l ∧ n = l.length) := ⟨h.lies, h.n⟩
  have hzI : (n : Int) ≤ 1000000 := by omega
  have HR : Hid (newL (l.drop 0) key seq = (y, is)) := hR
  have HNW : Hid (Below w.heap.size w (w.alloc (.cells zE 29)) ∧ (w.alloc (.cells zE 29)).heap[w.heap.size]? = some (.cells zE 29 (0, 0))) := ⟨below_alloc _ _, heap_alloc_new _ _⟩
  clear h hR
  go_enter Try.func48, Try.ntmps48
  go_wp2
  go_loopw [8] (fun i wr => ∃ k : Nat, k ≤ n ∧ i = .int .i64 k ∧ newL (l.drop k) key seq = (y, is) ∧ Below w.heap.size w wr ∧ wr.heap[w.heap.size]? = some (.cells zE 29 (0, 0))) (fun i _ => n - (intOf i).toNat)
  case atStart => exact ⟨0, by omega, rfl, HR.out, HNW.out⟩
  case round =>
    obtain ⟨k, hk, rfl, hnew, hbel, hblk⟩ := hrel
    have HO : Hid (Below w.heap.size w wr ∧ wr.heap[w.heap.size]? = some (.cells zE 29 (0, 0))) := ⟨hbel, hblk⟩
    have HW : Hid (newL (l.drop k) key seq = (y, is)) := hnew
    obtain ⟨⟨z0, z1, z2, z3⟩, f0, f1, f2, f3⟩ := four hblk
    clear hbel hblk hnew HNW HR
    by_cases hkn : k < n
    · have hkI : (k : Int) < (n : Int) := by omega
      have hen := HE.out.1.below HO.out.1
      obtain ⟨be, oe, rfl⟩ := hen.addr (by have := HE.out.2; omega)
      obtain ⟨x0, x1, x2, x3⟩ := hen.at (k := k) (by have := HE.out.2; omega)
      obtain ⟨x, hx⟩ : ∃ x, l.getD k zeroE = x := ⟨_, rfl⟩
      rw [hx] at x0 x1 x2 x3
      have HNA := newL_at (l := l) (i := k) (by have := HE.out.2; omega) hx key seq
      obtain ⟨ke, ve, se, ge⟩ := x
      simp only at x0 x1 x2 x3
      have HNA' : Hid (newL (l.drop k) key seq = if ke = key ∧ se ≤ seq then (⟨ke, ve, se, ge⟩, true) else newL (l.drop (k + 1)) key seq) := HNA
      have HKN : Hid (k < n) := hkn
      clear hen hx HNA hkn
      by_cases hke : ke = key
      · have g4 : (ke.toList == key.toList) = true := by rw [eq_str]; simp [hke]
        by_cases hsq : se ≤ seq
        · have g5 : decide (se ≤ seq) = true := decide_eq_true hsq
          have HY : Hid (y = ⟨ke, ve, se, ge⟩ ∧ is = true) := by
            have := HW.out
            rw [HNA'.out, if_pos ⟨hke, hsq⟩] at this
            simp only [Prod.mk.injEq] at this
            exact ⟨this.1.symm, this.2.symm⟩
          clear hke
          go_wp2
          (try simp only [Exit.inBlock, Exit.then])
          refine bodyPost_ret (v := .tuple #[entV ⟨ke, ve, se, ge⟩, .bool true]) ?_ rfl ⟨by rw [HY.out.1, HY.out.2], ?_⟩
          · rw [results_cell_tmp rfl]
            go_simp
            rfl
          · exact set4_at HO.out.1 (Nat.le_refl _)
        · have g5 : decide (se ≤ seq) = false := decide_eq_false hsq
          have HN2 : Hid (newL (l.drop (k + 1)) key seq = (y, is)) := by
            have := HW.out
            rw [HNA'.out, if_neg (fun hh => hsq hh.2)] at this
            exact this
          clear hke hsq
          go_wp2
          go_roundw
          case rel => exact ⟨k + 1, by have := HKN.out; omega, by go_num, HN2.out, HO.out⟩
          case measure => have := HKN.out; simp [intOf]; omega
      · have g4 : (ke.toList == key.toList) = false := by rw [eq_str]; simp [hke]
        have HN2 : Hid (newL (l.drop (k + 1)) key seq = (y, is)) := by
          have := HW.out
          rw [HNA'.out, if_neg (fun hh => hke hh.1)] at this
          exact this
        clear hke
        go_wp2
        go_roundw
        case rel => exact ⟨k + 1, by have := HKN.out; omega, by go_num, HN2.out, HO.out⟩
        case measure => have := HKN.out; simp [intOf]; omega
    · have hkI : (n : Int) ≤ (k : Int) := by omega
      have HY : Hid (y = zeroE ∧ is = false) := by
        have := HW.out
        rw [List.drop_eq_nil_of_le (by have := HE.out.2; omega)] at this
        simp only [newL, Prod.mk.injEq] at this
        exact ⟨this.1.symm, this.2.symm⟩
      go_wp2
      (try simp only [Exit.inBlock, Exit.then])
      refine bodyPost_ret (v := .tuple #[entV zeroE, .bool false]) ?_ rfl ⟨by rw [HY.out.1, HY.out.2], ?_⟩
      · rw [results_cell_tmp rfl]
        go_simp
        rfl
      · exact set4_at HO.out.1 (Nat.le_refl _)
set_option maxRecDepth 8000 in
set_option maxHeartbeats 2000000 in
theorem rFind_t (p : Option Addr) (n c : Nat) (xs : List Nat) (key : ByteArray) (seq : Int) (w : World) (h : BHand w p n c xs) (y : EntV) (is : Bool) (E : Nat) (hR : findT xs key seq = (y, is, E)) (hk : (key.size : Int) ≤ 9223372036854775807) :
    Calls Try.prog 20 #[.slice p n c, .string key, .int .i64 seq] w fun e w' => e = .returned (.tuple #[entV y, .bool is, .int .i64 (E : Int)]) ∧ Below w.heap.size w w' := by
  have HRD := rReadT_any p n c xs (w.alloc (.cells zE 29)) (h.below (below_alloc _ _))
  have HR : Hid (findT xs key seq = (y, is, E) ∧ ∀ c ∈ xs, c < 256) := ⟨hR, h.bin.2⟩
  have HBA : Hid (Below w.heap.size w (w.alloc (.cells zE 29)) ∧ (w.alloc (.cells zE 29)).heap[w.heap.size]? = some (.cells zE 29 (0, 0))) := ⟨below_alloc _ _, heap_alloc_new _ _⟩
  clear h hR
  unfold zE at HRD
  go_enter Try.func20, Try.ntmps20
  go_wp2_with fail
  refine HRD.mono ?_
  rintro e w1 ⟨hout, hb1⟩
  have HB1 : Hid (Below w.heap.size w w1 ∧ w1.heap[w.heap.size]? = some (.cells zE 29 (0, 0))) := ⟨below_bt HBA.out.1 hb1, block_below HBA.out.2 hb1⟩
  obtain ⟨⟨z0, z1, z2, z3⟩, f0, f1, f2, f3⟩ := four HB1.out.2
  clear hb1 HRD
  rcases hout with ⟨l, v, hd, rfl, ho⟩ | ⟨hd, v, rfl⟩
  · have hm := docT_iff.1 hd
    have HZ := findT_some (doc_read hd) key seq
    rw [HR.out.1] at HZ
    have HZ' : Hid ((y, is, E) = if key.size < 1 ∨ 256 < key.size then (zeroE, false, 60) else if seq < 0 ∨ 2147483647 < seq then (zeroE, false, 2) else ((lookP (partE l) key seq).1, (lookP (partE l) key seq).2, 0)) := HZ
    obtain ⟨q, cq, rfl, _, _, _⟩ := ho.form
    have HL : Hid (makeT l = (xs, 0) ∧ EntsIn w1 q l ∧ l.length ≤ 4096) := ⟨hm, ho.ents, ((checkE_rise l).1 (makeT_ok hm).1).1⟩
    clear hd HZ ho hm
    by_cases hk1 : key.size < 1
    · have g1 : (key.size : Int) < 1 := by omega
      have HY : Hid (y = zeroE ∧ is = false ∧ E = 60) := by have := HZ'.out; rw [if_pos (.inl hk1)] at this; show _ ∧ _; simpa using this
      clear hk1
      go_wp2
      (try simp only [Exit.inBlock, Exit.then])
      refine bodyPost_ret (v := .tuple #[entV zeroE, .bool false, .int .i64 60]) ?_ rfl ⟨by rw [HY.out.1, HY.out.2.1, HY.out.2.2]; rfl, set4_at HB1.out.1 (Nat.le_refl _)⟩
      rw [results_cell_tmp2 rfl]
      go_simp
      rfl
    have g1 : (1 : Int) ≤ (key.size : Int) := by omega
    by_cases hk2 : 256 < key.size
    · have g2 : (256 : Int) < (key.size : Int) := by omega
      have HY : Hid (y = zeroE ∧ is = false ∧ E = 60) := by have := HZ'.out; rw [if_pos (.inr hk2)] at this; show _ ∧ _; simpa using this
      clear hk1 hk2
      go_wp2
      (try simp only [Exit.inBlock, Exit.then])
      refine bodyPost_ret (v := .tuple #[entV zeroE, .bool false, .int .i64 60]) ?_ rfl ⟨by rw [HY.out.1, HY.out.2.1, HY.out.2.2]; rfl, set4_at HB1.out.1 (Nat.le_refl _)⟩
      rw [results_cell_tmp2 rfl]
      go_simp
      rfl
    have g2 : (key.size : Int) ≤ 256 := by omega
    have HZ2 : Hid ((y, is, E) = if seq < 0 ∨ 2147483647 < seq then (zeroE, false, 2) else ((lookP (partE l) key seq).1, (lookP (partE l) key seq).2, 0)) := by have := HZ'.out; rw [if_neg (by omega)] at this; exact this
    have HK2 : Hid (key.size ≤ 256) := by show _ ≤ _; omega
    clear hk1 hk2
    by_cases hs1 : seq < 0
    · have HY : Hid (y = zeroE ∧ is = false ∧ E = 2) := by have := HZ2.out; rw [if_pos (.inl hs1)] at this; show _ ∧ _; simpa using this
      go_wp2
      (try simp only [Exit.inBlock, Exit.then])
      refine bodyPost_ret (v := .tuple #[entV zeroE, .bool false, .int .i64 2]) ?_ rfl ⟨by rw [HY.out.1, HY.out.2.1, HY.out.2.2]; rfl, set4_at HB1.out.1 (Nat.le_refl _)⟩
      rw [results_cell_tmp2 rfl]
      go_simp
      rfl
    have hs1' : 0 ≤ seq := by omega
    by_cases hs2 : 2147483647 < seq
    · have HY : Hid (y = zeroE ∧ is = false ∧ E = 2) := by have := HZ2.out; rw [if_pos (.inr hs2)] at this; show _ ∧ _; simpa using this
      go_wp2
      (try simp only [Exit.inBlock, Exit.then])
      refine bodyPost_ret (v := .tuple #[entV zeroE, .bool false, .int .i64 2]) ?_ rfl ⟨by rw [HY.out.1, HY.out.2.1, HY.out.2.2]; rfl, set4_at HB1.out.1 (Nat.le_refl _)⟩
      rw [results_cell_tmp2 rfl]
      go_simp
      rfl
    have hs2' : seq ≤ 2147483647 := by omega
    obtain ⟨yy, ii, hni⟩ : ∃ yy ii, newL l key seq = (yy, ii) := ⟨_, _, rfl⟩
    have HY : Hid (y = yy ∧ is = ii ∧ E = 0) := by
      have := HZ2.out
      rw [if_neg (by omega), look_is HL.out.1 HK2.out, hni] at this
      show _ ∧ _
      simpa using this
    have HNE := rNewest_any q l.length cq l key seq w1 ⟨rfl, HL.out.2.1⟩ (by have := HL.out.2.2; omega) yy ii hni
    obtain ⟨ky, vy, sy, gy⟩ := yy
    rw [entV_def] at HNE
    clear hni hs1 hs2 z0 z1 z2 z3 f0 f1 f2 f3
    go_wp2_with fail
    refine HNE.mono ?_
    rintro e w4 ⟨rfl, hb4⟩
    have HB4 : Hid (Below w.heap.size w w4 ∧ w4.heap[w.heap.size]? = some (.cells zE 29 (0, 0))) := ⟨below_bt HB1.out.1 hb4, block_below HB1.out.2 hb4⟩
    have HB5 : Hid (Below w.heap.size w (w4.alloc (.cells #[.string ky, .string vy, .int .i64 sy, .bool gy] 29)) ∧ (w4.alloc (.cells #[.string ky, .string vy, .int .i64 sy, .bool gy] 29)).heap[w.heap.size]? = some (.cells zE 29 (0, 0))) := ⟨below_bt HB4.out.1 (below_alloc _ _), block_below HB4.out.2 (below_alloc _ _)⟩
    obtain ⟨⟨z0, z1, z2, z3⟩, f0, f1, f2, f3⟩ := four HB5.out.2
    clear hb4 HNE
    go_wp2
    (try simp only [Exit.inBlock, Exit.then])
    refine bodyPost_ret (v := .tuple #[entV ⟨ky, vy, sy, gy⟩, .bool ii, .int .i64 0]) ?_ rfl ⟨by rw [HY.out.1, HY.out.2.1, HY.out.2.2]; rfl, ?_⟩
    · rw [results_cell_tmp2 rfl]
      go_simp
      rfl
    · first
      | exact set4_at HB5.out.1 (Nat.le_refl _)
      | exact below_bt (set4_at HB4.out.1 (Nat.le_refl _)) (below_alloc _ _)
  · have HY : Hid (y = zeroE ∧ is = false ∧ E = 90) := by have := findT_none (docT_none HR.out.2 hd) key seq; rw [HR.out.1] at this; show _ ∧ _; simpa using this
    clear hd
    go_wp2
    (try simp only [Exit.inBlock, Exit.then])
    refine bodyPost_ret (v := .tuple #[entV zeroE, .bool false, .int .i64 90]) ?_ rfl ⟨by rw [HY.out.1, HY.out.2.1, HY.out.2.2]; rfl, set4_at HB1.out.1 (Nat.le_refl _)⟩
    rw [results_cell_tmp2 rfl]
    go_simp
    rfl
end Go.Proofs.Ytlcbjmbphekliaa
namespace Go.Proofs.Ytlcbjmbphekliaa.tableReads
open Go.ChangeShapes Go.WideShapes Go.ChangeAt Go.RowKit
open Go.ChangeMaps (open_string shut_string)
set_option linter.unusedVariables false

theorem own : ownKnob Try.prog.godebug = none := by kernel_rfl
theorem laidOut : laidOutB Try.prog = true := by kernel_rfl

theorem allT_len {xs : List Nat} (hx : ∀ c ∈ xs, c < 256) : (allT xs).length ≤ 4096 := by
  cases hd : docT xs with
  | none => unfold allT; rw [docT_none hx hd]; simp
  | some l =>
    unfold allT
    rw [doc_read hd]
    simp only
    rw [(parts_is l).flat]
    exact ((checkE_rise l).1 (makeT_ok (docT_iff.1 hd)).1).1
theorem rangeT_len {xs : List Nat} (hx : ∀ c ∈ xs, c < 256) (f t : ByteArray) : (rangeT xs f t).1.length ≤ 4096 := by
  cases hd : docT xs with
  | none => rw [rangeT_none (docT_none hx hd)]; simp
  | some l =>
    by_cases h : 256 < f.size ∨ 256 < t.size
    · rw [rangeT_some (doc_read hd), if_pos h]; simp
    · rw [range_made (docT_iff.1 hd) (by omega) (by omega)]
      exact Nat.le_trans (List.length_filter_le _ _) ((checkE_rise l).1 (makeT_ok (docT_iff.1 hd)).1).1
set_option maxRecDepth 8000 in
set_option maxHeartbeats 8000000 in
theorem walk (vb : Value) (xs : List Nat) (key : ByteArray) (seq : Int) (tt : ByteArray) (w : World) (hb : Row w vb xs) (hkey : key.size ≤ maxLen) (_hseq : (Lit.int .i64 seq).wf = true) (hto : tt.size ≤ maxLen) :
    Calls Try.prog 5 #[vb, .string key, .int .i64 seq, .string tt] w fun e w' => e = .returned (.bool true) ∧ Below w.heap.size w w' := by
  obtain ⟨p, cb, rfl, hp, hd1, hd2, hd3⟩ := hb.lies
  have HP : Hid (BIn w p xs ∧ xs.length ≤ cb ∧ cb ≤ maxLen ∧ (p = none → cb = 0)) := ⟨hp, hd1, hd2, hd3⟩
  have HZ0 : Hid (w.heap.size ≤ w.heap.size) := Nat.le_refl _
  clear hb hp hd1 hd2 hd3
  have hkM : (key.size : Int) ≤ 9223372036854775807 := by unfold maxLen at hkey; omega
  have htM : (tt.size : Int) ≤ 9223372036854775807 := by unfold maxLen at hto; omega
  have hxM : (xs.length : Int) ≤ 9223372036854775807 := by have := HP.out.2; unfold maxLen at this; omega
  clear hkey hto
  by_cases h7 : 300000 < xs.length
  · have g7 : (300000 : Int) < (xs.length : Int) := by omega
    clear h7
    go_enter Try.func5, Try.ntmps5
    go_wp2
    go_ret
    exact ⟨rfl, Below.refl _ _⟩
  have g7 : (xs.length : Int) ≤ 300000 := by omega
  by_cases h8 : 10000 < key.size
  · have g8 : (10000 : Int) < (key.size : Int) := by omega
    clear h7 h8
    go_enter Try.func5, Try.ntmps5
    go_wp2
    go_ret
    exact ⟨rfl, Below.refl _ _⟩
  have g8 : (key.size : Int) ≤ 10000 := by omega
  by_cases h9 : 10000 < tt.size
  · have g9 : (10000 : Int) < (tt.size : Int) := by omega
    clear h7 h8 h9
    go_enter Try.func5, Try.ntmps5
    go_wp2
    go_ret
    exact ⟨rfl, Below.refl _ _⟩
  have g9 : (tt.size : Int) ≤ 10000 := by omega
  obtain ⟨y, is, G, hG⟩ : ∃ y is G, findT xs key seq = (y, is, G) := ⟨_, _, _, rfl⟩
  obtain ⟨ky, vy, sy, gy⟩ := y
  obtain ⟨L, E2, hL⟩ : ∃ L E, rangeT xs key tt = (L, E) := ⟨_, _, rfl⟩
  obtain ⟨A, hA⟩ : ∃ A, allT xs = A := ⟨_, rfl⟩
  obtain ⟨O, hO⟩ : ∃ O, okT xs = O := ⟨_, rfl⟩
  obtain ⟨N, hN⟩ : ∃ N, countT xs = N := ⟨_, rfl⟩
  obtain ⟨s4, t4, E4, hE4⟩ : ∃ s t E, endsT xs = (s, t, E) := ⟨_, _, _, rfl⟩
  have HG : Hid (findT xs key seq = (⟨ky, vy, sy, gy⟩, is, G)) := hG
  have HL : Hid (rangeT xs key tt = (L, E2) ∧ L.length ≤ 4096) := ⟨hL, by have := rangeT_len HP.out.1.2 key tt; rw [hL] at this; exact this⟩
  have HA : Hid (allT xs = A ∧ A.length ≤ 4096) := ⟨hA, by have := allT_len HP.out.1.2; rw [hA] at this; exact this⟩
  have HO : Hid (okT xs = O ∧ countT xs = N ∧ endsT xs = (s4, t4, E4)) := ⟨hO, hN, hE4⟩
  have HXL : Hid (xs.length ≤ 300000) := by show _ ≤ _; omega
  have HOW : Hid (w.ownsRow w.heap.size 5 1 (.slice none 0 0) ([] : List Nat).length (Bs [])) := World.ownsRow_nil _ _ _ _
  clear h7 h8 h9 hG hL hA hO hN hE4
  go_enter Try.func5, Try.ntmps5
  go_wp2_with (at_builtin; go_loud (refine wpList_append_bytes _ rfl _ _ rfl w.heap.size _ [] xs p _ cb rfl rfl rfl HOW.out HP.out.1 HP.out.2.2.2 (by simp only [List.length_nil]; have := HXL.out; omega) HZ0.out ?_); intro v3 w3 ho3 hg3; rw [List.nil_append] at ho3; obtain ⟨p3, c3, rfl, hx1, hx2, hx3⟩ := own_form ho3; have HO3 : Hid (BHand w3 p3 xs.length c3 xs ∧ BHand w3 p xs.length cb xs ∧ Below w.heap.size w w3) := by { have hbb : Below w.heap.size w w3 := (Below.refl _ _).grown hg3 (Nat.le_refl _) (fun k hk => by cases hk); exact ⟨⟨rfl, own_in ho3 HP.out.1.2, ⟨hx1, hx2, hx3⟩⟩, ⟨rfl, HP.out.1.below hbb, HP.out.2⟩, hbb⟩ }; clear ho3 hg3 hx1 hx2 hx3)
  have HFI := Find_t p3 xs.length c3 xs key seq w3 HO3.out.1 _ _ _ HG.out hkM
  rw [entV_def] at HFI
  refine HFI.mono ?_
  rintro e w4 ⟨rfl, hb4⟩
  have HX4 : Hid ((w4.alloc (.cells #[.string ky, .string vy, .int .i64 sy, .bool gy] 29)).heap[w4.heap.size]? = some (.cells #[.string ky, .string vy, .int .i64 sy, .bool gy] 29 (0, 0)) ∧ Below w3.heap.size w3 (w4.alloc (.cells #[.string ky, .string vy, .int .i64 sy, .bool gy] 29))) := ⟨heap_alloc_new _ _, below_bt hb4 (below_alloc _ _)⟩
  have HFJ := rFind_t p xs.length cb xs key seq (w4.alloc (.cells #[.string ky, .string vy, .int .i64 sy, .bool gy] 29)) (HO3.out.2.1.below HX4.out.2) _ _ _ HG.out hkM
  rw [entV_def] at HFJ
  clear hb4 HFI
  go_wp2_with fail
  refine HFJ.mono ?_
  rintro e w5 ⟨rfl, hb5⟩
  have HD5 : Hid ((w5.alloc (.cells #[.string ky, .string vy, .int .i64 sy, .bool gy] 29)).heap[w4.heap.size]? = some (.cells #[.string ky, .string vy, .int .i64 sy, .bool gy] 29 (0, 0)) ∧ (w5.alloc (.cells #[.string ky, .string vy, .int .i64 sy, .bool gy] 29)).heap[w5.heap.size]? = some (.cells #[.string ky, .string vy, .int .i64 sy, .bool gy] 29 (0, 0)) ∧ BHand (w5.alloc (.cells #[.string ky, .string vy, .int .i64 sy, .bool gy] 29)) p3 xs.length c3 xs ∧ BHand (w5.alloc (.cells #[.string ky, .string vy, .int .i64 sy, .bool gy] 29)) p xs.length cb xs ∧ Below w.heap.size w (w5.alloc (.cells #[.string ky, .string vy, .int .i64 sy, .bool gy] 29))) := by
    have h1 := below_bt hb5 (below_alloc w5 (.cells #[.string ky, .string vy, .int .i64 sy, .bool gy] 29))
    have h2 := below_bt HX4.out.2 h1
    exact ⟨block_below HX4.out.1 h1, heap_alloc_new _ _, HO3.out.1.below h2, HO3.out.2.1.below h2, below_bt HO3.out.2.2 h2⟩
  clear hb5 HFJ HX4 HO3
  go_wp2_with fail
  refine (Range_t p3 xs.length c3 xs key tt _ (HD5.out.2.2.1) L E2 HL.out.1 hkM htM).mono ?_
  rintro e w6 ⟨v6, rfl, ho6, hb6⟩
  obtain ⟨q6, c6, rfl, _, _, _⟩ := ho6.form
  have hn6 := ho6.ents
  have HS6 : Hid (Below (w5.alloc (.cells #[.string ky, .string vy, .int .i64 sy, .bool gy] 29)).heap.size (w5.alloc (.cells #[.string ky, .string vy, .int .i64 sy, .bool gy] 29)) w6 ∧ EntsIn w6 q6 L) := ⟨hb6, hn6⟩
  clear ho6 hb6 hn6
  go_wp2_with fail
  refine (rRange_t p xs.length cb xs key tt _ (HD5.out.2.2.2.1.below HS6.out.1) L E2 HL.out.1 hkM htM).mono ?_
  rintro e w7 ⟨v7, rfl, ho7, hb7⟩
  obtain ⟨q7, c7, rfl, _, _, _⟩ := ho7.form
  have hn7 := ho7.ents
  have HS7 : Hid (Below (w5.alloc (.cells #[.string ky, .string vy, .int .i64 sy, .bool gy] 29)).heap.size (w5.alloc (.cells #[.string ky, .string vy, .int .i64 sy, .bool gy] 29)) w7 ∧ EntsIn w7 q6 L ∧ EntsIn w7 q7 L) := ⟨below_bt (HS6.out.1) hb7, (HS6.out.2).below hb7, hn7⟩
  clear ho7 hb7 hn7 HS6
  go_wp2_with fail
  refine (All_t p3 xs.length c3 xs _ (HD5.out.2.2.1.below HS7.out.1) O HO.out.1 A HA.out.1).mono ?_
  rintro e w8 ⟨v8, rfl, ho8, hb8⟩
  obtain ⟨q8, c8, rfl, _, _, _⟩ := ho8.form
  have hn8 := ho8.ents
  have HS8 : Hid (Below (w5.alloc (.cells #[.string ky, .string vy, .int .i64 sy, .bool gy] 29)).heap.size (w5.alloc (.cells #[.string ky, .string vy, .int .i64 sy, .bool gy] 29)) w8 ∧ EntsIn w8 q6 L ∧ EntsIn w8 q7 L ∧ EntsIn w8 q8 A) := ⟨below_bt (HS7.out.1) hb8, (HS7.out.2.1).below hb8, (HS7.out.2.2).below hb8, hn8⟩
  clear ho8 hb8 hn8 HS7
  go_wp2_with fail
  refine (rAll_t p xs.length cb xs _ (HD5.out.2.2.2.1.below HS8.out.1) O HO.out.1 A HA.out.1).mono ?_
  rintro e w9 ⟨v9, rfl, ho9, hb9⟩
  obtain ⟨q9, c9, rfl, _, _, _⟩ := ho9.form
  have hn9 := ho9.ents
  have HS9 : Hid (Below (w5.alloc (.cells #[.string ky, .string vy, .int .i64 sy, .bool gy] 29)).heap.size (w5.alloc (.cells #[.string ky, .string vy, .int .i64 sy, .bool gy] 29)) w9 ∧ EntsIn w9 q6 L ∧ EntsIn w9 q7 L ∧ EntsIn w9 q8 A ∧ EntsIn w9 q9 A) := ⟨below_bt (HS8.out.1) hb9, (HS8.out.2.1).below hb9, (HS8.out.2.2.1).below hb9, (HS8.out.2.2.2).below hb9, hn9⟩
  clear ho9 hb9 hn9 HS8
  go_wp2_with fail
  refine (Ends_t p3 xs.length c3 xs _ (HD5.out.2.2.1.below HS9.out.1) s4 t4 E4 HO.out.2.2).mono ?_
  rintro e w10 ⟨rfl, hb10⟩
  have HS10 : Hid (Below (w5.alloc (.cells #[.string ky, .string vy, .int .i64 sy, .bool gy] 29)).heap.size (w5.alloc (.cells #[.string ky, .string vy, .int .i64 sy, .bool gy] 29)) w10 ∧ EntsIn w10 q6 L ∧ EntsIn w10 q7 L ∧ EntsIn w10 q8 A ∧ EntsIn w10 q9 A) := ⟨below_bt (HS9.out.1) hb10, (HS9.out.2.1).below hb10, (HS9.out.2.2.1).below hb10, (HS9.out.2.2.2.1).below hb10, (HS9.out.2.2.2.2).below hb10⟩
  clear hb10 HS9
  go_wp2_with fail
  refine (rEnds_t p xs.length cb xs _ (HD5.out.2.2.2.1.below HS10.out.1) s4 t4 E4 HO.out.2.2).mono ?_
  rintro e w11 ⟨rfl, hb11⟩
  have HS11 : Hid (Below (w5.alloc (.cells #[.string ky, .string vy, .int .i64 sy, .bool gy] 29)).heap.size (w5.alloc (.cells #[.string ky, .string vy, .int .i64 sy, .bool gy] 29)) w11 ∧ EntsIn w11 q6 L ∧ EntsIn w11 q7 L ∧ EntsIn w11 q8 A ∧ EntsIn w11 q9 A) := ⟨below_bt (HS10.out.1) hb11, (HS10.out.2.1).below hb11, (HS10.out.2.2.1).below hb11, (HS10.out.2.2.2.1).below hb11, (HS10.out.2.2.2.2).below hb11⟩
  clear hb11 HS10
  go_wp2_with fail
  refine (Pages_t p3 xs.length c3 xs _ (HD5.out.2.2.1.below HS11.out.1) O HO.out.1 N HO.out.2.1).mono ?_
  rintro e w12 ⟨rfl, hb12⟩
  have HS12 : Hid (Below (w5.alloc (.cells #[.string ky, .string vy, .int .i64 sy, .bool gy] 29)).heap.size (w5.alloc (.cells #[.string ky, .string vy, .int .i64 sy, .bool gy] 29)) w12 ∧ EntsIn w12 q6 L ∧ EntsIn w12 q7 L ∧ EntsIn w12 q8 A ∧ EntsIn w12 q9 A) := ⟨below_bt (HS11.out.1) hb12, (HS11.out.2.1).below hb12, (HS11.out.2.2.1).below hb12, (HS11.out.2.2.2.1).below hb12, (HS11.out.2.2.2.2).below hb12⟩
  clear hb12 HS11
  go_wp2_with fail
  refine (rPages_t p xs.length cb xs _ (HD5.out.2.2.2.1.below HS12.out.1) O HO.out.1 N HO.out.2.1).mono ?_
  rintro e w13 ⟨rfl, hb13⟩
  have HS13 : Hid (Below (w5.alloc (.cells #[.string ky, .string vy, .int .i64 sy, .bool gy] 29)).heap.size (w5.alloc (.cells #[.string ky, .string vy, .int .i64 sy, .bool gy] 29)) w13 ∧ EntsIn w13 q6 L ∧ EntsIn w13 q7 L ∧ EntsIn w13 q8 A ∧ EntsIn w13 q9 A) := ⟨below_bt (HS12.out.1) hb13, (HS12.out.2.1).below hb13, (HS12.out.2.2.1).below hb13, (HS12.out.2.2.2.1).below hb13, (HS12.out.2.2.2.2).below hb13⟩
  clear hb13 HS12
  go_wp2_with fail
  refine (Check_t p3 xs.length c3 xs _ (HD5.out.2.2.1.below HS13.out.1) O HO.out.1).mono ?_
  rintro e w14 ⟨rfl, hb14⟩
  have HS14 : Hid (Below (w5.alloc (.cells #[.string ky, .string vy, .int .i64 sy, .bool gy] 29)).heap.size (w5.alloc (.cells #[.string ky, .string vy, .int .i64 sy, .bool gy] 29)) w14 ∧ EntsIn w14 q6 L ∧ EntsIn w14 q7 L ∧ EntsIn w14 q8 A ∧ EntsIn w14 q9 A) := ⟨below_bt (HS13.out.1) hb14, (HS13.out.2.1).below hb14, (HS13.out.2.2.1).below hb14, (HS13.out.2.2.2.1).below hb14, (HS13.out.2.2.2.2).below hb14⟩
  clear hb14 HS13
  go_wp2_with fail
  refine (rCheck_t p xs.length cb xs _ (HD5.out.2.2.2.1.below HS14.out.1) O HO.out.1).mono ?_
  rintro e w15 ⟨rfl, hb15⟩
  have HS15 : Hid (Below (w5.alloc (.cells #[.string ky, .string vy, .int .i64 sy, .bool gy] 29)).heap.size (w5.alloc (.cells #[.string ky, .string vy, .int .i64 sy, .bool gy] 29)) w15 ∧ EntsIn w15 q6 L ∧ EntsIn w15 q7 L ∧ EntsIn w15 q8 A ∧ EntsIn w15 q9 A) := ⟨below_bt (HS14.out.1) hb15, (HS14.out.2.1).below hb15, (HS14.out.2.2.1).below hb15, (HS14.out.2.2.2.1).below hb15, (HS14.out.2.2.2.2).below hb15⟩
  clear hb15 HS14
  obtain ⟨⟨x0, x1, x2, x3⟩, _⟩ := four (block_below HD5.out.1 HS15.out.1)
  obtain ⟨⟨y0, y1, y2, y3⟩, _⟩ := four (block_below HD5.out.2.1 HS15.out.1)
  have HSA := rsame_yes q6 q7 L.length c6 c7 L w15 rfl (by have := HL.out.2; omega) HS15.out.2.1 HS15.out.2.2.1
  go_wp2_with fail
  refine HSA.mono ?_
  rintro e w16 ⟨rfl, hb16⟩
  have HS16 : Hid (Below (w5.alloc (.cells #[.string ky, .string vy, .int .i64 sy, .bool gy] 29)).heap.size (w5.alloc (.cells #[.string ky, .string vy, .int .i64 sy, .bool gy] 29)) w16 ∧ EntsIn w16 q6 L ∧ EntsIn w16 q7 L ∧ EntsIn w16 q8 A ∧ EntsIn w16 q9 A) := ⟨below_bt (HS15.out.1) hb16, (HS15.out.2.1).below hb16, (HS15.out.2.2.1).below hb16, (HS15.out.2.2.2.1).below hb16, (HS15.out.2.2.2.2).below hb16⟩
  clear hb16 HS15 HSA x0 x1 x2 x3 y0 y1 y2 y3
  have HSB := rsame_yes q8 q9 A.length c8 c9 A w16 rfl (by have := HA.out.2; omega) HS16.out.2.2.2.1 HS16.out.2.2.2.2
  go_wp2_with fail
  refine HSB.mono ?_
  rintro e w17 ⟨rfl, hb17⟩
  have HS17 : Hid (Below (w5.alloc (.cells #[.string ky, .string vy, .int .i64 sy, .bool gy] 29)).heap.size (w5.alloc (.cells #[.string ky, .string vy, .int .i64 sy, .bool gy] 29)) w17 ∧ EntsIn w17 q6 L ∧ EntsIn w17 q7 L ∧ EntsIn w17 q8 A ∧ EntsIn w17 q9 A) := ⟨below_bt (HS16.out.1) hb17, (HS16.out.2.1).below hb17, (HS16.out.2.2.1).below hb17, (HS16.out.2.2.2.1).below hb17, (HS16.out.2.2.2.2).below hb17⟩
  clear hb17 HS16 HSB
  have hcv1 := conv_bytes (HD5.out.2.2.1.bin.below HS17.out.1) rfl c3
  have hcv2 := conv_bytes (HD5.out.2.2.2.1.bin.below HS17.out.1) rfl cb
  go_wp2
  go_ret
  exact ⟨rfl, below_bt HD5.out.2.2.2.2 HS17.out.1⟩

/-! ### THE ROW's STEP -/
set_option maxRecDepth 100000 in
theorem lifted (os : Os) (started : os.Started) (H : Type) (enc : TypeId × Value → H) :
    ReturnsInHanded {} Try.checked os 5 .any (Rows.tableReadsSpec.pre6 enc Try.prog Try.f5 Rows.tableReadsRow.domain false) (Rows.tableReadsSpec.post enc Try.prog Try.f5 false true false false) := by
  refine returnsInHanded_of_change (C := Try.checked) own started (by kernel_rfl) Try.func5
    (ChangeSpec.witness6 (enc := enc) (C := Try.checked) false ⟨#[], #[.slice none 0 0, .string ByteArray.empty, .int .i64 0, .string ByteArray.empty], []⟩ 8 (by kernel_rfl) (by kernel_rfl) (by kernel_rfl) (by kernel_rfl)) ?_
  intro W base args ds gs before hval0 hW hcnd _
  have hval : ∀ (j : Nat) t v, Try.f5.params[j]? = some t → args[j]? = some v → Value.okWide Try.prog W .any base t v := hval0
  have hW' := hW
  obtain ⟨p, q, hA0, hV, rfl, hfz, hnd⟩ := hW
  have hA : DataW.TrodAll enc Try.prog W 0 (fun _ => true) true Try.f5.params.toList args.toList ds p := hA0
  rw [Try.params5] at hA hval
  obtain ⟨v0, vs0, d0, ds0, p0, q0, hargs, rfl, rfl, h0, r0⟩ := trodAll_cons hA
  obtain ⟨v1, vs1, d1, ds1, p1, q1, rfl, rfl, rfl, h1, r1⟩ := trodAll_cons r0
  obtain ⟨v2, vs2, d2, ds2, p2, q2, rfl, rfl, rfl, h2, r2⟩ := trodAll_cons r1
  obtain ⟨v3, vs3, d3, ds3, p3, q3, rfl, rfl, rfl, h3, r3⟩ := trodAll_cons r2
  obtain ⟨rfl, rfl, rfl⟩ := trodAll_nil r3
  obtain rfl : args = #[v0, v1, v2, v3] := by cases args; simp_all
  obtain ⟨rfl, rfl⟩ := trodVars_none hV
  have k0 := h0
  have lt0 : ∀ x ∈ p0, x.block < W.heap.size := by obtain ⟨m, hm⟩ := k0; exact DataW.trod_lt m _ _ _ hm
  obtain ⟨qa0, la0, ca0, rfl⟩ := okWide_slice Try.underlying22 (hval 0 22 v0 rfl rfl)
  obtain ⟨fu0, hf0⟩ := h0
  obtain ⟨l0, w0⟩ := open_bytes Try.underlying22 Try.underlying5 (by kernel_rfl) hf0
  obtain ⟨a1, rfl, rfl, rfl, w1⟩ := open_string Try.underlying9 (hval 1 9 v1 rfl rfl) h1
  obtain ⟨a2, rfl, rfl, rfl, w2⟩ := open_int Try.underlying3 (hval 2 3 v2 rfl rfl) h2
  obtain ⟨a3, rfl, rfl, rfl, w3⟩ := open_string Try.underlying9 (hval 3 9 v3 rfl rfl) h3
  clear hA0 hval0
  refine (walk (.slice qa0 la0 ca0) l0 a1 a2 a3 W w0 w1 w2 w3).mono fun e W' ⟨he, bel⟩ => ?_
  subst he
  exact ⟨_, rfl, _, _, _, [], _, [], hW', trodAll_mk1 (shut_bool Try.underlying4 _), (trodAll_cons_mk (Below.trod laidOut (by kernel_rfl) (of_decide_eq_true (by kernel_rfl)) k0 bel lt0) (trodAll_cons_mk (shut_string Try.underlying9 w1) (trodAll_cons_mk (shut_int Try.underlying3 w2) (trodAll_cons_mk (shut_string Try.underlying9 w3) trodAll_mk0)))), rfl, bel.frame _, fun h => by cases h⟩

theorem over : Rows.tableReadsRow.holds Try.pinned (OpenSpec.ofChange Rows.tableReadsSpec) :=
  OpenClaim.holds_of_wide 5 Try.f5 rfl rfl rfl rfl rfl rfl rfl ⟨rfl, rfl, rfl, rfl, rfl⟩ rfl rfl rfl rfl rfl (by kernel_rfl) Try.func5 (by kernel_rfl)
    (of_decide_eq_true (by kernel_rfl)) (by unfold Func.isWrapper; first | (rw [if_pos (by decide +kernel)]; kernel_rfl) | (rw [if_neg (by decide +kernel)]; exact ⟨rfl, rfl⟩))
    (fun os started H enc _ => lifted os started H enc)

theorem proved : Rows.TableReadsSaid := over
end Go.Proofs.Ytlcbjmbphekliaa.tableReads
namespace Go.Proofs.Ytlcbjmbphekliaa
theorem tableReads_holds : Rows.TableReadsSaid := tableReads.proved
#print axioms tableReads_holds
end Go.Proofs.Ytlcbjmbphekliaa
