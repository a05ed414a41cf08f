/-
  For any bytes and any key the law PageReads answers true: pages are read, and searched, as the document says.
-/
import Derived.Test.YtldgnejmmjbhiaaJ05
import Derived.Deep.CutRange
import Derived.Test.YtldgnejmmjbhiaaRows
import Derived.WalkKit
import Derived.ProofKit
import Derived.OpenShut
import Derived.ShutString
import Derived.ChangeOld
import Derived.Below
namespace Go.Proofs.Ytldgnejmmjbhiaa
open Go.RowKit Go.WideShapes

/-- Bytes, somewhere old or in a block of bytes. -/
structure Brow (w0 w : World) (p : Option Addr) (n c : Nat) (xs : List Nat) : Prop where
  len : n = xs.length
  bin : BIn w p xs
  cap : xs.length ≤ c ∧ c ≤ maxLen ∧ (p = none → c = 0)
  sep : 0 < xs.length → ∀ a, p = some a → a.block < w0.heap.size ∨ ∃ C fr, w.heap[a.block]? = some (.cells C 5 fr)
theorem Brow.below {w0 w w' : World} {p : Option Addr} {n c : Nat} {xs : List Nat} (h : Brow w0 w p n c xs) (hb : Below w.heap.size w w') : Brow w0 w' p n c xs :=
  ⟨h.len, h.bin.below hb, h.cap, fun hp a ha => (h.sep hp a ha).elim .inl (fun ⟨C, fr, e⟩ => .inr ⟨C, fr, block_below e hb⟩)⟩
theorem Brow.app {w0 w w' : World} {p : Option Addr} {n c : Nat} {xs : List Nat} (h : Brow w0 w p n c xs) {v : Value} {m : Nat} {cs : List Value} (ho : w.ownsRow w0.heap.size 27 4 v m cs) (hg : w.grownBy w' v.ownBlock) : Brow w0 w' p n c xs := by
  have hne : 0 < xs.length → ∀ a, p = some a → v.ownBlock ≠ some a.block := by
    intro hp a ha e
    rcases h.sep hp a ha with h1 | ⟨C, fr, h1⟩
    · have := (World.ownsRow.lt ho _ e).1; omega
    · exact own_neS ho h1 (by decide) e
  refine ⟨h.len, ⟨fun hp => ?_, h.bin.2⟩, h.cap, fun hp a ha => ?_⟩
  · obtain ⟨b', o, e, hc⟩ := h.bin.1 hp
    refine ⟨b', o, e, fun i hi => ?_⟩
    have e2 := hc i hi
    have hbk : w'.heap[b']? = w.heap[b']? := hg.block b' (World.block_lt_of_cell? _ _ e2) (fun e3 => hne hp _ e e3.symm)
    rw [← e2]
    unfold World.cell?
    simp only [hbk]
  · rcases h.sep hp a ha with h1 | ⟨C, fr, h1⟩
    · exact .inl h1
    · exact .inr ⟨C, fr, (hg.block _ (lt_heap h1) (fun e3 => hne hp a ha e3.symm)).trans h1⟩
theorem Brow.own {w0 w : World} {base : Nat} {p : Option Addr} {c : Nat} {xs : List Nat} (h : w.ownsRow base 5 1 (.slice p xs.length c) xs.length (Bs xs)) (hx : ∀ c ∈ xs, c < 256) : Brow w0 w p xs.length c xs := by
  obtain ⟨q, m, e, h1, h2, h3⟩ := own_form h
  simp only [Value.slice.injEq, true_and] at e
  obtain ⟨rfl, rfl⟩ := e
  refine ⟨rfl, own_in h hx, ⟨h1, h2, h3⟩, fun hp a ha => ?_⟩
  obtain ⟨g, cur, e, _, hg⟩ := own_some h hp
  rw [ha] at e
  rw [Option.some.inj e]
  exact .inr ⟨cur, _, hg⟩
theorem Brow.cut {w0 w : World} {p : Option Addr} {n c k : Nat} {xs : List Nat} (h : Brow w0 w p n c xs) (hk : k ≤ n) : ∃ p', (∀ w, (Instr.slice 22 (.slice p n c) (some (.int .i64 (k : Int))) none none).run Try.prog w = .ok (.slice p' (n - k) (c - k)) w) ∧ Brow w0 w p' (n - k) (c - k) (xs.drop k) := by
  have hl := h.len
  obtain ⟨p', h1, h2, h3, h4⟩ := cut_from p n c k xs h.len (by rw [hl]; exact h.cap.1) hk h.cap.2.2
  refine ⟨p', h1, by rw [List.length_drop, hl], h2 w h.bin, ⟨by rw [List.length_drop]; have := h.cap.1; omega, by have := h.cap.2.1; omega, h3⟩, fun hp a' ha' => ?_⟩
  obtain ⟨a, e1, e2⟩ := h4 a' ha'
  rw [e2]
  exact h.sep (by rw [List.length_drop] at hp; omega) a e1
theorem Brow.set {w0 w : World} {p : Option Addr} {n c : Nat} {xs : List Nat} (h : Brow w0 w p n c xs) {g : Nat} {C : Array Value} {fr : Nat × Nat} (hb : w.heap[g]? = some (.cells C 27 fr)) (hC : noU8 C) (i : Nat) (v : Value) : Brow w0 (w.setCell ⟨g, i, none⟩ v) p n c xs := by
  refine ⟨h.len, bin_grownC hb hC h.bin (grown_set _ _ _ _), h.cap, fun hp a ha => ?_⟩
  rcases h.sep hp a ha with h1 | ⟨C', fr', h1⟩
  · exact .inl h1
  · refine .inr ⟨C', fr', ((grown_set w g i v).block _ (lt_heap h1) (fun e => ?_)).trans h1⟩
    rw [Option.some.inj e, hb] at h1
    simp only [Option.some.injEq, Obj.cells.injEq] at h1
    exact absurd h1.2.1 (by decide)
structure OnD (w : World) (R : Option (List EntV)) (k : Nat) (a : ByteArray) (xs : List Nat) (p : Option Addr) (n c : Nat) (v : Value) (l : List EntV) (wr : World) : Prop where
  own : EOwn wr w.heap.size v l
  bel : Below w.heap.size w wr
  row : Brow w wr p n c xs
  cut : R = (gL k a xs).map fun m => l ++ m
  len : a.size + xs.length ≤ 65536
theorem OnD.stop {w : World} {R : Option (List EntV)} {k : Nat} {a : ByteArray} {xs : List Nat} {p : Option Addr} {n c : Nat} {v : Value} {l : List EntV} {wr : World} (h : OnD w R (k + 1) a xs p n c v l wr) (hg : gEnt a xs = none) : R = none := by
  rw [h.cut]
  unfold gL
  rw [hg]
  rfl
theorem OnD.next {w : World} {R : Option (List EntV)} {k : Nat} {a : ByteArray} {xs xs' : List Nat} {p p' : Option Addr} {n c n' c' : Nat} {v v' : Value} {l : List EntV} {wr w' : World} {y : EntV} (h : OnD w R (k + 1) a xs p n c v l wr) (hg : gEnt a xs = some (y, xs')) (ho : EOwn w' w.heap.size v' (l ++ [y])) (hb : Below w.heap.size w w') (hr : Brow w w' p' n' c' xs') (hl : y.key.size + xs'.length ≤ 65536) : OnD w R k y.key xs' p' n' c' v' (l ++ [y]) w' := by
  refine ⟨ho, hb, hr, ?_, hl⟩
  rw [h.cut]
  conv => lhs; unfold gL
  rw [hg]
  simp only [Option.map_map]
  congr 1
  funext m
  simp
theorem ond_app {w : World} {R : Option (List EntV)} {k k' : Nat} {a : ByteArray} {xs xs' : List Nat} {p p' : Option Addr} {n c n' c' : Nat} {v v' : Value} {l : List EntV} {wr wo w' : World} {y : EntV} (h : OnD w R k a xs p n c v l wr) (hk : k = k' + 1) (hg : gEnt a xs = some (y, xs')) (hown : EOwn wo w.heap.size v l) (hbe : Below w.heap.size w wo) (hrw : Brow w wo p' n' c' xs') (hoa : w'.ownsRow w.heap.size 27 4 v' (l.length + 1) (cellsE l ++ [.string y.key, .string y.val, .int .i64 y.seq, .bool y.gone])) (hga : wo.grownBy w' v.ownBlock) (hl : y.key.size + xs'.length ≤ 65536) : OnD w R k' y.key xs' p' n' c' v' (l ++ [y]) w' := by
  subst hk
  refine h.next hg ?_ (hbe.grown hga hbe.size (fun k hk => (World.ownsRow.lt hown k hk).1)) (hrw.app hown hga) hl
  unfold EOwn
  rw [cellsE_app, List.length_append]
  exact hoa
def DocOut (xs : List Nat) (base : Nat) (e : Ending) (w' : World) : Prop :=
  (∃ l v, docR xs = some l ∧ e = .returned (.tuple #[v, .int .i64 0]) ∧ EOwn w' base v l) ∨ (docR xs = none ∧ e = .returned (.tuple #[.slice none 0 0, .int .i64 8]))
set_option maxRecDepth 20000 in
set_option maxHeartbeats 16000000 in
theorem rRead_any (pb : Option Addr) (nb cb : Nat) (xs : List Nat) (w : World) (hn : nb = xs.length) (hb : BIn w pb xs) (hc : nb ≤ cb ∧ cb ≤ maxLen ∧ (pb = none → cb = 0)) :
    Calls Try.prog 20 #[.slice pb nb cb] w fun e w' => DocOut xs w.heap.size e w' ∧ Below w.heap.size w w' := by
  by_cases h1 : nb < 5
  · have g1 : (nb : Int) < 5 := by omega
    have HN : Hid (docR xs = none) := docR_len (by omega)
    clear h1 hb hc hn
    go_enter Try.func20, Try.ntmps20
    go_wp2
    go_ret2
    exact ⟨.inr ⟨HN.out, rfl⟩, Below.refl _ _⟩
  by_cases h2 : 65536 < nb
  · have g1 : (5 : Int) ≤ (nb : Int) := by omega
    have g2 : (65536 : Int) < (nb : Int) := by omega
    have HN : Hid (docR xs = none) := docR_len (by omega)
    clear h1 h2 hb hc hn
    go_enter Try.func20, Try.ntmps20
    go_wp2
    go_ret2
    exact ⟨.inr ⟨HN.out, rfl⟩, Below.refl _ _⟩
  have hlen : ¬ (xs.length < 5 ∨ 65536 < xs.length) := by omega
  obtain ⟨z, hz⟩ : ∃ z, nb - 4 = z := ⟨_, rfl⟩
  have hxz : xs.length - 4 = z := by omega
  have hw : IntKind.i64.wrap ((nb : Int) - 4) = (z : Int) := by rw [IntKind.wrap_i64]; omega
  have hs2 := cut_to pb nb cb z (by omega)
  have ht : (xs.take z).length = z := by rw [List.length_take]; omega
  have hrow0 : Brow w w pb z cb (xs.take z) := ⟨ht.symm, hb.take' z, ⟨by omega, hc.2⟩, fun hp a ha => by obtain ⟨b, o, e, hcc⟩ := (hb.take' z).1 hp; rw [ha] at e; rw [Option.some.inj e]; exact .inl (World.block_lt_of_cell? _ _ (hcc 0 hp))⟩
  have g1 : (5 : Int) ≤ (nb : Int) := by omega
  have g2 : (nb : Int) ≤ 65536 := by omega
  have HL : Hid (¬ (xs.length < 5 ∨ 65536 < xs.length) ∧ xs.length - 4 = z ∧ z ≤ 65536) := ⟨hlen, hxz, by omega⟩
  have HXB : Hid (BIn w pb xs ∧ nb = xs.length) := ⟨hb, hn⟩
  rcases hr : readN (xs.take z) with _ | ⟨m, k0⟩
  · have HN : Hid (docR xs = none) := docR_no HL.out.1 (by rw [HL.out.2.1]; unfold gD; rw [hr])
    have HRD := refRead_none pb z cb (xs.take z) w ht.symm hrow0.bin (by unfold maxLen; omega) hr
    clear h1 h2 hb hc hn hz hxz ht hlen hr hrow0
    go_enter Try.func20, Try.ntmps20
    go_wp2_with fail
    refine HRD.mono ?_
    rintro e w1 ⟨rfl, rfl⟩
    go_wp2
    go_ret2
    exact ⟨.inr ⟨HN.out, rfl⟩, Below.refl _ _⟩
  · have HRD := refRead_some pb z cb (xs.take z) w m k0 ht.symm hrow0.bin (by unfold maxLen; omega) hr
    obtain ⟨k1, k2', k3, k4⟩ := readN_some hr
    rw [ht] at k2'
    by_cases hm : 4096 < m
    · have g3 : decide ((4096 : Int) < (m : Int)) = true := decide_eq_true (by omega)
      have HN : Hid (docR xs = none) := docR_no HL.out.1 (by rw [HL.out.2.1]; unfold gD; rw [hr]; simp only; rw [if_pos hm])
      clear h1 h2 hb hc hn hz hxz ht hlen hr hrow0 hm k4
      go_enter Try.func20, Try.ntmps20
      go_wp2_with fail
      refine HRD.mono ?_
      rintro e w1 ⟨rfl, rfl⟩
      go_wp2
      go_ret2
      exact ⟨.inr ⟨HN.out, rfl⟩, Below.refl _ _⟩
    have g3 : decide ((4096 : Int) < (m : Int)) = false := decide_eq_false (by omega)
    obtain ⟨p0, hs3, hrow1⟩ := hrow0.cut k2'
    obtain ⟨R, hR⟩ : ∃ R, gL m ByteArray.empty ((xs.take z).drop k0) = R := ⟨_, rfl⟩
    have HGD : Hid (gD (xs.take (xs.length - 4)) = R) := by show _ = _; rw [HL.out.2.1]; unfold gD; rw [hr]; simp only; rw [if_neg hm]; exact hR
    have HON : Hid (OnD w R m ByteArray.empty ((xs.take z).drop k0) p0 (z - k0) (cb - k0) (.slice none 0 0) [] w) := ⟨eown_nil _ _, Below.refl _ _, hrow1, by rw [← hR]; simp, by rw [List.length_drop, ht]; have := HL.out.2.2; have : ByteArray.empty.size = 0 := rfl; omega⟩
    have hmw : IntKind.i64.wrap (m : Int) = (m : Int) := by rw [IntKind.wrap_i64]; omega
    have hmI : (m : Int) ≤ 4096 := by omega
    obtain ⟨i0, hi, hz0, hz1, hz2⟩ := info_parts' info_entry
    clear h1 h2 hb hc hn hz hxz ht hlen hr hrow0 hm k4 k1 k2' k3 hrow1 hR
    go_enter Try.func20, Try.ntmps20
    go_wp2_with fail
    refine HRD.mono ?_
    rintro e w1 ⟨rfl, rfl⟩
    clear HRD
    go_wp2
    clear hs3
    go_loopw [4, 8, 9, 10] (fun iv v a i wr => ∃ k s xk p n c l, k ≤ m ∧ i = .int .i64 ((k : Nat) : Int) ∧ a = .string s ∧ iv = .slice p n c ∧ l.length = k ∧ OnD w1 R (m - k) s xk p n c v l wr) (fun _ _ _ i _ => m - (intOf i).toNat)
    case atStart => exact ⟨0, ByteArray.empty, _, p0, z - k0, cb - k0, [], by omega, rfl, rfl, rfl, rfl, HON.out⟩
    case round =>
      obtain ⟨k, s, xk, p, n, c, l, hk, rfl, rfl, rfl, hll, hon⟩ := hrel
      obtain ⟨q, cq, rfl, _, _, _⟩ := hon.own.form
      have HO : Hid (OnD w1 R (m - k) s xk p n c (.slice q l.length cq) l wr) := hon
      have HLL : Hid (l.length = k ∧ k ≤ 4096) := ⟨hll, by omega⟩
      clear hll
      by_cases hkm : k < m
      · have g4 : decide (k < m) = true := decide_eq_true hkm
        have hkI : (k : Int) < (m : Int) := by omega
        have HMK : Hid (m - k = m - (k + 1) + 1) := by show _ = _; omega
        have HNO : Hid (gEnt s xk = none → docR xs = none) := by
          intro hg
          have h1 := HO.out
          rw [HMK.out] at h1
          exact docR_no HL.out.1 (by rw [HGD.out]; exact h1.stop hg)
        have hrow := hon.row
        have hal := hon.len
        have hsw : IntKind.u64.wrap (s.size : Int) = (s.size : Int) := by rw [IntKind.wrap_u64]; omega
        rcases hr1 : readN xk with _ | ⟨pp, k1⟩
        · have HRD := refRead_none p n c xk wr hrow.len hrow.bin (by unfold maxLen; omega) hr1
          have HN : Hid (docR xs = none) := HNO.out (gEnt_1 hr1)
          clear hon hrow hr1 hal
          go_wp2_with fail
          refine HRD.mono ?_
          rintro e w2 ⟨rfl, rfl⟩
          go_wp2
          go_ret2
          exact ⟨.inr ⟨HN.out, rfl⟩, HO.out.bel⟩
        · have HRD := refRead_some p n c xk wr pp k1 hrow.len hrow.bin (by unfold maxLen; omega) hr1
          obtain ⟨j1, j2, j3, j4⟩ := readN_some hr1
          have HR1 : Hid (readN xk = some (pp, k1)) := hr1
          by_cases hps : s.size < pp
          · have g5 : decide ((s.size : Int) < (pp : Int)) = true := decide_eq_true (by omega)
            have g5' : decide (s.size < pp) = true := decide_eq_true hps
            have HN : Hid (docR xs = none) := HNO.out (gEnt_2 hr1 hps)
            clear hon hrow hr1 hal j4
            go_wp2_with fail
            refine HRD.mono ?_
            rintro e w2 ⟨rfl, rfl⟩
            go_wp2
            go_ret2
            exact ⟨.inr ⟨HN.out, rfl⟩, HO.out.bel⟩
          have g5 : decide ((s.size : Int) < (pp : Int)) = false := decide_eq_false (by omega)
          have g5' : ¬ s.size < pp := hps
          obtain ⟨p1, hs4, hrow2⟩ := hrow.cut (k := k1) (by rw [hrow.len]; exact j2)
          have HCT := refCut_u p1 (n - k1) (c - k1) (xk.drop k1) wr hrow2.len hrow2.bin (by rw [List.length_drop]; omega) hrow2.cap.1
          have HPS : Hid (¬ s.size < pp ∧ s.size + xk.length ≤ 65536) := ⟨hps, hal⟩
          clear hon hrow hr1 j4 j1 j2 j3 hrow2
          go_wp2_with fail
          refine HRD.mono ?_
          rintro e w2 ⟨rfl, rfl⟩
          go_wp2_with fail
          refine HCT.mono ?_
          rintro e w3 hct
          rcases hct with ⟨h3, rfl, hb3⟩ | ⟨rest, in2, v3, h3, rfl, ho3, hb3, hl3, hb256, ht256⟩
          · have HN : Hid (docR xs = none) := HNO.out (gEnt_3 HR1.out HPS.out.1 h3)
            have HB3 : Hid (Below w1.heap.size w1 w3) := below_bt HO.out.bel hb3
            clear h3 hb3 HCT HRD hs4
            go_wp2
            go_ret2
            exact ⟨.inr ⟨HN.out, rfl⟩, HB3.out⟩
          obtain ⟨p3, c3, rfl, _, _, _⟩ := own_form ho3
          have hrow3 : Brow w1 w3 p3 in2.length c3 in2 := Brow.own ho3 hb256
          have HO3 : Hid (EOwn w3 w1.heap.size (.slice q l.length cq) l ∧ Below w1.heap.size w1 w3) := ⟨HO.out.own.below hb3, below_bt HO.out.bel hb3⟩
          have H3 : Hid (cutT (xk.drop k1) = some (rest, in2) ∧ rest.length + in2.length ≤ xk.length ∧ ∀ c ∈ rest, c < 256) := ⟨h3, by rw [List.length_drop] at hl3; omega, ht256⟩
          rcases hr2 : readN in2 with _ | ⟨seq, k2⟩
          · have HRE := refRead_none p3 in2.length c3 in2 w3 rfl hrow3.bin (by unfold maxLen; rw [List.length_drop] at hl3; omega) hr2
            have HN : Hid (docR xs = none) := HNO.out (gEnt_4 HR1.out HPS.out.1 h3 hr2)
            clear h3 hb3 HCT HRD hs4 ho3 hl3 hb256 ht256 hrow3 hr2 hal
            go_wp2_with fail
            refine HRE.mono ?_
            rintro e w4 ⟨rfl, rfl⟩
            go_wp2
            go_ret2
            exact ⟨.inr ⟨HN.out, rfl⟩, HO3.out.2⟩
          have HRE := refRead_some p3 in2.length c3 in2 w3 seq k2 rfl hrow3.bin (by unfold maxLen; rw [List.length_drop] at hl3; omega) hr2
          obtain ⟨j1, j2, j3, j4⟩ := readN_some hr2
          have HR2 : Hid (readN in2 = some (seq, k2)) := hr2
          have hlx : in2.length ≤ 65536 := by rw [List.length_drop] at hl3; omega
          by_cases hsq : 2147483647 < seq
          · have g6 : decide ((2147483647 : Int) < (seq : Int)) = true := decide_eq_true (by omega)
            have HN : Hid (docR xs = none) := HNO.out (gEnt_5 HR1.out HPS.out.1 h3 hr2 (.inl hsq))
            clear h3 hb3 HCT HRD hs4 ho3 hl3 hb256 ht256 hrow3 hr2 hal j4 hsq hlx
            go_wp2_with fail
            refine HRE.mono ?_
            rintro e w4 ⟨rfl, rfl⟩
            go_wp2
            go_ret2
            exact ⟨.inr ⟨HN.out, rfl⟩, HO3.out.2⟩
          have g6 : decide ((2147483647 : Int) < (seq : Int)) = false := decide_eq_false (by omega)
          by_cases hle : in2.length = k2
          · have g7 : ((in2.length : Int) == (k2 : Int)) = true := by simp [hle]
            have g7' : (in2.length == k2) = true := by simp [hle]
            have HN : Hid (docR xs = none) := HNO.out (gEnt_5 HR1.out HPS.out.1 h3 hr2 (.inr hle))
            clear h3 hb3 HCT HRD hs4 ho3 hl3 hb256 ht256 hrow3 hr2 hal j4 hsq hlx hle
            go_wp2_with fail
            refine HRE.mono ?_
            rintro e w4 ⟨rfl, rfl⟩
            go_wp2
            go_ret2
            exact ⟨.inr ⟨HN.out, rfl⟩, HO3.out.2⟩
          have g7 : ((in2.length : Int) == (k2 : Int)) = false := by simp; omega
          have g7' : (in2.length == k2) = false := by simpa using hle
          have H5 : Hid (¬ (2147483647 < seq ∨ in2.length = k2)) := by show ¬ _; omega
          obtain ⟨b3, o3, rfl⟩ := hrow3.bin.addr (by omega)
          have e0 := hrow3.bin.cell k2 (by omega)
          obtain ⟨ch, hch⟩ : ∃ ch, in2.getD k2 0 = ch := ⟨_, rfl⟩
          rw [hch] at e0
          have HCH : Hid (in2.getD k2 0 = ch) := hch
          have HRW3 : Hid (Brow w1 w3 (some ⟨b3, o3, none⟩) in2.length c3 in2 ∧ k2 + 1 ≤ in2.length) := ⟨hrow3, by omega⟩
          have e1 : (w3.alloc (.cells #[.string ⟨#[]⟩, .string ⟨#[]⟩, .int .i64 0, .bool false] 27)).cell? ⟨b3, o3 + k2, none⟩ = some (.int .u8 (ch : Int)) := ((below_alloc w3 _).cell (World.block_lt_of_cell? _ _ e0)).trans e0
          have q0 : (0 : Int) ≤ (k2 : Int) := by omega
          have q1 : (k2 : Int) < (in2.length : Int) := by omega
          have q2 : IntKind.i64.wrap (seq : Int) = (seq : Int) := by rw [IntKind.wrap_i64]; omega
          have q3 : IntKind.i64.wrap (pp : Int) = (pp : Int) := by rw [IntKind.wrap_i64]; omega
          have q4 : (pp : Int) ≤ (s.size : Int) := by omega
          have q5 : (0 : Int) ≤ (pp : Int) := by omega
          obtain ⟨k3, hk3⟩ : ∃ k3, k2 + 1 = k3 := ⟨_, rfl⟩
          have q6 : IntKind.i64.wrap ((k2 : Int) + 1) = (k3 : Int) := by rw [IntKind.wrap_i64]; omega
          have HK3 : Hid (k2 + 1 = k3) := hk3
          obtain ⟨key, hkey⟩ : ∃ key, s.extract 0 pp ++ strOf rest = key := ⟨_, rfl⟩
          have hcb : (s.extract 0 pp).size + (strOf rest).size ≤ 9223372036854775807 := by have := H3.out.2.1; have := HPS.out.2; rw [ByteArray.size_extract, strOf_size]; omega
          have hcat : ∀ w', (Op.stringOp .add (s.extract 0 pp) (strOf rest)).run Try.prog w' = .ok (.string key) w' := by
            intro w'
            rw [run_string_add_sum w' _ _ hcb, hkey]
          have HKY : Hid (s.extract 0 pp ++ strOf rest = key ∧ key.size ≤ pp + rest.length) := ⟨hkey, by rw [← hkey, ByteArray.size_append, ByteArray.size_extract, strOf_size]; omega⟩
          obtain ⟨gn, hgn⟩ : ∃ gn, ((ch : Int) == 1) = gn := ⟨_, rfl⟩
          have HGN : Hid (((ch : Int) == 1) = gn) := hgn
          have HPP : Hid (pp ≤ s.size) := by show _ ≤ _; omega
          clear h3 hb3 HCT HRD hs4 ho3 hl3 hb256 ht256 hrow3 hr2 hal j4 j1 j2 j3 hsq hlx hle hch hkey hps hk3
          go_wp2_with fail
          refine HRE.mono ?_
          rintro e w4 ⟨rfl, rfl⟩
          clear HRE
          go_upto_region 22 with fail
          go_cut [20] from 102 to 139 (fun j wx => ∃ h, j = .pointer (some ⟨h, 0, none⟩) ∧ wx.heap[h]? = some (.cells #[.string key, .string ByteArray.empty, .int .i64 (seq : Int), .bool gn] 27 (0, 0)) ∧ Below w4.heap.size w4 wx ∧ w4.heap.size ≤ h)
          case first =>
            go_region
            go_wp2
            go_meet
            case rel => exact ⟨_, rfl, heap_alloc_new _ _, (below_alloc _ _).drew, Nat.le_refl _⟩
          case rest =>
            obtain ⟨h, rfl, hbox, hbw, hhw⟩ := hcut
            have HH : Hid (w4.heap.size ≤ h) := hhw
            have hge : w1.heap.size ≤ h := Nat.le_trans HO3.out.2.size hhw
            obtain ⟨p5, hs5, hrow5⟩ := HRW3.out.1.cut (k := k3) (by rw [← HK3.out]; exact HRW3.out.2)
            have HR5 : Hid (Brow w1 wc p5 (in2.length - k3) (c3 - k3) (in2.drop k3)) := hrow5.below hbw
            obtain ⟨⟨x0, x1, x2, x3⟩, f0, f1, f2, f3⟩ := four hbox
            have HBX0 : Hid (wc.heap[h]? = some (.cells #[.string key, .string ByteArray.empty, .int .i64 (seq : Int), .bool gn] 27 (0, 0)) ∧ EOwn wc w1.heap.size (.slice q l.length cq) l ∧ Below w1.heap.size w1 wc) := ⟨hbox, HO3.out.1.below hbw, below_bt HO3.out.2 hbw⟩
            clear hbox hrow5 hcat hcb e0 e1 q0 q1 hhw
            cases gn with
            | true =>
              have HT : Hid (EOwn wc w1.heap.size (.slice q l.length cq) l ∧ Below w1.heap.size w1 wc ∧ Brow w1 wc p5 (in2.length - k3) (c3 - k3) (in2.drop k3) ∧ wc.heap[h]? = some (.cells #[.string key, .string ByteArray.empty, .int .i64 (seq : Int), .bool true] 27 (0, 0)) ∧ gEnt s xk = some (⟨key, ByteArray.empty, (seq : Int), true⟩, in2.drop k3) ∧ key.size + (in2.drop k3).length ≤ 65536) := by
                refine ⟨HBX0.out.2.1, HBX0.out.2.2, HR5.out, HBX0.out.1, ?_, ?_⟩
                · have h6 : in2.getD k2 0 = 1 := by rw [HCH.out]; have := HGN.out; simp at this; omega
                  have := gEnt_6 HR1.out HPS.out.1 H3.out.1 HR2.out H5.out h6
                  rw [HKY.out.1, HK3.out] at this
                  exact this
                · have := HKY.out.2; have := H3.out.2.1; have := HPS.out.2; have := HPP.out; rw [List.length_drop]; omega
              have hb9 := below_alloc wc (.cells #[.string key, .string ByteArray.empty, .int .i64 (seq : Int), .bool true] 27)
              have HOW : Hid (EOwn (wc.alloc (.cells #[.string key, .string ByteArray.empty, .int .i64 (seq : Int), .bool true] 27)) w1.heap.size (.slice q l.length cq) l) := HT.out.1.below hb9
              have HBE : Hid (Below w1.heap.size w1 (wc.alloc (.cells #[.string key, .string ByteArray.empty, .int .i64 (seq : Int), .bool true] 27))) := below_bt HT.out.2.1 hb9
              have HRW : Hid (Brow w1 (wc.alloc (.cells #[.string key, .string ByteArray.empty, .int .i64 (seq : Int), .bool true] 27)) p5 (in2.length - k3) (c3 - k3) (in2.drop k3)) := HT.out.2.2.1.below hb9
              have HBX : Hid ((wc.alloc (.cells #[.string key, .string ByteArray.empty, .int .i64 (seq : Int), .bool true] 27)).heap[h]? = some (.cells #[.string key, .string ByteArray.empty, .int .i64 (seq : Int), .bool true] 27 (0, 0))) := block_below HT.out.2.2.2.1 hb9
              have HLT : Hid (∀ k, (Value.slice q l.length cq).ownBlock = some k → w1.heap.size ≤ k ∧ k ≠ h) := fun k hk => ⟨(World.ownsRow.lt HOW.out k hk).1, by have := (World.ownsRow.lt HO3.out.1 k hk).2; have := HH.out; omega⟩
              have HCL : Hid (∀ j u, [Value.string key, .string ByteArray.empty, .int .i64 (seq : Int), .bool true][j]? = some u → (wc.alloc (.cells #[.string key, .string ByteArray.empty, .int .i64 (seq : Int), .bool true] 27)).cell? ((⟨wc.heap.size, 0, none⟩ : Addr).add j) = some u) := by
                have hcl := ent_cells wc (.string key) (.string ByteArray.empty) (.int .i64 (seq : Int)) (.bool true) 27
                (try rw [show wc.heap.size = wc.heap.size by simp] at hcl)
                exact hcl
              have HBA : Hid (∀ ua, (wc.alloc (.cells #[.string key, .string ByteArray.empty, .int .i64 (seq : Int), .bool true] 27)).grownBy ua (Value.slice q l.length cq).ownBlock → ua.cell? ⟨h, 0, none⟩ = some (.string key)) := by
                intro ua hga
                exact (four ((hga.block _ (lt_heap HBX.out) (fun e => (HLT.out h e.symm).2 rfl)).trans HBX.out)).1.1
              clear hb9
              go_wp2_with (at_builtin; go_loud (refine wpList_append_own _ rfl _ _ 28 rfl w1.heap.size 27 i0 _ 4 48 Try.underlying28 hi hz0 hz1 hz2 rfl (by omega) _ _ _ rfl HOW.out ⟨wc.heap.size, 0, none⟩ 1 1 [.string key, .string ByteArray.empty, .int .i64 (seq : Int), .bool true] rfl rfl HCL.out (ent_one key ByteArray.empty (seq : Int) true) (by have := HLL.out; unfold maxLen; omega) (by have := HLL.out; omega) HBE.out.size ?_); intro va ua hoa hga _; have d0 := HBA.out ua hga; have HNW : Hid (OnD w1 R (m - (k + 1)) key (in2.drop k3) p5 (in2.length - k3) (c3 - k3) va (l ++ [⟨key, ByteArray.empty, (seq : Int), true⟩]) ua) := ond_app HO.out HMK.out HT.out.2.2.2.2.1 HOW.out HBE.out HRW.out hoa hga HT.out.2.2.2.2.2; clear hoa hga)
              go_roundw
              case rel => exact ⟨k + 1, key, in2.drop k3, p5, in2.length - k3, c3 - k3, l ++ [⟨key, ByteArray.empty, (seq : Int), true⟩], by omega, by go_num, rfl, rfl, by rw [List.length_append, HLL.out.1]; rfl, HNW.out⟩
              case measure => simp [intOf]; omega
            | false =>
              have HNE : Hid (¬ in2.getD k2 0 = 1) := by show ¬ _; rw [HCH.out]; have := HGN.out; simp at this; omega
              have HCT := refCut_u p5 (in2.length - k3) (c3 - k3) (in2.drop k3) wc HR5.out.len HR5.out.bin (by rw [List.length_drop]; have := H3.out.2.1; have := HPS.out.2; omega) HR5.out.cap.1
              go_wp2_with fail
              refine HCT.mono ?_
              rintro e w6 hct
              rcases hct with ⟨h7, rfl, hb6⟩ | ⟨vv, in3, v6, h7, rfl, ho6, hb6, hl6, hb256, _⟩
              · have HN : Hid (docR xs = none) := HNO.out (gEnt_7 HR1.out HPS.out.1 H3.out.1 HR2.out H5.out HNE.out (by rw [HK3.out]; exact h7))
                have HB6 : Hid (Below w1.heap.size w1 w6) := below_bt HBX0.out.2.2 hb6
                clear h7 hb6 HCT
                go_wp2
                go_ret2
                exact ⟨.inr ⟨HN.out, rfl⟩, HB6.out⟩
              obtain ⟨p6, c6, rfl, _, _, _⟩ := own_form ho6
              have hbx6 := block_below HBX0.out.1 hb6
              have HT : Hid (EOwn (w6.setCell ⟨h, 1, none⟩ (.string (strOf vv))) w1.heap.size (.slice q l.length cq) l ∧ Below w1.heap.size w1 (w6.setCell ⟨h, 1, none⟩ (.string (strOf vv))) ∧ Brow w1 (w6.setCell ⟨h, 1, none⟩ (.string (strOf vv))) p6 in3.length c6 in3 ∧ (w6.setCell ⟨h, 1, none⟩ (.string (strOf vv))).heap[h]? = some (.cells #[.string key, .string (strOf vv), .int .i64 (seq : Int), .bool false] 27 (0, 0)) ∧ gEnt s xk = some (⟨key, strOf vv, (seq : Int), false⟩, in3) ∧ key.size + in3.length ≤ 65536) := by
                refine ⟨?_, (below_bt HBX0.out.2.2 hb6).setCell (by show w1.heap.size ≤ h; exact hge) _, (Brow.own ho6 hb256).set hbx6 (noU8_4 _ _ _ _) _ _, block_set hbx6 _, ?_, ?_⟩
                · exact World.ownsRow.kept (HBX0.out.2.1.below hb6) (grown_set _ _ _ _) (.inr (fun e => by have := (World.ownsRow.lt HO3.out.1 h e).2; have := HH.out; omega))
                · have := gEnt_8 HR1.out HPS.out.1 H3.out.1 HR2.out H5.out HNE.out (by rw [HK3.out]; exact h7)
                  rw [HKY.out.1] at this
                  exact this
                · have := HKY.out.2; have := H3.out.2.1; have := HPS.out.2; have := HPP.out; rw [List.length_drop] at hl6; omega
              clear x0 x1 x2 x3 f0 f1 f2 f3
              obtain ⟨⟨x0, x1, x2, x3⟩, f0, f1, f2, f3⟩ := four hbx6
              obtain ⟨⟨y0, y1, y2, y3⟩, _⟩ := four HT.out.2.2.2.1
              clear h7 hb6 HCT ho6 hl6 hb256 hbx6
              have hb9 := below_alloc (w6.setCell ⟨h, 1, none⟩ (.string (strOf vv))) (.cells #[.string key, .string (strOf vv), .int .i64 (seq : Int), .bool false] 27)
              have HOW : Hid (EOwn ((w6.setCell ⟨h, 1, none⟩ (.string (strOf vv))).alloc (.cells #[.string key, .string (strOf vv), .int .i64 (seq : Int), .bool false] 27)) w1.heap.size (.slice q l.length cq) l) := HT.out.1.below hb9
              have HBE : Hid (Below w1.heap.size w1 ((w6.setCell ⟨h, 1, none⟩ (.string (strOf vv))).alloc (.cells #[.string key, .string (strOf vv), .int .i64 (seq : Int), .bool false] 27))) := below_bt HT.out.2.1 hb9
              have HRW : Hid (Brow w1 ((w6.setCell ⟨h, 1, none⟩ (.string (strOf vv))).alloc (.cells #[.string key, .string (strOf vv), .int .i64 (seq : Int), .bool false] 27)) p6 in3.length c6 in3) := HT.out.2.2.1.below hb9
              have HBX : Hid (((w6.setCell ⟨h, 1, none⟩ (.string (strOf vv))).alloc (.cells #[.string key, .string (strOf vv), .int .i64 (seq : Int), .bool false] 27)).heap[h]? = some (.cells #[.string key, .string (strOf vv), .int .i64 (seq : Int), .bool false] 27 (0, 0))) := block_below HT.out.2.2.2.1 hb9
              have HLT : Hid (∀ k, (Value.slice q l.length cq).ownBlock = some k → w1.heap.size ≤ k ∧ k ≠ h) := fun k hk => ⟨(World.ownsRow.lt HOW.out k hk).1, by have := (World.ownsRow.lt HO3.out.1 k hk).2; have := HH.out; omega⟩
              have HCL : Hid (∀ j u, [Value.string key, .string (strOf vv), .int .i64 (seq : Int), .bool false][j]? = some u → ((w6.setCell ⟨h, 1, none⟩ (.string (strOf vv))).alloc (.cells #[.string key, .string (strOf vv), .int .i64 (seq : Int), .bool false] 27)).cell? ((⟨w6.heap.size, 0, none⟩ : Addr).add j) = some u) := by
                have hcl := ent_cells (w6.setCell ⟨h, 1, none⟩ (.string (strOf vv))) (.string key) (.string (strOf vv)) (.int .i64 (seq : Int)) (.bool false) 27
                (try rw [show (w6.setCell ⟨h, 1, none⟩ (.string (strOf vv))).heap.size = w6.heap.size by simp] at hcl)
                exact hcl
              have HBA : Hid (∀ ua, ((w6.setCell ⟨h, 1, none⟩ (.string (strOf vv))).alloc (.cells #[.string key, .string (strOf vv), .int .i64 (seq : Int), .bool false] 27)).grownBy ua (Value.slice q l.length cq).ownBlock → ua.cell? ⟨h, 0, none⟩ = some (.string key)) := by
                intro ua hga
                exact (four ((hga.block _ (lt_heap HBX.out) (fun e => (HLT.out h e.symm).2 rfl)).trans HBX.out)).1.1
              clear hb9
              go_wp2_with (at_builtin; go_loud (refine wpList_append_own _ rfl _ _ 28 rfl w1.heap.size 27 i0 _ 4 48 Try.underlying28 hi hz0 hz1 hz2 rfl (by omega) _ _ _ rfl HOW.out ⟨w6.heap.size, 0, none⟩ 1 1 [.string key, .string (strOf vv), .int .i64 (seq : Int), .bool false] rfl rfl HCL.out (ent_one key (strOf vv) (seq : Int) false) (by have := HLL.out; unfold maxLen; omega) (by have := HLL.out; omega) HBE.out.size ?_); intro va ua hoa hga _; have d0 := HBA.out ua hga; have HNW : Hid (OnD w1 R (m - (k + 1)) key in3 p6 in3.length c6 va (l ++ [⟨key, (strOf vv), (seq : Int), false⟩]) ua) := ond_app HO.out HMK.out HT.out.2.2.2.2.1 HOW.out HBE.out HRW.out hoa hga HT.out.2.2.2.2.2; clear hoa hga)
              go_roundw
              case rel => exact ⟨k + 1, key, in3, p6, in3.length, c6, l ++ [⟨key, strOf vv, (seq : Int), false⟩], by omega, by go_num, rfl, rfl, by rw [List.length_append, HLL.out.1]; rfl, HNW.out⟩
              case measure => simp [intOf]; omega
      · have g4 : decide (k < m) = false := decide_eq_false hkm
        have hkI : (m : Int) ≤ (k : Int) := by omega
        have HRL : Hid (R = some l) := by
          show _ = _
          rw [hon.cut, show m - k = 0 from by omega]
          unfold gL
          simp
        obtain ⟨ys, E, hE⟩ : ∃ ys E, makeE l = (ys, E) := ⟨_, _, rfl⟩
        have HDR : Hid (docR xs = if makeE l = (xs, 0) then some l else none) := docR_some HL.out.1 (by rw [HGD.out, HRL.out])
        have HE : Hid (makeE l = (ys, E)) := hE
        have HMK := rMake_any q l.length cq l wr ⟨rfl, hon.own.ents⟩ ys E hE
        clear hon hE
        go_wp2_with fail
        refine HMK.mono ?_
        rintro e w5 ⟨v5, rfl, ho5, hb5⟩
        obtain ⟨p5, c5, rfl, _, _, _⟩ := own_form ho5
        have HO5 : Hid (EOwn w5 w1.heap.size (.slice q l.length cq) l ∧ Below w1.heap.size w1 w5) := ⟨HO.out.own.below hb5, below_bt HO.out.bel hb5⟩
        rcases Nat.eq_zero_or_pos E with h0 | h0
        · subst h0
          have hyb : ∀ c ∈ ys, c < 256 := by obtain ⟨_, e, _⟩ := makeE_ok HE.out; rw [e]; exact pageN_lt l
          have hcv1 := conv_bytes (own_in ho5 hyb) rfl c5
          have hcv2 := conv_bytes (HXB.out.1.below (below_bt HO.out.bel hb5)) HXB.out.2 cb
          have hse := str_eq hyb HXB.out.1.2
          by_cases hyx : ys = xs
          · subst hyx
            have HN : Hid (docR ys = some l) := by show _ = _; rw [HDR.out, if_pos HE.out]
            clear ho5 hb5 HMK hyb hse
            go_wp2
            go_ret2
            exact ⟨.inl ⟨l, _, HN.out, rfl, HO5.out.1⟩, HO5.out.2⟩
          · have HN : Hid (docR xs = none) := by show _ = _; rw [HDR.out, if_neg (by rw [HE.out]; simp [hyx])]
            have hs1 : ((strOf ys).toList == (strOf xs).toList) = false := by rw [hse]; simp [hyx]
            clear ho5 hb5 HMK hyb hse hyx
            go_wp2
            go_ret2
            exact ⟨.inr ⟨HN.out, rfl⟩, HO5.out.2⟩
        · have hne : ((E : Int) != 0) = true := by simp; omega
          have HN : Hid (docR xs = none) := by show _ = _; rw [HDR.out, if_neg (by rw [HE.out]; simp; intro _; omega)]
          clear ho5 hb5 HMK h0
          go_wp2
          go_ret2
          exact ⟨.inr ⟨HN.out, rfl⟩, HO5.out.2⟩
end Go.Proofs.Ytldgnejmmjbhiaa
namespace Go.Proofs.Ytldgnejmmjbhiaa
open Go.RowKit Go.WideShapes

set_option maxRecDepth 8000 in
set_option maxHeartbeats 1000000 in
theorem rFind_any (p : Option Addr) (n c : Nat) (xs : List Nat) (key : ByteArray) (w : World) (hn : n = xs.length) (hb : BIn w p xs) (hc : n ≤ c ∧ c ≤ maxLen ∧ (p = none → c = 0)) (y : EntV) (is : Bool) (E : Nat) (hR : findR xs key = (y, is, E)) :
    Calls Try.prog 21 #[.slice p n c, .string key] w fun e w' => e = .returned (.tuple #[entV y, .bool is, .int .i64 (E : Int)]) ∧ Below w.heap.size w w' := by
  have hbx : ∀ c ∈ xs, c < 256 := hb.2
  have HRD := rRead_any p n c xs (w.alloc (.cells zE 27)) hn (hb.alloc _) hc
  have HR : Hid (findR xs key = (y, is, E)) := hR
  obtain ⟨r, hr⟩ : ∃ r, isKeyB key = r := ⟨_, rfl⟩
  have HRK : Hid (isKeyB key = r) := hr
  have HBA : Hid (Below w.heap.size w (w.alloc (.cells zE 27)) ∧ (w.alloc (.cells zE 27)).heap[w.heap.size]? = some (.cells zE 27 (0, 0))) := ⟨below_alloc _ _, heap_alloc_new _ _⟩
  have HDE : Hid (docR xs = readE xs) := docR_eq hbx
  clear hn hb hc hR hr hbx
  unfold zE at HRD
  go_enter Try.func21, Try.ntmps21
  go_wp2_with fail
  refine HRD.mono ?_
  rintro e w1 ⟨hout, hb1⟩
  have HB1 : Hid (Below w.heap.size w w1) := below_bt HBA.out.1 hb1
  have HX1 : Hid (w1.heap[w.heap.size]? = some (.cells zE 27 (0, 0))) := block_below HBA.out.2 hb1
  obtain ⟨⟨z0, z1, z2, z3⟩, f0, f1, f2, f3⟩ := four HX1.out
  clear hb1 HRD
  rcases hout with ⟨l, v, hre, rfl, hown⟩ | ⟨hre, rfl⟩
  · rw [HDE.out] at hre
    obtain ⟨q, cq, rfl, _, hq2, _⟩ := hown.form
    have HE : Hid (EntsIn w1 q l) := hown.ents
    have hll : (l.length : Int) ≤ 9223372036854775807 := by unfold maxLen at hq2; have := hown.form; omega
    cases r with
    | false =>
      have HY : Hid (y = zeroE ∧ is = false ∧ E = 60) := by
        have := findR_key hre HRK.out
        rw [HR.out] at this
        show _ ∧ _
        simpa using this
      clear hown hre
      by_cases hk1 : key.size < 1
      · have gk1 : (key.size : Int) < 1 := by omega
        clear hk1
        go_wp2
        (try simp only [Exit.inBlock, Exit.then])
        refine bodyPost_ret (v := .tuple #[entV zeroE, .bool false, .int .i64 60]) ?_ rfl ⟨by rw [HY.out.1, HY.out.2.1, HY.out.2.2]; rfl, set4_below HB1.out⟩
        rw [results_cell_tmp2 rfl]
        go_simp
        rfl
      have gk1 : (1 : Int) ≤ (key.size : Int) := by omega
      have gk2 : (256 : Int) < (key.size : Int) := by have := HRK.out; unfold isKeyB at this; simp at this; omega
      clear hk1
      go_wp2
      (try simp only [Exit.inBlock, Exit.then])
      refine bodyPost_ret (v := .tuple #[entV zeroE, .bool false, .int .i64 60]) ?_ rfl ⟨by rw [HY.out.1, HY.out.2.1, HY.out.2.2]; rfl, set4_below HB1.out⟩
      rw [results_cell_tmp2 rfl]
      go_simp
      rfl
    | true =>
      have HF : Hid (pickR (findE (l.drop 0) key) = (y, is, E)) := by
        have := findR_ok hre HRK.out
        rw [HR.out] at this
        exact this.symm
      have gk1 : (1 : Int) ≤ (key.size : Int) := by have := HRK.out; unfold isKeyB at this; simp at this; omega
      have gk2 : (key.size : Int) ≤ 256 := by have := HRK.out; unfold isKeyB at this; simp at this; omega
      obtain ⟨w2, hw2⟩ : ∃ w2, w2 = w1 := ⟨_, rfl⟩
      subst hw2
      clear hown hre z0 z1 z2 z3 f0 f1 f2 f3
      go_wp2
      go_loopw [9] (fun i wr => ∃ k : Nat, k ≤ l.length ∧ i = .int .i64 k ∧ pickR (findE (l.drop k) key) = (y, is, E) ∧ Below w2.heap.size w2 wr) (fun i _ => l.length - (intOf i).toNat)
      case atStart => exact ⟨0, by omega, rfl, HF.out, Below.refl _ _⟩
      case round =>
        obtain ⟨k, hk, rfl, hf, hbel⟩ := hrel
        have HK : Hid (pickR (findE (l.drop k) key) = (y, is, E)) := hf
        have HB : Hid (Below w2.heap.size w2 wr) := hbel
        obtain ⟨⟨z0, z1, z2, z3⟩, f0, f1, f2, f3⟩ := four (block_below HX1.out hbel)
        clear hf hbel
        by_cases hkl : k < l.length
        · obtain ⟨b, o, rfl⟩ := HE.out.addr (by omega)
          obtain ⟨e0, e1, e2, e3⟩ := (HE.out.below HB.out).at hkl
          obtain ⟨x, hx⟩ : ∃ x, l.getD k zeroE = x := ⟨_, rfl⟩
          rw [hx] at e0 e1 e2 e3
          have HFA := findE_at hkl hx key
          obtain ⟨ke, ve, se, ge⟩ := x
          simp only at e0 e1 e2 e3 HFA
          have hkn : (k : Int) < (l.length : Int) := by omega
          have g9 : decide (k < l.length) = true := decide_eq_true hkl
          by_cases hke : ke = key
          · subst hke
            rw [if_pos rfl] at HFA
            have HY : Hid (y = ⟨ke, ve, se, ge⟩ ∧ is = true ∧ E = 0) := by
              have := HK.out
              rw [HFA] at this
              show _ ∧ _
              simp only [pickR, Prod.mk.injEq] at this
              exact ⟨this.1.symm, this.2.1.symm, this.2.2.symm⟩
            have hlt : w.heap.size < wr.heap.size := lt_heap (block_below HX1.out HB.out)
            have hne1 : ¬ w.heap.size = wr.heap.size := by omega
            have hne2 : ¬ wr.heap.size = w.heap.size := by omega
            clear HFA hx
            go_wp2
            (try simp only [Exit.inBlock, Exit.then])
            refine bodyPost_ret (v := .tuple #[entV ⟨ke, ve, se, ge⟩, .bool true, .int .i64 0]) ?_ rfl ⟨by rw [HY.out.1, HY.out.2.1, HY.out.2.2]; rfl, ?_⟩
            · rw [results_cell_tmp2 rfl]
              go_simp
              rfl
            · exact set4_below (below_bt HB1.out HB.out)
          · have g3 : (ke.toList == key.toList) = false := by rw [eq_str]; simp [hke]
            rw [if_neg hke] at HFA
            have H2 : Hid (pickR (findE (l.drop (k + 1)) key) = (y, is, E)) := by rw [← HFA]; exact HK.out
            clear HFA hx hke
            go_wp2
            go_roundw
            case rel => exact ⟨k + 1, by omega, by go_num, H2.out, HB.out⟩
            case measure => simp [intOf]; omega
        · have g2 : (l.length : Int) ≤ (k : Int) := by omega
          have g9 : decide (k < l.length) = false := decide_eq_false hkl
          have HY : Hid (y = zeroE ∧ is = false ∧ E = 0) := by
            have := HK.out
            rw [List.drop_eq_nil_of_le (by omega)] at this
            show _ ∧ _
            simp only [findE, pickR, Prod.mk.injEq] at this
            exact ⟨this.1.symm, this.2.1.symm, this.2.2.symm⟩
          go_wp2
          (try simp only [Exit.inBlock, Exit.then])
          refine bodyPost_ret (v := .tuple #[entV zeroE, .bool false, .int .i64 0]) ?_ rfl ⟨by rw [HY.out.1, HY.out.2.1, HY.out.2.2]; rfl, set4_below (below_bt HB1.out HB.out)⟩
          rw [results_cell_tmp2 rfl]
          go_simp
          rfl
  · rw [HDE.out] at hre
    have HY : Hid (y = zeroE ∧ is = false ∧ E = 8) := by
      have := findR_bad key hre
      rw [HR.out] at this
      show _ ∧ _
      simpa using this
    clear hre
    go_wp2
    (try simp only [Exit.inBlock, Exit.then])
    refine bodyPost_ret (v := .tuple #[entV zeroE, .bool false, .int .i64 8]) ?_ rfl ⟨by rw [HY.out.1, HY.out.2.1, HY.out.2.2]; rfl, set4_below HB1.out⟩
    rw [results_cell_tmp2 rfl]
    go_simp
    rfl
end Go.Proofs.Ytldgnejmmjbhiaa
namespace Go.Proofs.Ytldgnejmmjbhiaa.pageReads
open Go.ChangeShapes Go.WideShapes Go.ChangeAt Go.RowKit
open Go.ChangeMaps (open_string shut_string)
set_option linter.unusedVariables false

theorem own : ownKnob Try.prog.godebug = none := by kernel_rfl
theorem laidOut : laidOutB Try.prog = true := by kernel_rfl

def listOf (xs : List Nat) : List EntV × Nat :=
  match readE xs with
  | some l => (l, 0)
  | none => ([], 8)
theorem listOf_some {xs : List Nat} {l : List EntV} (h : readE xs = some l) : listOf xs = (l, 0) := by unfold listOf; rw [h]
theorem listOf_none {xs : List Nat} (h : readE xs = none) : listOf xs = ([], 8) := by unfold listOf; rw [h]
theorem listOf_len {xs : List Nat} (hx : ∀ c ∈ xs, c < 256) : (listOf xs).1.length ≤ 4096 := by
  cases h : readE xs with
  | some l => rw [listOf_some h]; exact (checkE_ok (makeE_ok (make_read hx h)).1).1
  | none => rw [listOf_none h]; simp
theorem read_form {xs : List Nat} {base : Nat} {e : Ending} {w' : World} (h : ReadOut xs base e w') : ∃ q c, e = .returned (.tuple #[.slice q (listOf xs).1.length c, .int .i64 ((listOf xs).2 : Int)]) ∧ EntsIn w' q (listOf xs).1 := by
  rcases h with ⟨l, v, hre, rfl, hown⟩ | ⟨hre, rfl⟩
  · obtain ⟨q, c, rfl, _⟩ := hown.form
    rw [listOf_some hre]
    exact ⟨q, c, rfl, hown.ents⟩
  · rw [listOf_none hre]
    exact ⟨none, 0, rfl, fun h => absurd h (by simp)⟩
theorem doc_form {xs : List Nat} (hx : ∀ c ∈ xs, c < 256) {base : Nat} {e : Ending} {w' : World} (h : DocOut xs base e w') : ∃ q c, e = .returned (.tuple #[.slice q (listOf xs).1.length c, .int .i64 ((listOf xs).2 : Int)]) ∧ EntsIn w' q (listOf xs).1 := by
  rcases h with ⟨l, v, hre, rfl, hown⟩ | ⟨hre, rfl⟩
  · obtain ⟨q, c, rfl, _⟩ := hown.form
    rw [docR_eq hx] at hre
    rw [listOf_some hre]
    exact ⟨q, c, rfl, hown.ents⟩
  · rw [docR_eq hx] at hre
    rw [listOf_none hre]
    exact ⟨none, 0, rfl, fun h => absurd h (by simp)⟩
set_option maxRecDepth 8000 in
set_option maxHeartbeats 4000000 in
theorem walk (vb : Value) (xs : List Nat) (key : ByteArray) (w : World) (hb : Row w vb xs) (hkey : key.size ≤ maxLen) :
    Calls Try.prog 5 #[vb, .string key] w fun e w' => e = .returned (.bool true) ∧ Below w.heap.size w w' := by
  obtain ⟨p, cb, rfl, hp, hd1, hd2, hd3⟩ := hb.lies
  have HP : Hid (BIn w p xs ∧ xs.length ≤ cb ∧ cb ≤ maxLen ∧ (p = none → cb = 0)) := ⟨hp, hd1, hd2, hd3⟩
  have HZ0 : Hid (w.heap.size ≤ w.heap.size) := Nat.le_refl _
  clear hb hp hd1 hd2 hd3 hkey
  by_cases h7 : 70000 < xs.length
  · have g7 : (70000 : Int) < (xs.length : Int) := by omega
    clear h7
    go_enter Try.func5, Try.ntmps5
    go_wp2
    go_ret
    exact ⟨rfl, Below.refl _ _⟩
  have g7 : (xs.length : Int) ≤ 70000 := by omega
  by_cases h8 : 10000 < key.size
  · have g8 : (10000 : Int) < (key.size : Int) := by omega
    clear h7 h8
    go_enter Try.func5, Try.ntmps5
    go_wp2
    go_ret
    exact ⟨rfl, Below.refl _ _⟩
  have g8 : (key.size : Int) ≤ 10000 := by omega
  obtain ⟨L, F, hLF⟩ : ∃ L F, listOf xs = (L, F) := ⟨_, _, rfl⟩
  have HLF : Hid (listOf xs = (L, F) ∧ L.length ≤ 4096 ∧ xs.length ≤ 70000) := ⟨hLF, by have := listOf_len HP.out.1.2; rw [hLF] at this; exact this, by omega⟩
  obtain ⟨y, is, G, hG⟩ : ∃ y is G, findR xs key = (y, is, G) := ⟨_, _, _, rfl⟩
  obtain ⟨ky, vy, sy, gy⟩ := y
  have HG : Hid (findR xs key = (⟨ky, vy, sy, gy⟩, is, G)) := hG
  have HOW : Hid (w.ownsRow w.heap.size 5 1 (.slice none 0 0) ([] : List Nat).length (Bs [])) := World.ownsRow_nil _ _ _ _
  clear h7 h8 hLF hG
  go_enter Try.func5, Try.ntmps5
  go_wp2_with (at_builtin; go_loud (refine wpList_append_bytes _ rfl _ _ rfl w.heap.size _ [] xs p _ cb rfl rfl rfl HOW.out HP.out.1 HP.out.2.2.2 (by simp only [List.length_nil]; have := HLF.out.2.2; omega) HZ0.out ?_); intro v3 w3 ho3 hg3; rw [List.nil_append] at ho3; obtain ⟨p3, c3, rfl, hx1, hx2, hx3⟩ := own_form ho3; have HO3 : Hid (BIn w3 p3 xs ∧ (xs.length ≤ c3 ∧ c3 ≤ maxLen ∧ (p3 = none → c3 = 0)) ∧ Below w.heap.size w w3) := ⟨own_in ho3 HP.out.1.2, ⟨hx1, hx2, hx3⟩, (Below.refl _ _).grown hg3 (Nat.le_refl _) (fun k hk => by cases hk)⟩; clear ho3 hg3 hx1 hx2 hx3)
  refine (Read_any p3 xs.length c3 xs _ rfl HO3.out.1 HO3.out.2.1).mono ?_
  rintro e w4 ⟨hout, hb4⟩
  obtain ⟨q4, c4, rfl, he4⟩ := read_form hout
  rw [HLF.out.1] at he4 ⊢
  have HB4 : Hid (Below w3.heap.size w3 w4) := hb4
  have HE4 : Hid (EntsIn w4 q4 L) := he4
  clear hout hb4 he4
  go_wp2_with fail
  refine (rRead_any p xs.length cb xs _ rfl (HP.out.1.below (below_bt HO3.out.2.2 HB4.out)) HP.out.2).mono ?_
  rintro e w5 ⟨hout, hb5⟩
  obtain ⟨q5, c5, rfl, he5⟩ := doc_form HP.out.1.2 hout
  rw [HLF.out.1] at he5 ⊢
  have HB5 : Hid (Below w3.heap.size w3 w5) := below_bt HB4.out hb5
  have HE5 : Hid (EntsIn w5 q4 L ∧ EntsIn w5 q5 L) := ⟨HE4.out.below hb5, he5⟩
  have HFI := Find_any p3 xs.length c3 xs key w5 rfl (HO3.out.1.below HB5.out) HO3.out.2.1 _ _ _ HG.out
  rw [entV_def] at HFI
  clear hout hb5 he5
  go_wp2_with fail
  refine HFI.mono ?_
  rintro e w6 ⟨rfl, hb6⟩
  have hb6' := below_bt hb6 (below_alloc w6 (.cells #[.string ky, .string vy, .int .i64 sy, .bool gy] 27))
  have HX6 : Hid ((w6.alloc (.cells #[.string ky, .string vy, .int .i64 sy, .bool gy] 27)).heap[w6.heap.size]? = some (.cells #[.string ky, .string vy, .int .i64 sy, .bool gy] 27 (0, 0)) ∧ Below w3.heap.size w3 (w6.alloc (.cells #[.string ky, .string vy, .int .i64 sy, .bool gy] 27)) ∧ Below w5.heap.size w5 (w6.alloc (.cells #[.string ky, .string vy, .int .i64 sy, .bool gy] 27))) := ⟨heap_alloc_new _ _, below_bt HB5.out hb6', hb6'⟩
  have HFJ := rFind_any p xs.length cb xs key _ rfl (HP.out.1.below (below_bt HO3.out.2.2 HX6.out.2.1)) HP.out.2 _ _ _ HG.out
  rw [entV_def] at HFJ
  clear hb6 hb6' HFI
  go_wp2_with fail
  refine HFJ.mono ?_
  rintro e w7 ⟨rfl, hb7⟩
  have hb8 := below_bt hb7 (below_alloc w7 (.cells #[.string ky, .string vy, .int .i64 sy, .bool gy] 27))
  have HX8 : Hid ((w7.alloc (.cells #[.string ky, .string vy, .int .i64 sy, .bool gy] 27)).heap[w6.heap.size]? = some (.cells #[.string ky, .string vy, .int .i64 sy, .bool gy] 27 (0, 0)) ∧ (w7.alloc (.cells #[.string ky, .string vy, .int .i64 sy, .bool gy] 27)).heap[w7.heap.size]? = some (.cells #[.string ky, .string vy, .int .i64 sy, .bool gy] 27 (0, 0)) ∧ Below w3.heap.size w3 (w7.alloc (.cells #[.string ky, .string vy, .int .i64 sy, .bool gy] 27)) ∧ Below w5.heap.size w5 (w7.alloc (.cells #[.string ky, .string vy, .int .i64 sy, .bool gy] 27))) := ⟨block_below HX6.out.1 hb8, heap_alloc_new _ _, below_bt HX6.out.2.1 hb8, below_bt HX6.out.2.2 hb8⟩
  have HSA := rsame_yes q4 q5 L.length c4 c5 L _ rfl (by have := HLF.out.2.1; omega) (HE5.out.1.below HX8.out.2.2.2) (HE5.out.2.below HX8.out.2.2.2)
  clear hb7 hb8 HFJ
  go_wp2_with fail
  refine HSA.mono ?_
  rintro e w9 ⟨rfl, hb9⟩
  obtain ⟨⟨x0, x1, x2, x3⟩, _⟩ := four (block_below HX8.out.1 hb9)
  obtain ⟨⟨y0, y1, y2, y3⟩, _⟩ := four (block_below HX8.out.2.1 hb9)
  have HB9 : Hid (Below w3.heap.size w3 w9) := below_bt HX8.out.2.2.1 hb9
  have hcv1 := conv_bytes (HO3.out.1.below HB9.out) rfl c3
  have hcv2 := conv_bytes (HP.out.1.below (below_bt HO3.out.2.2 HB9.out)) rfl cb
  clear hb9 HSA
  go_wp2
  go_ret
  exact ⟨rfl, below_bt HO3.out.2.2 HB9.out⟩

/-! ### THE ROW's STEP -/
set_option maxRecDepth 100000 in
theorem lifted (os : Os) (started : os.Started) (H : Type) (enc : TypeId × Value → H) :
    ReturnsInHanded {} Try.checked os 5 .any (Rows.pageReadsSpec.pre6 enc Try.prog Try.f5 Rows.pageReadsRow.domain false) (Rows.pageReadsSpec.post enc Try.prog Try.f5 false true false false) := by
  refine returnsInHanded_of_change (C := Try.checked) own started (by kernel_rfl) Try.func5
    (ChangeSpec.witness6 (enc := enc) (C := Try.checked) false ⟨#[], #[.slice none 0 0, .string ByteArray.empty], []⟩ 8 (by kernel_rfl) (by kernel_rfl) (by kernel_rfl) (by kernel_rfl)) ?_
  intro W base args ds gs before hval0 hW hcnd _
  have hval : ∀ (j : Nat) t v, Try.f5.params[j]? = some t → args[j]? = some v → Value.okWide Try.prog W .any base t v := hval0
  have hW' := hW
  obtain ⟨p, q, hA0, hV, rfl, hfz, hnd⟩ := hW
  have hA : DataW.TrodAll enc Try.prog W 0 (fun _ => true) true Try.f5.params.toList args.toList ds p := hA0
  rw [Try.params5] at hA hval
  obtain ⟨v0, vs0, d0, ds0, p0, q0, hargs, rfl, rfl, h0, r0⟩ := trodAll_cons hA
  obtain ⟨v1, vs1, d1, ds1, p1, q1, rfl, rfl, rfl, h1, r1⟩ := trodAll_cons r0
  obtain ⟨rfl, rfl, rfl⟩ := trodAll_nil r1
  obtain rfl : args = #[v0, v1] := by cases args; simp_all
  obtain ⟨rfl, rfl⟩ := trodVars_none hV
  have k0 := h0
  have lt0 : ∀ x ∈ p0, x.block < W.heap.size := by obtain ⟨m, hm⟩ := k0; exact DataW.trod_lt m _ _ _ hm
  obtain ⟨qa0, la0, ca0, rfl⟩ := okWide_slice Try.underlying22 (hval 0 22 v0 rfl rfl)
  obtain ⟨fu0, hf0⟩ := h0
  obtain ⟨l0, w0⟩ := open_bytes Try.underlying22 Try.underlying5 (by kernel_rfl) hf0
  obtain ⟨a1, rfl, rfl, rfl, w1⟩ := open_string Try.underlying9 (hval 1 9 v1 rfl rfl) h1
  clear hA0 hval0
  refine (walk (.slice qa0 la0 ca0) l0 a1 W w0 w1).mono fun e W' ⟨he, bel⟩ => ?_
  subst he
  exact ⟨_, rfl, _, _, _, [], _, [], hW', trodAll_mk1 (shut_bool Try.underlying4 _), (trodAll_cons_mk (Below.trod laidOut (by kernel_rfl) (of_decide_eq_true (by kernel_rfl)) k0 bel lt0) (trodAll_cons_mk (shut_string Try.underlying9 w1) trodAll_mk0)), rfl, bel.frame _, fun h => by cases h⟩

theorem over : Rows.pageReadsRow.holds Try.pinned (OpenSpec.ofChange Rows.pageReadsSpec) :=
  OpenClaim.holds_of_wide 5 Try.f5 rfl rfl rfl rfl rfl rfl rfl ⟨rfl, rfl, rfl, rfl, rfl⟩ rfl rfl rfl rfl rfl (by kernel_rfl) Try.func5 (by kernel_rfl)
    (of_decide_eq_true (by kernel_rfl)) (by unfold Func.isWrapper; first | (rw [if_pos (by decide +kernel)]; kernel_rfl) | (rw [if_neg (by decide +kernel)]; exact ⟨rfl, rfl⟩))
    (fun os started H enc _ => lifted os started H enc)

theorem proved : Rows.PageReadsSaid := over
end Go.Proofs.Ytldgnejmmjbhiaa.pageReads
namespace Go.Proofs.Ytldgnejmmjbhiaa
theorem pageReads_holds : Rows.PageReadsSaid := pageReads.proved
#print axioms pageReads_holds
end Go.Proofs.Ytldgnejmmjbhiaa
