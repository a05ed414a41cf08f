/-
  Contracts of the document's Check, asked, Free, Take, Many, Join.
-/
import Derived.Test.YtfplpdnhhefbaaaRpRuns
namespace Go.Proofs.Ytfplpdnhhefbaaa
open Go.RowKit Go.WideShapes

set_option maxHeartbeats 1000000 in
theorem rcheck_any (count : Int) (v : Value) (l : Pcs) (w : World) (hl : PIn w v l) :
    Calls Try.prog 19 #[.int .i64 count, v] w fun e w' => e = .returned (.int .i64 (errK count l)) ∧ Below w.heap.size w w' := by
  obtain ⟨q, c, rfl, _, hlc, hcm, _⟩ := hl.lies
  unfold maxLen at hcm
  by_cases h0 : 0 ≤ count
  · by_cases h1 : count ≤ 4096
    · by_cases h2 : l.length ≤ 4096
      · obtain ⟨n, rfl⟩ := Int.eq_ofNat_of_zero_le h0
        have hta := taken_any n _ l w hl (by omega)
        by_cases h3 : Good n l
        · have HE : Hid (errK n l = 0) := errK_ok ⟨h0, h1⟩ h2 h3
          have HG : Hid (Good n l) := h3
          clear hl h3
          go_enter Try.func19, Try.ntmps19
          go_wp2_with fail
          refine hta.mono ?_
          rintro e w1 hT
          obtain ⟨g, rfl, _, _, hb1⟩ := hT.1 HG.out
          clear hT
          go_wp2
          go_ret
          exact ⟨by rw [HE.out]; rfl, hb1⟩
        · have HE : Hid (errK n l = 8) := errK_bad ⟨h0, h1⟩ h2 h3
          have HG : Hid (¬ Good n l) := h3
          clear hl h3
          go_enter Try.func19, Try.ntmps19
          go_wp2_with fail
          refine hta.mono ?_
          rintro e w1 hT
          obtain ⟨rfl, hb1⟩ := hT.2 HG.out
          clear hT
          go_wp2
          go_ret
          exact ⟨by rw [HE.out]; rfl, hb1⟩
      · have HE : Hid (errK count l = 4) := errK_many ⟨h0, h1⟩ h2
        go_enter Try.func19, Try.ntmps19
        go_wp2
        go_ret
        exact ⟨by rw [HE.out]; rfl, Below.refl _ _⟩
    · have HE : Hid (errK count l = 2) := errK_arg (fun h => h1 h.2)
      go_enter Try.func19, Try.ntmps19
      go_wp2
      go_ret
      exact ⟨by rw [HE.out]; rfl, Below.refl _ _⟩
  · have HE : Hid (errK count l = 2) := errK_arg (fun h => h0 h.1)
    go_enter Try.func19, Try.ntmps19
    go_wp2
    go_ret
    exact ⟨by rw [HE.out]; rfl, Below.refl _ _⟩
set_option maxHeartbeats 1000000 in
theorem rasked_any (first count : Int) (v : Value) (l : Pcs) (w : World) (hl : PIn w v l) :
    Calls Try.prog 32 #[.int .i64 first, .int .i64 count, v] w fun e w' => e = .returned (.int .i64 (errF first count l)) ∧ Below w.heap.size w w' := by
  obtain ⟨q, c, rfl, _⟩ := hl.lies
  have hck := rcheck_any count _ l w hl
  by_cases h0 : 0 ≤ count
  · by_cases h1 : count ≤ 4096
    · by_cases h2 : 0 ≤ first
      · by_cases h3 : first ≤ count
        · have HE : Hid (errF first count l = errK count l) := errF_ok ⟨⟨h0, h1⟩, h2, h3⟩
          clear hl
          go_enter Try.func32, Try.ntmps32
          go_wp2_with fail
          refine hck.mono ?_
          rintro e w1 ⟨rfl, hb1⟩
          go_wp2
          go_ret
          exact ⟨by rw [HE.out]; rfl, hb1⟩
        · have HE : Hid (errF first count l = 2) := errF_arg (fun h => h3 h.2.2)
          go_enter Try.func32, Try.ntmps32
          go_wp2
          go_ret
          exact ⟨by rw [HE.out]; rfl, Below.refl _ _⟩
      · have HE : Hid (errF first count l = 2) := errF_arg (fun h => h2 h.2.1)
        go_enter Try.func32, Try.ntmps32
        go_wp2
        go_ret
        exact ⟨by rw [HE.out]; rfl, Below.refl _ _⟩
    · have HE : Hid (errF first count l = 2) := errF_arg (fun h => h1 h.1.2)
      go_enter Try.func32, Try.ntmps32
      go_wp2
      go_ret
      exact ⟨by rw [HE.out]; rfl, Below.refl _ _⟩
  · have HE : Hid (errF first count l = 2) := errF_arg (fun h => h0 h.1.1)
    go_enter Try.func32, Try.ntmps32
    go_wp2
    go_ret
    exact ⟨by rw [HE.out]; rfl, Below.refl _ _⟩
theorem runs_free (l : Pcs) (many first k : Nat) : runsK (wantP (cov l) false) many first k = runsK (freeB l) many first k := runsK_congr k (fun n _ _ => by unfold wantP freeB; cases cov l n <;> rfl)
theorem runs_join (n : Nat) (l : Pcs) : (runsK (wantP (cov l) true) n 0 (n - 0)).1 = joinK n l := by
  rw [Nat.sub_zero]
  unfold joinK
  rw [runsK_congr (P := wantP (cov l) true) (Q := cov l) n (fun n _ _ => by unfold wantP; cases cov l n <;> rfl)]
theorem got_nat (f n m : Nat) (l : Pcs) : gotF (f : Int) (n : Int) l m = runsK (freeB l) m f (n - f) := by
  unfold gotF
  rw [show ((f : Int)).toNat = f from by omega, show ((n : Int) - (f : Int)).toNat = n - f from by omega]
set_option maxHeartbeats 1000000 in
theorem rfree_any (first count : Int) (v : Value) (l : Pcs) (w : World) (hl : PIn w v l) :
    Calls Try.prog 17 #[.int .i64 first, .int .i64 count, v] w (ListPost (resF first count l) (errF first count l) w) := by
  obtain ⟨q, c, rfl, _⟩ := hl.lies
  have hck := rasked_any first count _ l w hl
  by_cases h2 : errF first count l = 0
  · have hz := errF_zero h2
    rw [resF_ok h2, h2]
    rw [h2] at hck
    obtain ⟨f, rfl⟩ := Int.eq_ofNat_of_zero_le hz.1.2.1
    obtain ⟨n, rfl⟩ := Int.eq_ofNat_of_zero_le hz.1.1.1
    rw [got_nat]
    have hta := fun w1 (hb : Below w.heap.size w w1) => taken_any n _ l w1 (hl.below hb) (by omega)
    have HG : Hid (Good n l) := hz.2.2
    have hru : ∀ w1 g, BAt w1 g (cov l) n → Calls Try.prog 34 #[.slice (some ⟨g, 0, none⟩) n n, .int .i64 f, .bool false, .int .i64 4096] w1 fun e w' => ∃ v', e = .returned v' ∧ POwn w' w1.heap.size v' (runsK (freeB l) 4096 f (n - f)).1 ∧ Below w1.heap.size w1 w' := by
      intro w1 g hb
      have := runs_any (cov l) false g n f 4096 w1 hb (by omega) (by omega) (by omega)
      rwa [runs_free] at this
    generalize (runsK (freeB l) 4096 f (n - f)).1 = out at *
    clear hl hz h2
    go_enter Try.func17, Try.ntmps17
    go_wp2_with fail
    refine hck.mono ?_
    rintro e w1 ⟨rfl, hb1⟩
    go_wp2_with fail
    refine (hta w1 hb1).mono ?_
    rintro e w2 hT
    obtain ⟨g, rfl, hrow, hge, hb2⟩ := hT.1 HG.out
    have HRow : Hid (BAt w2 g (cov l) n) := hrow
    clear hT hrow
    go_wp2_with fail
    refine (hru w2 g HRow.out).mono ?_
    rintro e w3 ⟨v3, rfl, ho3, hb3⟩
    have HO : Hid (POwn w3 w2.heap.size v3 out) := ho3
    clear ho3 HRow hta hru
    go_wp2
    go_ret2
    exact listPost_own rfl HO.out (below_bt hb1 hb2) hb3
  · have hne : (errF first count l != 0) = true := by simpa using h2
    rw [resF_bad h2]
    generalize errF first count l = E at *
    clear hl h2
    go_enter Try.func17, Try.ntmps17
    go_wp2_with fail
    refine hck.mono ?_
    rintro e w1 ⟨rfl, hb1⟩
    go_wp2
    go_ret2
    exact listPost_nil rfl rfl hb1
/-! ### Take -/
theorem runs_sum (P : Int → Bool) (many first k : Nat) : sumP (runsK P many first k).1 = ((runsK P many first k).2 : Nat) := by
  have h := runsK_of P many first k
  rw [← secs_len_sum (fun p hp => by have := h.runs.2 p hp; omega), h.secs, h.got]
theorem take_wn {s : Pcs} (h : ∀ p ∈ s, 0 ≤ p.1 ∧ 0 ≤ p.2 ∧ p.1 + p.2 ≤ 4096) (k : Nat) : ∀ p ∈ s.take k, 0 ≤ p.2 ∧ p.2 ≤ 4096 := by
  intro p hp
  have := h p (List.mem_of_mem_take hp)
  omega
set_option maxHeartbeats 2000000 in
theorem rtake_any (first count : Int) (v : Value) (l : Pcs) (many : Int) (w : World) (hl : PIn w v l) :
    Calls Try.prog 18 #[.int .i64 first, .int .i64 count, v, .int .i64 many] w (ListPost (resT first count l many) (errT first count l many) w) := by
  obtain ⟨q, c, rfl, _⟩ := hl.lies
  have hck := rasked_any first count _ l w hl
  by_cases h0 : 0 ≤ many
  · by_cases h1 : many ≤ 4096
    · by_cases h2 : errF first count l = 0
      · have hz := errF_zero h2
        rw [h2] at hck
        obtain ⟨f, rfl⟩ := Int.eq_ofNat_of_zero_le hz.1.2.1
        obtain ⟨n, rfl⟩ := Int.eq_ofNat_of_zero_le hz.1.1.1
        obtain ⟨m, rfl⟩ := Int.eq_ofNat_of_zero_le h0
        have hgot : gotF (f : Int) (n : Int) l ((m : Int)).toNat = runsK (freeB l) m f (n - f) := by rw [show ((m : Int)).toNat = m from by omega, got_nat]
        have HFew : Hid ((runsK (freeB l) m f (n - f)).2 < m → ListPost (resT (f : Int) (n : Int) l (m : Int)) (errT (f : Int) (n : Int) l (m : Int)) w = ListPost [] 30 w) := by
          intro hlt
          have hE : errT (f : Int) (n : Int) l (m : Int) = 30 := errT_few ⟨h0, h1⟩ h2 (by rw [hgot]; omega)
          rw [resT_bad (by rw [hE]; decide), hE]
        have HOk : Hid (¬ (runsK (freeB l) m f (n - f)).2 < m → ListPost (resT (f : Int) (n : Int) l (m : Int)) (errT (f : Int) (n : Int) l (m : Int)) w = ListPost (runsK (freeB l) m f (n - f)).1 0 w) := by
          intro hlt
          have hE : errT (f : Int) (n : Int) l (m : Int) = 0 := errT_ok ⟨h0, h1⟩ h2 (by rw [hgot]; omega)
          rw [resT_ok hE, hE, hgot]
        generalize ListPost (resT (f : Int) (n : Int) l (m : Int)) (errT (f : Int) (n : Int) l (m : Int)) w = POST at *
        have hta := fun w1 (hb : Below w.heap.size w w1) => taken_any n _ l w1 (hl.below hb) (by omega)
        have HG : Hid (Good n l) := hz.2.2
        have hru : ∀ w1 g, BAt w1 g (cov l) n → Calls Try.prog 34 #[.slice (some ⟨g, 0, none⟩) n n, .int .i64 f, .bool false, .int .i64 m] w1 fun e w' => ∃ q c, e = .returned (.slice q (runsK (freeB l) m f (n - f)).1.length c) ∧ POwn w' w1.heap.size (.slice q (runsK (freeB l) m f (n - f)).1.length c) (runsK (freeB l) m f (n - f)).1 ∧ Below w1.heap.size w1 w' ∧ (runsK (freeB l) m f (n - f)).1.length ≤ c ∧ c ≤ 9223372036854775807 := by
          intro w1 g hb
          have := runs_any (cov l) false g n f m w1 hb (by omega) (by omega) (by omega)
          rw [runs_free] at this
          refine this.mono ?_
          rintro e w' ⟨v', rfl, ho, hb'⟩
          obtain ⟨q', c', rfl, k1, k2, _⟩ := ho.form
          unfold maxLen at k2
          exact ⟨q', c', rfl, ho, hb', k1, by omega⟩
        have hsum := runs_sum (freeB l) m f (n - f)
        have hbd := runsK_bounds (freeB l) m f (n - f) 4096 (by omega)
        have hln := runsK_len (freeB l) m f (n - f)
        have hgl := runsK_le (freeB l) m f (n - f)
        generalize hrr : (runsK (freeB l) m f (n - f)) = r at *
        obtain ⟨out, got⟩ := r
        simp only at hsum hbd hln hgl hru HFew HOk
        have HSum : Hid (sumP out = (got : Nat)) := hsum
        have HBd : Hid (∀ p ∈ out, 0 ≤ p.1 ∧ 0 ≤ p.2 ∧ p.1 + p.2 ≤ 4096) := hbd
        clear hl hz h2 hgot hsum hbd hrr
        go_enter Try.func18, Try.ntmps18
        go_wp2_with fail
        refine hck.mono ?_
        rintro e w1 ⟨rfl, hb1⟩
        go_wp2_with fail
        refine (hta w1 hb1).mono ?_
        rintro e w2 hT
        obtain ⟨g, rfl, hrow, hge, hb2⟩ := hT.1 HG.out
        have HRow : Hid (BAt w2 g (cov l) n) := hrow
        clear hT hrow
        go_wp2_with fail
        refine (hru w2 g HRow.out).mono ?_
        rintro e w3 ⟨q3, c3, rfl, ho3, hb3, k1, k2⟩
        have HO : Hid (POwn w3 w2.heap.size (.slice q3 out.length c3) out) := ho3
        have hq3 := ho3.pcs
        have hb12 := below_bt hb1 hb2
        clear ho3 HRow hta hru hck hb1 hb2
        go_wp2
        go_loopw [14, 15] (fun s i wr => ∃ k : Nat, k ≤ out.length ∧ i = .int .i64 k ∧ s = .int .i64 (sumP (out.take k)) ∧ wr = w3) (fun _ i _ => out.length - (intOf i).toNat)
        case atStart => exact ⟨0, by omega, rfl, rfl, rfl⟩
        case round =>
          obtain ⟨k, hk, rfl, rfl, rfl⟩ := hrel
          by_cases hkl : k < out.length
          · obtain ⟨b, o, rfl⟩ := hq3.addr (by omega)
            obtain ⟨e1, e2⟩ := hq3.at hkl
            have hwn := HBd.out _ (getD_mem' (d := (0, 0)) hkl)
            have hs := sumP_bound (take_wn HBd.out k)
            have hsl : (out.take k).length ≤ 4096 := by simp; omega
            have HS : Hid _ := sum_step hkl
            clear hq3
            generalize out.getD k (0, 0) = y at *
            obtain ⟨a, n'⟩ := y
            generalize sumP (out.take k) = S at *
            generalize (out.take k).length = L at *
            simp only at e1 e2 hwn
            go_wp2
            go_roundw
            case rel => exact ⟨k + 1, by omega, by go_num, by rw [HS.out], by first | rfl | trivial⟩
            case measure => simp [intOf]; omega
          · obtain rfl : k = out.length := by omega
            rw [List.take_length, HSum.out]
            clear hq3
            by_cases h5 : got < m
            · have HP := HFew.out h5
              subst HP
              clear HFew HOk
              go_wp2
              go_ret2
              exact listPost_nil rfl rfl (below_bt hb12 hb3)
            · have HP := HOk.out h5
              subst HP
              clear HFew HOk
              go_wp2
              go_ret2
              exact listPost_own rfl HO.out hb12 hb3
      · have h3 : errT first count l many = errF first count l := errT_bad ⟨h0, h1⟩ h2
        have hne : (errF first count l != 0) = true := by simpa using h2
        rw [resT_bad (by rw [h3]; exact h2), h3]
        generalize errF first count l = E at *
        clear hl h2 h3
        go_enter Try.func18, Try.ntmps18
        go_wp2_with fail
        refine hck.mono ?_
        rintro e w1 ⟨rfl, hb1⟩
        go_wp2
        go_ret2
        exact listPost_nil rfl rfl hb1
    · have h3 : errT first count l many = 2 := errT_arg (fun h => h1 h.2)
      rw [resT_bad (by rw [h3]; decide), h3]
      go_enter Try.func18, Try.ntmps18
      go_wp2
      go_ret2
      exact listPost_nil rfl rfl (Below.refl _ _)
  · have h3 : errT first count l many = 2 := errT_arg (fun h => h0 h.1)
    rw [resT_bad (by rw [h3]; decide), h3]
    go_enter Try.func18, Try.ntmps18
    go_wp2
    go_ret2
    exact listPost_nil rfl rfl (Below.refl _ _)
end Go.Proofs.Ytfplpdnhhefbaaa
