/-
  Contracts of the calls Free and Take.
-/
import Derived.Test.YtfplpdnhhefbaaaPLeast
namespace Go.Proofs.Ytfplpdnhhefbaaa
open Go.RowKit Go.WideShapes

def ListPost (l : Pcs) (e : Int) (w : World) (en : Ending) (w' : World) : Prop :=
  ∃ q c, en = .returned (.tuple #[.slice q l.length c, .int .i64 e]) ∧ POwn w' w.heap.size (.slice q l.length c) l ∧ Below w.heap.size w w'
theorem listPost_nil {l : Pcs} {e : Int} {w w' : World} {en : Ending} (hl : l = []) (he : en = .returned (.tuple #[.slice none 0 0, .int .i64 e])) (hb : Below w.heap.size w w') : ListPost l e w en w' := by
  subst hl
  exact ⟨none, 0, he, pown_nil _ _, hb⟩
theorem listPost_own {l : Pcs} {e : Int} {v : Value} {w w1 w' : World} {en : Ending} (he : en = .returned (.tuple #[v, .int .i64 e])) (ho : POwn w' w1.heap.size v l) (h1 : Below w.heap.size w w1) (hb : Below w1.heap.size w1 w') : ListPost l e w en w' := by
  obtain ⟨q, m, rfl, _⟩ := ho.form
  exact ⟨q, m, he, ho.mono h1.size, below_bt h1 hb⟩

set_option maxHeartbeats 1000000 in
theorem free_any (first count : Int) (v : Value) (l : Pcs) (w : World) (hl : PIn w v l) :
    Calls Try.prog 16 #[.int .i64 first, .int .i64 count, v] w (ListPost (resF first count l) (errF first count l) w) := by
  obtain ⟨q, c, rfl, _⟩ := hl.lies
  have hck := check_any count _ l w hl
  by_cases h1 : (0 ≤ count ∧ count ≤ 4096) ∧ 0 ≤ first ∧ first ≤ count
  · by_cases h2 : errK count l = 0
    · have hz := errK_zero h2
      rw [h2] at hck
      have h3 : errF first count l = 0 := by rw [errF_ok h1, h2]
      rw [resF_ok h3, h3]
      unfold gotF
      obtain ⟨f, rfl⟩ := Int.eq_ofNat_of_zero_le h1.2.1
      obtain ⟨n, rfl⟩ := Int.eq_ofNat_of_zero_le h1.1.1
      have hle : ∀ w1, Below w.heap.size w w1 → Calls Try.prog 28 #[.int .i64 f, .int .i64 n, .slice q l.length c, .int .i64 4096] w1 _ := fun w1 hb => least_any f n 4096 _ l w1 (hl.below hb) hz.2.1 hz.2.2 (by omega) (by omega) (Nat.le_refl _)
      rw [show ((f : Int)).toNat = f from by omega, show ((n : Int) - (f : Int)).toNat = n - f from by omega]
      clear hl hz h2 h3
      go_enter Try.func16, Try.ntmps16
      go_wp2_with (first
        | (go_at_call 26; refine (mayBegin_any f n _).mono ?_; rintro e w ⟨rfl, rfl⟩; rw [decide_eq_true h1])
        | (go_at_call 14; refine hck.mono ?_; rintro e w1 ⟨rfl, hb1⟩)
        | (go_at_call 28; refine (hle _ hb1).mono ?_; rintro e w2 ⟨v2, rfl, ho2, hb2⟩))
      go_ret2
      exact listPost_own rfl ho2 hb1 hb2
    · have h3 : errF first count l = errK count l := errF_ok h1
      have h4 : resF first count l = [] := resF_bad (by rw [h3]; exact h2)
      have hne : (errK count l != 0) = true := by simpa using h2
      rw [h4, h3]
      generalize errK count l = E at *
      clear hl h2 h3
      go_enter Try.func16, Try.ntmps16
      go_wp2_with (first
        | (go_at_call 26; refine (mayBegin_any first count _).mono ?_; rintro e w ⟨rfl, rfl⟩; rw [decide_eq_true h1])
        | (go_at_call 14; refine hck.mono ?_; rintro e w1 ⟨rfl, hb1⟩))
      go_ret2
      exact listPost_nil rfl rfl hb1
  · have h3 : errF first count l = 2 := errF_arg h1
    rw [resF_bad (by rw [h3]; decide), h3]
    go_enter Try.func16, Try.ntmps16
    go_wp2_with (go_at_call 26; refine (mayBegin_any first count _).mono ?_; rintro e w ⟨rfl, rfl⟩; rw [decide_eq_false h1])
    go_ret2
    exact listPost_nil rfl rfl (Below.refl _ _)

set_option maxHeartbeats 1000000 in
theorem take_any (first count : Int) (v : Value) (l : Pcs) (many : Int) (w : World) (hl : PIn w v l) :
    Calls Try.prog 9 #[.int .i64 first, .int .i64 count, v, .int .i64 many] w (ListPost (resT first count l many) (errT first count l many) w) := by
  obtain ⟨q, c, rfl, _⟩ := hl.lies
  have hck := check_any count _ l w hl
  by_cases h1 : (0 ≤ count ∧ count ≤ 4096) ∧ 0 ≤ first ∧ first ≤ count
  · by_cases h0 : 0 ≤ many ∧ many ≤ 4096
    · by_cases h2 : errK count l = 0
      · have hz := errK_zero h2
        rw [h2] at hck
        have h3 : errF first count l = 0 := by rw [errF_ok h1, h2]
        obtain ⟨f, rfl⟩ := Int.eq_ofNat_of_zero_le h1.2.1
        obtain ⟨n, rfl⟩ := Int.eq_ofNat_of_zero_le h1.1.1
        obtain ⟨m, rfl⟩ := Int.eq_ofNat_of_zero_le h0.1
        have hle : ∀ w1, Below w.heap.size w w1 → Calls Try.prog 28 #[.int .i64 f, .int .i64 n, .slice q l.length c, .int .i64 m] w1 _ := fun w1 hb => least_any f n m _ l w1 (hl.below hb) hz.2.1 hz.2.2 (by omega) (by omega) (by omega)
        have hgot : gotF (f : Int) (n : Int) l ((m : Int)).toNat = runsK (freeB l) m f (n - f) := by
          unfold gotF
          rw [show ((f : Int)).toNat = f from by omega, show ((n : Int) - (f : Int)).toNat = n - f from by omega, show ((m : Int)).toNat = m from by omega]
        by_cases h5 : (runsK (freeB l) m f (n - f)).2 < m
        · have hE : errT (f : Int) (n : Int) l (m : Int) = 30 := errT_few h0 h3 (by rw [hgot]; omega)
          rw [resT_bad (by rw [hE]; decide), hE]
          generalize runsK (freeB l) m f (n - f) = r at *
          clear hl hz h2 h3 hgot
          go_enter Try.func9, Try.ntmps9
          go_wp2_with (first
            | (go_at_call 26; refine (mayBegin_any f n _).mono ?_; rintro e w ⟨rfl, rfl⟩; rw [decide_eq_true h1])
            | (go_at_call 27; refine (mayCount_any m _).mono ?_; rintro e w ⟨rfl, rfl⟩; rw [decide_eq_true h0])
            | (go_at_call 14; refine hck.mono ?_; rintro e w1 ⟨rfl, hb1⟩)
            | (go_at_call 28; refine (hle _ hb1).mono ?_; rintro e w2 ⟨v2, rfl, ho2, hb2⟩))
          go_ret2
          exact listPost_nil rfl rfl (below_bt hb1 hb2)
        · have hE : errT (f : Int) (n : Int) l (m : Int) = 0 := errT_ok h0 h3 (by rw [hgot]; omega)
          rw [resT_ok hE, hE, hgot]
          generalize runsK (freeB l) m f (n - f) = r at *
          clear hl hz h2 h3 hgot
          go_enter Try.func9, Try.ntmps9
          go_wp2_with (first
            | (go_at_call 26; refine (mayBegin_any f n _).mono ?_; rintro e w ⟨rfl, rfl⟩; rw [decide_eq_true h1])
            | (go_at_call 27; refine (mayCount_any m _).mono ?_; rintro e w ⟨rfl, rfl⟩; rw [decide_eq_true h0])
            | (go_at_call 14; refine hck.mono ?_; rintro e w1 ⟨rfl, hb1⟩)
            | (go_at_call 28; refine (hle _ hb1).mono ?_; rintro e w2 ⟨v2, rfl, ho2, hb2⟩))
          go_ret2
          exact listPost_own rfl ho2 hb1 hb2
      · have h3 : errT first count l many = errK count l := by rw [errT_bad h0 (by rw [errF_ok h1]; exact h2), errF_ok h1]
        have hne : (errK count l != 0) = true := by simpa using h2
        rw [resT_bad (by rw [h3]; exact h2), h3]
        generalize errK count l = E at *
        clear hl h2 h3
        go_enter Try.func9, Try.ntmps9
        go_wp2_with (first
          | (go_at_call 26; refine (mayBegin_any first count _).mono ?_; rintro e w ⟨rfl, rfl⟩; rw [decide_eq_true h1])
          | (go_at_call 27; refine (mayCount_any many _).mono ?_; rintro e w ⟨rfl, rfl⟩; rw [decide_eq_true h0])
          | (go_at_call 14; refine hck.mono ?_; rintro e w1 ⟨rfl, hb1⟩))
        go_ret2
        exact listPost_nil rfl rfl hb1
    · have h3 : errT first count l many = 2 := errT_arg h0
      rw [resT_bad (by rw [h3]; decide), h3]
      go_enter Try.func9, Try.ntmps9
      go_wp2_with (first
        | (go_at_call 26; refine (mayBegin_any first count _).mono ?_; rintro e w ⟨rfl, rfl⟩; rw [decide_eq_true h1])
        | (go_at_call 27; refine (mayCount_any many _).mono ?_; rintro e w ⟨rfl, rfl⟩; rw [decide_eq_false h0]))
      go_ret2
      exact listPost_nil rfl rfl (Below.refl _ _)
  · have h3 : errT first count l many = 2 := by
      by_cases h0 : 0 ≤ many ∧ many ≤ 4096
      · rw [errT_bad h0 (by rw [errF_arg h1]; decide), errF_arg h1]
      · exact errT_arg h0
    rw [resT_bad (by rw [h3]; decide), h3]
    go_enter Try.func9, Try.ntmps9
    go_wp2_with (go_at_call 26; refine (mayBegin_any first count _).mono ?_; rintro e w ⟨rfl, rfl⟩; rw [decide_eq_false h1])
    go_ret2
    exact listPost_nil rfl rfl (Below.refl _ _)
end Go.Proofs.Ytfplpdnhhefbaaa
