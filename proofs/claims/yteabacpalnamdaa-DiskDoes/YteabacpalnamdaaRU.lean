/-
  The calls that the statement DiskReads makes, each by one contract for whatever it is handed.
-/
import Derived.Test.YteabacpalnamdaaRWrite
import Derived.Test.YteabacpalnamdaaRSpoil
import Derived.Test.YteabacpalnamdaaSized
namespace Go.Proofs.Yteabacpalnamdaa
open Go.RowKit Go.WideShapes

def newE (count : Int) : Int := if 1 ≤ count ∧ count ≤ 4096 then 0 else 20
def newC (count : Int) : Int := if 1 ≤ count ∧ count ≤ 4096 then count else 0
def newD (count : Int) : List Nat := if 1 ≤ count ∧ count ≤ 4096 then zeroL count.toNat else []
theorem new_u (count : Int) (w : World) : Calls Try.prog 9 #[.int .i64 count] w fun e w' => (∃ v', e = .returned (.tuple #[v', .int .i64 (newE count)]) ∧ DiskIn w' v' (newC count) (newD count) []) ∧ Below w.heap.size w w' := by
  by_cases h : 1 ≤ count ∧ count ≤ 4096
  · obtain ⟨n, rfl⟩ := Int.eq_ofNat_of_zero_le (show 0 ≤ count by omega)
    refine (new_at n w (by omega) (by omega)).mono ?_
    rintro e w' ⟨v, rfl, hn, hb⟩
    simp only [newE, newC, newD, h, and_self, if_true, Int.toNat_natCast]
    exact ⟨⟨v, rfl, hn.toIn (okay_new n (by omega) (by omega))⟩, hb⟩
  · refine (new_bad count w h).mono ?_
    rintro e w' ⟨rfl, hb⟩
    simp only [newE, newC, newD, h, if_false]
    exact ⟨⟨_, rfl, zero_in w'⟩, hb⟩
theorem rnew_u (count : Int) (w : World) : Calls Try.prog 20 #[.int .i64 count] w fun e w' => (∃ v', e = .returned (.tuple #[v', .int .i64 (newE count)]) ∧ DiskIn w' v' (newC count) (newD count) []) ∧ Below w.heap.size w w' := by
  by_cases h : 1 ≤ count ∧ count ≤ 4096
  · obtain ⟨n, rfl⟩ := Int.eq_ofNat_of_zero_le (show 0 ≤ count by omega)
    refine (rnew_ok n w (by omega) (by omega)).mono ?_
    rintro e w' ⟨v, rfl, hn, hb⟩
    simp only [newE, newC, newD, h, and_self, if_true, Int.toNat_natCast]
    exact ⟨⟨v, rfl, hn.toIn (okay_new n (by omega) (by omega))⟩, hb⟩
  · refine (rnew_bad count w h).mono ?_
    rintro e w' ⟨rfl, hb⟩
    simp only [newE, newC, newD, h, if_false]
    exact ⟨⟨_, rfl, zero_in w'⟩, hb⟩
noncomputable def readX (count : Int) (data : List Nat) (ws : Puts) (n : Int) : List Nat := if errS count data ws n = 0 then nowN data ws n else []
noncomputable def sureX (count : Int) (data : List Nat) (ws : Puts) (n : Int) : List Nat := if errS count data ws n = 0 then secN data n.toNat else []
/-- Bytes that were answered: n of them, which may be written. -/
def W8 (w : World) (base : Nat) (p : Option Addr) (n : Nat) : Prop := 0 < n → ∃ g, p = some ⟨g, 0, none⟩ ∧ base ≤ g ∧ U8At w g n
theorem errS_cases (count : Int) (data : List Nat) (ws : Puts) (n : Int) : (errS count data ws n = 0 ∧ Okay count data ws ∧ 0 ≤ n ∧ n < count) ∨ errS count data ws n ≠ 0 := by
  by_cases ho : Okay count data ws
  · by_cases hn : 0 ≤ n ∧ n < count
    · exact .inl ⟨errS_ok ho hn, ho, hn.1, hn.2⟩
    · exact .inr (by rw [errS_range ho hn]; decide)
  · exact .inr (by rw [errS_bad n ho]; decide)
theorem nil_in (w : World) : BIn w none [] := ⟨fun h => absurd h (by simp), by simp⟩
theorem sec_w8 {w : World} {base : Nat} {v : Value} {xs : List Nat} (h : SecNew w base v xs) : ∃ p c, v = .slice p xs.length c ∧ BIn w p xs ∧ W8 w base p xs.length := by
  obtain ⟨g, rfl, hb, hr, hl, hx⟩ := h
  refine ⟨_, 128, by rw [hl], bin_row hr hx, fun _ => ⟨g, rfl, hb, _, hr, by simp [Bs], fun i hi => ?_⟩⟩
  simp [Bs] at hi
  exact ⟨(xs[i] : Nat), by simp [Bs, List.getElem?_eq_getElem hi]⟩
theorem read_u (v : Value) (n : Int) (count : Int) (data : List Nat) (ws : Puts) (w : World) (hd : DiskIn w v count data ws) :
    Calls Try.prog 15 #[v, .int .i64 n] w fun e w' => (∃ p c, e = .returned (.tuple #[.slice p (readX count data ws n).length c, .int .i64 (errS count data ws n)]) ∧ BIn w' p (readX count data ws n) ∧ W8 w' w.heap.size p (readX count data ws n).length) ∧ Below w.heap.size w w' := by
  rcases errS_cases count data ws n with ⟨he, ho, h1, h2⟩ | he
  · obtain ⟨k, rfl⟩ := Int.eq_ofNat_of_zero_le h1
    refine (read_ok v k count data ws w hd ho h2).mono ?_
    rintro e w' ⟨⟨v', rfl, hs⟩, hb⟩
    simp only [readX, he, if_true]
    obtain ⟨p, c, rfl, g1, g2⟩ := sec_w8 hs
    exact ⟨⟨p, c, rfl, g1, g2⟩, hb⟩
  · refine (read_err v n count data ws w hd _ he rfl).mono ?_
    rintro e w' ⟨rfl, hb⟩
    simp only [readX, he, if_false]
    exact ⟨⟨none, 0, rfl, nil_in w', fun h => absurd h (by simp)⟩, hb⟩
theorem sure_u (v : Value) (n : Int) (count : Int) (data : List Nat) (ws : Puts) (w : World) (hd : DiskIn w v count data ws) :
    Calls Try.prog 14 #[v, .int .i64 n] w fun e w' => (∃ p c, e = .returned (.tuple #[.slice p (sureX count data ws n).length c, .int .i64 (errS count data ws n)]) ∧ BIn w' p (sureX count data ws n) ∧ W8 w' w.heap.size p (sureX count data ws n).length) ∧ Below w.heap.size w w' := by
  rcases errS_cases count data ws n with ⟨he, ho, h1, h2⟩ | he
  · obtain ⟨k, rfl⟩ := Int.eq_ofNat_of_zero_le h1
    refine (sure_ok v k count data ws w hd ho h2).mono ?_
    rintro e w' ⟨⟨v', rfl, hs⟩, hb⟩
    simp only [sureX, he, if_true, Int.toNat_natCast]
    obtain ⟨p, c, rfl, g1, g2⟩ := sec_w8 hs
    exact ⟨⟨p, c, rfl, g1, g2⟩, hb⟩
  · refine (sure_err v n count data ws w hd _ he rfl).mono ?_
    rintro e w' ⟨rfl, hb⟩
    simp only [sureX, he, if_false]
    exact ⟨⟨none, 0, rfl, nil_in w', fun h => absurd h (by simp)⟩, hb⟩
theorem rread_u (v : Value) (n : Int) (count : Int) (data : List Nat) (ws : Puts) (w : World) (hd : DiskIn w v count data ws) :
    Calls Try.prog 21 #[v, .int .i64 n] w fun e w' => (∃ p c, e = .returned (.tuple #[.slice p (readX count data ws n).length c, .int .i64 (errS count data ws n)]) ∧ BIn w' p (readX count data ws n)) ∧ Below w.heap.size w w' := by
  rcases errS_cases count data ws n with ⟨he, ho, h1, h2⟩ | he
  · obtain ⟨k, rfl⟩ := Int.eq_ofNat_of_zero_le h1
    refine (rread_ok v k count data ws w hd ho h2).mono ?_
    rintro e w' ⟨⟨v', rfl, hs⟩, hb⟩
    simp only [readX, he, if_true]
    obtain ⟨p, c, rfl, g1, _⟩ := hs.form
    exact ⟨⟨p, c, rfl, g1⟩, hb⟩
  · refine (rread_err v n count data ws w hd _ he rfl).mono ?_
    rintro e w' ⟨rfl, hb⟩
    simp only [readX, he, if_false]
    exact ⟨⟨none, 0, rfl, nil_in w'⟩, hb⟩
theorem rsure_u (v : Value) (n : Int) (count : Int) (data : List Nat) (ws : Puts) (w : World) (hd : DiskIn w v count data ws) :
    Calls Try.prog 22 #[v, .int .i64 n] w fun e w' => (∃ p c, e = .returned (.tuple #[.slice p (sureX count data ws n).length c, .int .i64 (errS count data ws n)]) ∧ BIn w' p (sureX count data ws n)) ∧ Below w.heap.size w w' := by
  rcases errS_cases count data ws n with ⟨he, ho, h1, h2⟩ | he
  · obtain ⟨k, rfl⟩ := Int.eq_ofNat_of_zero_le h1
    refine (rsure_ok v k count data ws w hd ho h2).mono ?_
    rintro e w' ⟨⟨v', rfl, hs⟩, hb⟩
    simp only [sureX, he, if_true, Int.toNat_natCast]
    obtain ⟨p, c, rfl, g1, _⟩ := hs.form
    exact ⟨⟨p, c, rfl, g1⟩, hb⟩
  · refine (rsure_err v n count data ws w hd _ he rfl).mono ?_
    rintro e w' ⟨rfl, hb⟩
    simp only [sureX, he, if_false]
    exact ⟨⟨none, 0, rfl, nil_in w'⟩, hb⟩
/-- What Write comes to, on whatever disk. -/
noncomputable def wrA (count : Int) (data : List Nat) (ws : Puts) (n : Int) (xs : List Nat) : Except Int (List Nat × Puts) := if errC count data ws = 0 then stepA count (data, ws) (false, n, xs) else .error 20
theorem wrA_ok {count : Int} {data : List Nat} {ws : Puts} (n : Int) (xs : List Nat) (h : Okay count data ws) : wrA count data ws n xs = stepA count (data, ws) (false, n, xs) := by simp [wrA, errC_ok h]
theorem wrA_bad {count : Int} {data : List Nat} {ws : Puts} (n : Int) (xs : List Nat) (h : ¬ Okay count data ws) : wrA count data ws n xs = .error 20 := by simp [wrA, errC_bad h]
/-- A disk that was answered and may be written over. -/
def Spoils (w : World) (base : Nat) (v : Value) : Prop := v = zeroDisk ∨ ∃ c d ws, DiskNew w base v c d ws ∧ Okay c d ws
theorem spoils_below {w w' : World} {base : Nat} {v : Value} (h : Spoils w base v) (hb : Below w.heap.size w w') : Spoils w' base v := by
  rcases h with h | ⟨c, d, ws, h1, h2⟩
  · exact .inl h
  · exact .inr ⟨c, d, ws, h1.below hb, h2⟩
theorem spoil_u (v : Value) (base : Nat) (w : World) (h : Spoils w base v) (hbs : base ≤ w.heap.size) : Calls Try.prog 26 #[v] w fun e w' => e = .returned (.tuple #[]) ∧ Below base w w' := by
  rcases h with rfl | ⟨c, d, ws, h1, h2⟩
  · exact (spoil_zero w).mono fun e w' h => ⟨h.1, h.2.mono hbs⟩
  · exact spoil_any v base c d ws w h1 h2 hbs
theorem write_u (v : Value) (n : Int) (p : Option Addr) (len c : Nat) (xs : List Nat) (count : Int) (data : List Nat) (ws : Puts) (w : World) (hd : DiskIn w v count data ws) (hb : BIn w p xs) (hl : len = xs.length) (h1 : len ≤ c) (h2 : c ≤ maxLen) (h3 : p = none → c = 0) :
    Calls Try.prog 10 #[v, .int .i64 n, .slice p len c] w fun e w' => (∃ v', e = .returned (.tuple #[v', .int .i64 (resE (wrA count data ws n xs))]) ∧ DiskIn w' v' (resC count (wrA count data ws n xs)) (resD (wrA count data ws n xs)) (resW (wrA count data ws n xs)) ∧ Spoils w' w.heap.size v') ∧ Below w.heap.size w w' := by
  subst hl
  by_cases ho : Okay count data ws
  · rw [wrA_ok n xs ho]
    refine (write_ok v n p c xs count data ws w hd ho hb h1 h2 h3).mono ?_
    rintro e w' ⟨hp, hbw⟩
    refine ⟨?_, hbw⟩
    generalize hr : stepA count (data, ws) (false, n, xs) = r at *
    cases hp with
    | err c => exact ⟨_, rfl, zero_in w', .inl rfl⟩
    | ok d2 w2 v2 _ hnew =>
      have ho2 : Okay count d2 w2 := okay_step (s := (data, ws)) (s' := (d2, w2)) ho hr
      exact ⟨_, rfl, hnew.toIn ho2, .inr ⟨_, _, _, hnew, ho2⟩⟩
  · rw [wrA_bad n xs ho]
    refine (write_bad v n p c xs count data ws w hd ho).mono ?_
    rintro e w' ⟨rfl, hbw⟩
    exact ⟨⟨_, rfl, zero_in w', .inl rfl⟩, hbw⟩
theorem rwrite_u (v : Value) (n : Int) (p : Option Addr) (len c : Nat) (xs : List Nat) (count : Int) (data : List Nat) (ws : Puts) (w : World) (hd : DiskIn w v count data ws) (hb : BIn w p xs) (hl : len = xs.length) (h3 : p = none → c = 0) (hwf : (Lit.int .i64 n).wf = true) :
    Calls Try.prog 23 #[v, .int .i64 n, .slice p len c] w fun e w' => (∃ v', e = .returned (.tuple #[v', .int .i64 (resE (wrA count data ws n xs))]) ∧ DiskIn w' v' (resC count (wrA count data ws n xs)) (resD (wrA count data ws n xs)) (resW (wrA count data ws n xs))) ∧ Below w.heap.size w w' := by
  by_cases ho : Okay count data ws
  · rw [wrA_ok n xs ho]
    by_cases hn : 0 ≤ n ∧ n < count
    · by_cases hx : xs.length = 128
      · by_cases hm : 4096 ≤ ws.length
        · have e : stepA count (data, ws) (false, n, xs) = .error 4 := by simp [stepA, hn, hx, hm]
          rw [e]
          refine (rwrite_many v n p len c count data ws w hd (errS_ok ho hn) (by simp; omega) (by omega)).mono ?_
          rintro e w' ⟨rfl, hbw⟩
          exact ⟨⟨_, rfl, zero_in w'⟩, hbw⟩
        · have e : stepA count (data, ws) (false, n, xs) = .ok (data, ws ++ [(n, xs)]) := by simp [stepA, hn, hx, hm]
          rw [e]
          refine (rwrite_ok v n p len c count data ws w hd xs ho hn hl hx (by omega) hb h3).mono ?_
          rintro e' w' ⟨⟨v', rfl, hv⟩, hbw⟩
          refine ⟨⟨_, rfl, hv.toIn hd.count_wf ?_⟩, hbw⟩
          intro y hy
          simp only [List.mem_append, List.mem_singleton] at hy
          rcases hy with hy | rfl
          · exact hd.puts_wf y hy
          · exact hwf
      · have e : stepA count (data, ws) (false, n, xs) = .error 8 := by simp [stepA, hn, hx]
        rw [e]
        refine (rwrite_len v n p len c count data ws w hd (errS_ok ho hn) (by simp; omega)).mono ?_
        rintro e w' ⟨rfl, hbw⟩
        exact ⟨⟨_, rfl, zero_in w'⟩, hbw⟩
    · have e : stepA count (data, ws) (false, n, xs) = .error 21 := by simp [stepA, hn]
      rw [e]
      refine (rwrite_err v n p len c count data ws w hd 21 (by decide) (errS_range ho hn)).mono ?_
      rintro e w' ⟨rfl, hbw⟩
      exact ⟨⟨_, rfl, zero_in w'⟩, hbw⟩
  · rw [wrA_bad n xs ho]
    refine (rwrite_err v n p len c count data ws w hd 20 (by decide) (errS_bad n ho)).mono ?_
    rintro e w' ⟨rfl, hbw⟩
    exact ⟨⟨_, rfl, zero_in w'⟩, hbw⟩
theorem W8.below {w w' : World} {base : Nat} {p : Option Addr} {n : Nat} (h : W8 w base p n) (hb : Below w.heap.size w w') : W8 w' base p n := by
  intro h0
  obtain ⟨g, h1, h2, cs, h3, h4⟩ := h h0
  exact ⟨g, h1, h2, cs, (hb.block _ (lt_heap h3)).trans h3, h4⟩
theorem Spoils.below {w w' : World} {base : Nat} {v : Value} (h : Spoils w base v) (hb : Below w.heap.size w w') : Spoils w' base v := spoils_below h hb
theorem Spoils.keepB {w w' : World} {base : Nat} {v : Value} (h : Spoils w base v) (hk : ∀ k, base ≤ k → k < w.heap.size → w'.heap[k]? = w.heap[k]?) : Spoils w' base v := by
  rcases h with h | ⟨c, d, ws, h1, h2⟩
  · exact .inl h
  · obtain ⟨gd, q, m, gs, e1, e2, e3, e4, e5⟩ := h1.lies
    exact .inr ⟨c, d, ws, ⟨⟨gd, q, m, gs, e1, e2, (hk gd e2 (lt_heap e3)).trans e3, e4.keepB hk, e5⟩, h1.bytes⟩, h2⟩
/-- All but two rows of bytes is as it was. -/
structure Sp2 (gp gr n : Nat) (w w' : World) : Prop where
  os : w'.os = w.os
  tape : w'.tape = w.tape
  output : w'.output = w.output
  size : w.heap.size ≤ w'.heap.size
  block : ∀ x, x < w.heap.size → x ≠ gp → x ≠ gr → w'.heap[x]? = w.heap[x]?
  rp : U8At w' gp n
  rr : U8At w' gr n
theorem Sp2.setP {gp gr n : Nat} {w w' : World} (h : Sp2 gp gr n w w') (g : Nat) (hg : g = gp ∨ g = gr) (j : Nat) (x : Int) : Sp2 gp gr n w (w'.setCell ⟨g, j, none⟩ (.int .u8 x)) :=
  ⟨h.os, h.tape, h.output, by have := (Below.refl 0 w').setCell (p := ⟨g, j, none⟩) (Nat.zero_le _) (.int .u8 x); exact Nat.le_trans h.size this.size, fun k hk h1 h2 => (heap_setCell_other w' ⟨g, j, none⟩ k _ (by rcases hg with rfl | rfl <;> assumption)).trans (h.block k hk h1 h2), h.rp.set _ _ rfl, h.rr.set _ _ rfl⟩
theorem Sp2.below {gp gr n base : Nat} {w w' : World} (h : Sp2 gp gr n w w') (hs : base ≤ w.heap.size) (h1 : base ≤ gp) (h2 : base ≤ gr) : Below base w w' :=
  ⟨h.os, h.tape, h.output, h.size, fun k hk => h.block k (by omega) (by omega) (by omega)⟩
end Go.Proofs.Yteabacpalnamdaa
