/-
  The loops over items, as readers. No program.
-/
import Derived.Test.YtcfalgomcdmdhaaDoorJName
namespace Go.Proofs.YtcfalgomcdmdhaaDoor
open Go.RowKit Go.WideShapes Go.Joins

def nmR (F : Nat) (obj : Bool) (ns : List (List Nat)) : J.Rd (List (List Nat)) := if obj then (nameG F ns).then fun s => J.Rd.pure (ns ++ [s]) else J.Rd.pure ns
def loopR (F : Nat) (f : J.Rd J.JV) (obj : Bool) : Nat → List (List Nat) → List J.JV → J.Rd (List (List Nat) × List J.JV)
  | 0, _, _ => fun _ => .out
  | k + 1, ns, vs => (moreR (J.fin obj) vs.length).then fun b => if b then (nmR F obj ns).then fun ns' => f.then fun v => loopR F f obj k ns' (vs ++ [v]) else J.Rd.pure (ns, vs)
def tailG (F : Nat) (f : J.Rd J.JV) (obj : Bool) (n : Nat) (ns : List (List Nat)) (vs : List J.JV) : J.Rd (List (List Nat) × List J.JV) :=
  J.blanks.then fun _ => J.sw (fun c => if c = J.fin obj then .take (J.Rd.pure (ns, vs))
    else if c = 44 then (if vs.length = 1024 then .stop 4 else .take (J.blanks.then fun _ => J.groupN F f obj n ns vs)) else .stop 160) (.bad 160 [])
theorem groupN_is (F : Nat) (f : J.Rd J.JV) (obj : Bool) (n : Nat) (ns : List (List Nat)) (vs : List J.JV) :
    J.groupN F f obj (n + 1) ns vs = (J.nameR F obj ns).then fun ns' => f.then fun v => tailG F f obj n ns' (vs ++ [v]) := by
  show ((J.nameR F obj ns).then fun ns' => f.then fun v => J.blanks.then fun _ => J.sw _ _) = _
  congr 1
  funext ns'
  congr 1
  funext v
  unfold tailG
  simp only [List.length_append, List.length_cons, List.length_nil, Nat.zero_add]
theorem nmR_obj (F : Nat) (ns : List (List Nat)) : nmR F true ns = J.blanks.then fun _ => J.nameR F true ns := by
  unfold nmR nameG J.nameR J.text charsR
  simp only [if_true, then_assoc, pure_then, textN_chars]
theorem nmR_list (F : Nat) (ns : List (List Nat)) : nmR F false ns = J.Rd.pure ns := rfl
theorem blanks_at (l : List Nat) : J.blanks l = .ok () (l.dropWhile J.isBlank) := rfl
theorem drop_twice (t : Nat → Bool) : ∀ l : List Nat, (l.dropWhile t).dropWhile t = l.dropWhile t
  | [] => rfl
  | c :: l => by
    cases h : t c with
    | true => simp only [List.dropWhile_cons, h, if_true]; exact drop_twice t l
    | false => simp [h]
theorem value_blanks (F d : Nat) (l : List Nat) : J.value F d (l.dropWhile J.isBlank) = J.value F d l := by
  cases d <;> simp only [J.value, J.Rd.then, blanks_at, drop_twice]
theorem moreR_at (e n : Nat) (l : List Nat) : moreR e n l = moreB e n (l.dropWhile J.isBlank) := rfl
theorem loop_tail (F d : Nat) (obj : Bool) : ∀ (n : Nat) (ns : List (List Nat)) (vs : List J.JV) (l : List Nat), 0 < vs.length → tailG F (J.value F d) obj n ns vs l ≠ .out →
    loopR F (J.value F d) obj (n + 1) ns vs l = tailG F (J.value F d) obj n ns vs l := by
  intro n
  induction n with
  | zero =>
    intro ns vs l hv ho
    have hv0 : vs.length ≠ 0 := by omega
    simp only [loopR, tailG, J.Rd.then, moreR_at, blanks_at] at ho ⊢
    cases hl : l.dropWhile J.isBlank with
    | nil => simp only [moreB, J.sw, hv0, if_false]
    | cons c r =>
      rw [hl] at ho
      by_cases h1 : c = J.fin obj
      · simp only [moreB, J.sw, h1, if_true, J.Rd.pure, Bool.false_eq_true, if_false]
      · by_cases h2 : c = 44
        · subst h2
          by_cases h3 : vs.length = 1024
          · simp only [moreB, J.sw, h1, if_false, if_true, h3]
            simp
          · exfalso
            simp only [J.sw, h1, if_false, if_true, h3] at ho
            exact ho rfl
        · simp only [moreB, J.sw, h1, if_false, hv0, h2]
  | succ n ih =>
    intro ns vs l hv ho
    have hv0 : vs.length ≠ 0 := by omega
    rw [show loopR F (J.value F d) obj (n + 1 + 1) ns vs = (moreR (J.fin obj) vs.length).then fun b => if b then (nmR F obj ns).then fun ns' => (J.value F d).then fun v => loopR F (J.value F d) obj (n + 1) ns' (vs ++ [v]) else J.Rd.pure (ns, vs) from rfl]
    simp only [tailG, J.Rd.then, moreR_at, blanks_at] at ho ⊢
    cases hl : l.dropWhile J.isBlank with
    | nil => simp only [moreB, J.sw, hv0, if_false]
    | cons c r =>
      rw [hl] at ho
      by_cases h1 : c = J.fin obj
      · simp only [moreB, J.sw, h1, if_true, J.Rd.pure, Bool.false_eq_true, if_false]
      · by_cases h2 : c = 44
        · subst h2
          by_cases h3 : vs.length = 1024
          · simp only [moreB, J.sw, h1, if_false, if_true, h3]
            simp
          · simp only [J.sw, h1, if_false, if_true, h3] at ho
            simp only [moreB, J.sw, h1, if_false, hv0, if_true, h3, J.Rd.pure]
            rw [groupN_is] at ho ⊢
            -- behind the comma: a name, a value, and so on
            have key : ∀ (q : J.Rd (List (List Nat))) (l2 : List Nat), (q.then fun ns' => (J.value F d).then fun v => tailG F (J.value F d) obj n ns' (vs ++ [v])) l2 ≠ .out →
                (q.then fun ns' => (J.value F d).then fun v => loopR F (J.value F d) obj (n + 1) ns' (vs ++ [v])) l2 = (q.then fun ns' => (J.value F d).then fun v => tailG F (J.value F d) obj n ns' (vs ++ [v])) l2 := by
              intro q l2 hq
              simp only [J.Rd.then] at hq ⊢
              cases hn : q l2 with
              | bad e r => rfl
              | out => rfl
              | ok ns' r2 =>
                simp only [hn] at hq
                simp only
                cases hw : J.value F d r2 with
                | bad e r => rfl
                | out => rfl
                | ok v r3 =>
                  simp only [hw] at hq
                  simp only
                  exact ih ns' (vs ++ [v]) r3 (by simp) hq
            cases obj with
            | true =>
              have e1 : ∀ X : List (List Nat) → J.Rd (List (List Nat) × List J.JV), ((nmR F true ns).then X) r = ((J.nameR F true ns).then X) (r.dropWhile J.isBlank) := by
                intro X; rw [nmR_obj]; rfl
              have e2 := e1 fun ns' => (J.value F d).then fun v => loopR F (J.value F d) true (n + 1) ns' (vs ++ [v])
              have e3 := key (J.nameR F true ns) (r.dropWhile J.isBlank) ho
              exact e2.trans e3
            | false =>
              have e1 := key (J.nameR F false ns) (r.dropWhile J.isBlank) ho
              have e4 : ∀ X : J.JV → J.Rd (List (List Nat) × List J.JV), ((J.value F d).then X) r = ((J.value F d).then X) (r.dropWhile J.isBlank) := by
                intro X; simp only [J.Rd.then, value_blanks]
              exact (e4 fun v => loopR F (J.value F d) false (n + 1) ns (vs ++ [v])).trans e1
        · simp only [moreB, J.sw, h1, if_false, hv0, h2]
theorem dropWhile_head (t : Nat → Bool) : ∀ (l : List Nat) {c : Nat} {r : List Nat}, l.dropWhile t = c :: r → t c = false
  | [], c, r, h => by cases h
  | x :: l, c, r, h => by
    cases hx : t x with
    | true => rw [List.dropWhile_cons_of_pos hx] at h; exact dropWhile_head t l h
    | false =>
      rw [List.dropWhile_cons_of_neg (by rw [hx]; simp)] at h
      cases h; exact hx
/-- a list or an object behind its bracket, by the program's loop -/
theorem group_loop (F d : Nat) (hF : 0 < F) (obj : Bool) (l : List Nat) (ho : J.group F (J.value F d) obj l ≠ .out) :
    ((loopR F (J.value F d) obj (F + 1) [] []).then fun p => J.Rd.pure (J.groupV obj p)) l = J.group F (J.value F d) obj l := by
  obtain ⟨m, rfl⟩ : ∃ m, F = m + 1 := ⟨F - 1, by omega⟩
  unfold J.group at ho ⊢
  generalize hX : (fun p : List (List Nat) × List J.JV => J.Rd.pure (J.groupV obj p)) = X at ho ⊢
  have hv : ∀ r, J.blanks.then (fun _ => J.sw (fun c => if c = J.fin obj then J.Act.take (J.Rd.pure (([], []) : List (List Nat) × List J.JV)) else .go (J.groupN (m + 1) (J.value (m + 1) d) obj (m + 1) [] [])) (.bad 160 [])) l = r → r ≠ .out →
      loopR (m + 1) (J.value (m + 1) d) obj (m + 1 + 1) [] [] l = r := by
    intro r hr hro
    subst hr
    rw [show loopR (m + 1) (J.value (m + 1) d) obj (m + 1 + 1) [] [] = (moreR (J.fin obj) 0).then fun b => if b then (nmR (m + 1) obj []).then fun ns' => (J.value (m + 1) d).then fun v => loopR (m + 1) (J.value (m + 1) d) obj (m + 1) ns' ([] ++ [v]) else J.Rd.pure ([], []) from rfl]
    simp only [J.Rd.then, moreR_at, blanks_at] at hro ⊢
    cases hl : l.dropWhile J.isBlank with
    | nil =>
      simp only [moreB, J.sw, if_true]
      cases obj with
      | true => simp [nmR, nameG, J.Rd.then, blanks_at, charsR, J.need, J.sw]
      | false =>
        simp only [nmR, Bool.false_eq_true, if_false]
        show ((J.value (m + 1) d).then fun v => loopR (m + 1) (J.value (m + 1) d) false (m + 1) [] ([] ++ [v])) [] = _
        simp only [J.Rd.then, J.value_end]
    | cons c r =>
      rw [hl] at hro
      have hnb := dropWhile_head _ _ hl
      by_cases h1 : c = J.fin obj
      · simp only [moreB, J.sw, h1, if_true, J.Rd.pure, Bool.false_eq_true, if_false]
      · simp only [J.sw, h1, if_false] at hro
        simp only [moreB, J.sw, h1, if_false, if_true, J.Rd.pure]
        rw [groupN_is] at hro ⊢
        have key : ∀ (q : J.Rd (List (List Nat))) (l2 : List Nat), (q.then fun ns' => (J.value (m + 1) d).then fun v => tailG (m + 1) (J.value (m + 1) d) obj m ns' ([] ++ [v])) l2 ≠ .out →
            (q.then fun ns' => (J.value (m + 1) d).then fun v => loopR (m + 1) (J.value (m + 1) d) obj (m + 1) ns' ([] ++ [v])) l2 = (q.then fun ns' => (J.value (m + 1) d).then fun v => tailG (m + 1) (J.value (m + 1) d) obj m ns' ([] ++ [v])) l2 := by
          intro q l2 hq
          simp only [J.Rd.then] at hq ⊢
          cases hn : q l2 with
          | bad e r => rfl
          | out => rfl
          | ok ns' r2 =>
            simp only [hn] at hq
            simp only
            cases hw : J.value (m + 1) d r2 with
            | bad e r => rfl
            | out => rfl
            | ok v r3 =>
              simp only [hw] at hq
              simp only
              exact loop_tail (m + 1) d obj m ns' ([] ++ [v]) r3 (by simp) hq
        have e3 := key (J.nameR (m + 1) obj []) (c :: r) hro
        rw [← e3]
        cases obj with
        | true =>
          rw [nmR_obj]
          simp only [J.Rd.then, blanks_at, List.dropWhile_cons, hnb, Bool.false_eq_true, if_false]
        | false => rfl
  simp only [J.Rd.then] at ho ⊢
  generalize hr : J.blanks.then (fun _ => J.sw (fun c => if c = J.fin obj then J.Act.take (J.Rd.pure (([], []) : List (List Nat) × List J.JV)) else .go (J.groupN (m + 1) (J.value (m + 1) d) obj (m + 1) [] [])) (.bad 160 [])) l = r at ho
  have hv2 := hv r hr
  simp only [J.Rd.then] at hr
  rw [hr] at ho ⊢
  cases r with
  | out => exact absurd rfl ho
  | bad e x => rw [hv2 (by simp)]
  | ok p x => rw [hv2 (by simp)]
end Go.Proofs.YtcfalgomcdmdhaaDoor
