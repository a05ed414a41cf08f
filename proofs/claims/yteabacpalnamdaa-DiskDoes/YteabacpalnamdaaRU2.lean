/-
  The calls that the statement DiskDoes makes, each by one contract for whatever it is handed.
-/
import Derived.Test.YteabacpalnamdaaRSpoil2
import Derived.Test.YteabacpalnamdaaRDo
namespace Go.Proofs.Yteabacpalnamdaa
open Go.RowKit Go.WideShapes

noncomputable def flA (count : Int) (data : List Nat) (ws : Puts) : Except Int (List Nat × Puts) := if errC count data ws = 0 then .ok (settleN data ws, []) else .error 20
theorem flA_ok {count : Int} {data : List Nat} {ws : Puts} (h : Okay count data ws) : flA count data ws = .ok (settleN data ws, []) := by simp [flA, errC_ok h]
theorem flA_bad {count : Int} {data : List Nat} {ws : Puts} (h : ¬ Okay count data ws) : flA count data ws = .error 20 := by simp [flA, errC_bad h]
noncomputable def crA (count : Int) (data : List Nat) (ws : Puts) (keep : List Bool) : Except Int (List Nat × Puts) := if errC count data ws = 0 then .ok (crashN data ws keep, []) else .error 20
theorem crA_ok {count : Int} {data : List Nat} {ws : Puts} (keep : List Bool) (h : Okay count data ws) : crA count data ws keep = .ok (crashN data ws keep, []) := by simp [crA, errC_ok h]
theorem crA_bad {count : Int} {data : List Nat} {ws : Puts} (keep : List Bool) (h : ¬ Okay count data ws) : crA count data ws keep = .error 20 := by simp [crA, errC_bad h]
/-- A disk answered by the program: by the result, and it may be written over. -/
def UPost (count : Int) (r : Except Int (List Nat × Puts)) (w : World) (e : Ending) (w' : World) : Prop := (∃ v', e = .returned (.tuple #[v', .int .i64 (resE r)]) ∧ DiskIn w' v' (resC count r) (resD r) (resW r) ∧ SpoilsE w' w.heap.size w'.heap.size v') ∧ Below w.heap.size w w'
theorem upost_err {count : Int} {c : Int} {w w' : World} (hb : Below w.heap.size w w') : UPost count (.error c) w (.returned (.tuple #[zeroDisk, .int .i64 c])) w' := ⟨⟨_, rfl, zero_in w', Spoils.toE (.inl rfl)⟩, hb⟩
theorem upost_ok {count : Int} {d : List Nat} {ws : Puts} {w w' : World} {v : Value} (hn : DiskNew w' w.heap.size v count d ws) (ho : Okay count d ws) (hb : Below w.heap.size w w') : UPost count (.ok (d, ws)) w (.returned (.tuple #[v, .int .i64 0])) w' := ⟨⟨_, rfl, hn.toIn ho, Spoils.toE (.inr ⟨_, _, _, hn, ho⟩)⟩, hb⟩
theorem rpost_err {count : Int} {c : Int} {w w' : World} (hb : Below w.heap.size w w') : RDoPost count (.error c) w (.returned (.tuple #[zeroDisk, .int .i64 c])) w' := ⟨⟨_, rfl, zero_in w'⟩, hb⟩
theorem rpost_ok {count : Int} {d : List Nat} {w w' : World} {v : Value} (hn : DiskV w' w.heap.size v count d []) (hc : (Lit.int .i64 count).wf = true) (hb : Below w.heap.size w w') : RDoPost count (.ok (d, [])) w (.returned (.tuple #[v, .int .i64 0])) w' := ⟨⟨_, rfl, hn.toIn hc (by simp)⟩, hb⟩
theorem do_u (v : Value) (count : Int) (data : List Nat) (ws : Puts) (w : World) (hd : DiskIn w v count data ws) (q : Option Addr) (n m : Nat) (l : Acts) (hn : n = l.length) (hl : ActsIn w q l) (hll : l.length ≤ 9223372036854775807) (r : Except Int (List Nat × Puts)) (hr : doAny count data ws l = r) :
    Calls Try.prog 27 #[v, .slice q n m] w (UPost count r w) := by
  subst hr
  subst hn
  by_cases ho : Okay count data ws
  · rw [doAny_ok l ho]
    refine (do_ok v count data ws w hd ho q m l hl hll).mono ?_
    rintro e w' ⟨hp, hb⟩
    generalize hr : doN count (data, ws) l = r at *
    cases hp with
    | err c => exact upost_err hb
    | ok d2 w2 v2 _ hnew => exact upost_ok hnew (okay_do l (s := (data, ws)) (s' := (d2, w2)) ho hr) hb
  · rw [doAny_bad l ho]
    refine (do_bad v _ count data ws w hd ho).mono ?_
    rintro e w' ⟨rfl, hb⟩
    exact upost_err hb
theorem rdo_u (v : Value) (count : Int) (data : List Nat) (ws : Puts) (w : World) (hd : DiskIn w v count data ws) (q : Option Addr) (n m : Nat) (l : Acts) (hn : n = l.length) (hl : ActsIn w q l) (hlm : l.length ≤ m) (hll : m ≤ 9223372036854775807) (r : Except Int (List Nat × Puts)) (hr : doAny count data ws l = r) :
    Calls Try.prog 28 #[v, .slice q n m] w (RDoPost count r w) := by
  subst hr
  subst hn
  by_cases ho : Okay count data ws
  · rw [doAny_ok l ho]
    exact rdo_ok v count data ws w hd ho q m l hl hlm hll _ rfl
  · rw [doAny_bad l ho]
    refine (rdo_bad v _ count data ws w hd ho).mono ?_
    rintro e w' ⟨rfl, hb⟩
    exact rpost_err hb
theorem flush_u (v : Value) (count : Int) (data : List Nat) (ws : Puts) (w : World) (hd : DiskIn w v count data ws) (r : Except Int (List Nat × Puts)) (hr : flA count data ws = r) : Calls Try.prog 12 #[v] w (UPost count r w) := by
  subst hr
  by_cases ho : Okay count data ws
  · rw [flA_ok ho]
    refine (flush_at v count data ws w hd ho).mono ?_
    rintro e w' ⟨⟨v', rfl, hn⟩, hb⟩
    exact upost_ok hn (okay_settled ho) hb
  · rw [flA_bad ho]
    refine (flush_bad v count data ws w hd ho).mono ?_
    rintro e w' ⟨rfl, hb⟩
    exact upost_err hb
theorem rflush_u (v : Value) (count : Int) (data : List Nat) (ws : Puts) (w : World) (hd : DiskIn w v count data ws) (r : Except Int (List Nat × Puts)) (hr : flA count data ws = r) : Calls Try.prog 29 #[v] w (RDoPost count r w) := by
  subst hr
  by_cases ho : Okay count data ws
  · rw [flA_ok ho]
    refine (rflush_ok v count data ws w hd ho).mono ?_
    rintro e w' ⟨⟨v', rfl, hn⟩, hb⟩
    exact rpost_ok hn hd.count_wf hb
  · rw [flA_bad ho]
    refine (rflush_bad v count data ws w hd ho).mono ?_
    rintro e w' ⟨rfl, hb⟩
    exact rpost_err hb
theorem crash_u (v : Value) (count : Int) (data : List Nat) (ws : Puts) (w : World) (hd : DiskIn w v count data ws) (q : Option Addr) (n m : Nat) (keep : List Bool) (hn : n = keep.length) (hl : BoolsIn w q keep) (hll : keep.length ≤ 9223372036854775807) (r : Except Int (List Nat × Puts)) (hr : crA count data ws keep = r) : Calls Try.prog 13 #[v, .slice q n m] w (UPost count r w) := by
  subst hr
  subst hn
  by_cases ho : Okay count data ws
  · rw [crA_ok keep ho]
    refine (crash_ok v count data ws w hd ho q m keep hl hll).mono ?_
    rintro e w' ⟨⟨v', rfl, hn⟩, hb⟩
    exact upost_ok hn (okay_crashed ho keep) hb
  · rw [crA_bad keep ho]
    refine (crash_bad v _ count data ws w hd ho).mono ?_
    rintro e w' ⟨rfl, hb⟩
    exact upost_err hb
theorem rcrash_u (v : Value) (count : Int) (data : List Nat) (ws : Puts) (w : World) (hd : DiskIn w v count data ws) (q : Option Addr) (n m : Nat) (keep : List Bool) (hn : n = keep.length) (hl : BoolsIn w q keep) (hll : keep.length ≤ 9223372036854775807) (r : Except Int (List Nat × Puts)) (hr : crA count data ws keep = r) : Calls Try.prog 30 #[v, .slice q n m] w (RDoPost count r w) := by
  subst hr
  subst hn
  by_cases ho : Okay count data ws
  · rw [crA_ok keep ho]
    refine (rcrash_ok v count data ws w hd ho q m keep hl hll).mono ?_
    rintro e w' ⟨⟨v', rfl, hn⟩, hb⟩
    exact rpost_ok hn hd.count_wf hb
  · rw [crA_bad keep ho]
    refine (rcrash_bad v _ count data ws w hd ho).mono ?_
    rintro e w' ⟨rfl, hb⟩
    exact rpost_err hb
end Go.Proofs.Yteabacpalnamdaa
