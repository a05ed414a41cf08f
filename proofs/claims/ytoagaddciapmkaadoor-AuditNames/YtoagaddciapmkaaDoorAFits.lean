/-
  Does a record fit behind another one: the program's.
-/
import Derived.Test.YtoagaddciapmkaaDoorAFol
import Derived.BigQuiet
namespace Go.Proofs.YtoagaddciapmkaaDoor
open Go.RowKit Go.WideShapes

theorem ba_eq (x y : ByteArray) : (x.toList == y.toList) = decide (x = y) := by
  by_cases h : x = y
  · simp [h]
  · have : x.toList ≠ y.toList := fun e => h (by
      rw [ByteArray.toList_eq, ByteArray.toList_eq] at e
      rcases x with ⟨x⟩; rcases y with ⟨y⟩
      rcases x with ⟨x⟩; rcases y with ⟨y⟩
      simp at e; rw [e])
    simp [h, this]
def recEq (r a : RecV) : Bool := decide (r.seq = a.seq) && (decide (r.tim = a.tim) && (decide (r.user = a.user) && (decide (r.deed = a.deed) && (decide (r.out = a.out) && decide (r.hash = a.hash)))))
theorem recEq_iff (r a : RecV) : recEq r a = true ↔ r = a := by
  obtain ⟨r0, r1, r2, r3, r4, r5⟩ := r
  obtain ⟨a0, a1, a2, a3, a4, a5⟩ := a
  simp [recEq]
theorem eqF_cons {P : Program} {d : Nat} {xs ys : Array Value} {f : Field} {fs : List Field} {w : World} (hn : f.name ≠ "_") {a b : Value} (ha : (part f.type xs f.offset).run P w = .ok a w) (hb : (part f.type ys f.offset).run P w = .ok b w) {c r : Bool} (hc : (Op.equalIn d f.type a b).run P w = .ok c w) (h : (Op.eqFields d xs ys fs).run P w = .ok r w) : (Op.eqFields d xs ys (f :: fs)).run P w = .ok (c && r) w := by
  rw [Op.eqFields, if_pos hn]
  simp only [Sem.run_bind, ha, hb, hc, Result.andThen_ok]
  cases c
  · simp
  · simpa using h
theorem part_int (xs : Array Value) (i : Nat) (z : Int) (w : World) (h : xs[i]? = some (.int .i64 z)) : (part 3 xs i).run Tryd.prog w = .ok (.int .i64 z) w := by
  simp [part, isAgg, run_underlying Tryd.underlying3, h]
theorem part_str (xs : Array Value) (i : Nat) (z : ByteArray) (w : World) (h : xs[i]? = some (.string z)) : (part 9 xs i).run Tryd.prog w = .ok (.string z) w := by
  simp [part, isAgg, run_underlying Tryd.underlying9, h]
theorem eqI (a b : Int) (w : World) : (Op.equalIn 9999 3 (.int .i64 a) (.int .i64 b)).run Tryd.prog w = .ok (decide (a = b)) w := by
  rw [run_equalIn_int w 9998 3 .i64 .i64 a b Tryd.underlying3]
  congr 1
theorem eqS (a b : ByteArray) (w : World) : (Op.equalIn 9999 9 (.string a) (.string b)).run Tryd.prog w = .ok (decide (a = b)) w := by
  rw [run_equalIn_string w 9998 9 a b Tryd.underlying9, ba_eq]
theorem eqF_int {xs ys : Array Value} {nm tg pp : String} {em : Bool} {i bo : Nat} {fs : List Field} {w : World} {a b : Int} {r : Bool} (hn : nm ≠ "_") (ha : xs[i]? = some (.int .i64 a)) (hb : ys[i]? = some (.int .i64 b)) (h : (Op.eqFields 9999 xs ys fs).run Tryd.prog w = .ok r w) :
    (Op.eqFields 9999 xs ys ({ name := nm, type := 3, offset := i, embedded := em, tag := tg, pkgPath := pp, byteOffset := bo } :: fs)).run Tryd.prog w = .ok (decide (a = b) && r) w :=
  eqF_cons (f := { name := nm, type := 3, offset := i, embedded := em, tag := tg, pkgPath := pp, byteOffset := bo }) hn (part_int xs i a w ha) (part_int ys i b w hb) (eqI a b w) h
theorem eqF_str {xs ys : Array Value} {nm tg pp : String} {em : Bool} {i bo : Nat} {fs : List Field} {w : World} {a b : ByteArray} {r : Bool} (hn : nm ≠ "_") (ha : xs[i]? = some (.string a)) (hb : ys[i]? = some (.string b)) (h : (Op.eqFields 9999 xs ys fs).run Tryd.prog w = .ok r w) :
    (Op.eqFields 9999 xs ys ({ name := nm, type := 9, offset := i, embedded := em, tag := tg, pkgPath := pp, byteOffset := bo } :: fs)).run Tryd.prog w = .ok (decide (a = b) && r) w :=
  eqF_cons (f := { name := nm, type := 9, offset := i, embedded := em, tag := tg, pkgPath := pp, byteOffset := bo }) hn (part_str xs i a w ha) (part_str ys i b w hb) (eqS a b w) h
/-- Two records compared as structs. -/
theorem eql_rec (r a : RecV) (w : World) : (Op.equalIn 10000 41 (.agg (recA r)) (.agg (recA a))).run Tryd.prog w = .ok (recEq r a) w := by
  have h := run_equalIn_agg (P := Tryd.prog) w 9999 41 (recA r) (recA a) (by simp [Program.fieldsOf, Tryd.underlying41]) (by kernel_rfl)
  rw [h]
  clear h
  simp only [Program.fieldsOf, Tryd.underlying41]
  obtain ⟨r0, r1, r2, r3, r4, r5⟩ := r
  obtain ⟨a0, a1, a2, a3, a4, a5⟩ := a
  simp only [recA, recEq]
  refine eqF_int (nm := "Seq") (by simp) (a := r0) (b := a0) (by simp) (by simp) ?_
  refine eqF_int (nm := "At") (by simp) (a := r1) (b := a1) (by simp) (by simp) ?_
  refine eqF_str (nm := "User") (by simp) (a := r2) (b := a2) (by simp) (by simp) ?_
  refine eqF_str (nm := "Deed") (by simp) (a := r3) (b := a3) (by simp) (by simp) ?_
  refine eqF_int (nm := "Outcome") (by simp) (a := r4) (b := a4) (by simp) (by simp) ?_
  rw [← Bool.and_true (decide (r5 = a5))]
  refine eqF_str (nm := "Hash") (by simp) (a := r5) (b := a5) (by simp) (by simp) ?_
  rfl
theorem run_eqlR (r a : RecV) (w : World) : (binOp .eql 41 (.agg (recA r)) (.agg (recA a))).run Tryd.prog w = .ok (.bool (recEq r a)) w := by
  rw [run_eql_struct, eql_rec]
  rfl
theorem run_neqR (r a : RecV) (w : World) : (binOp .neq 41 (.agg (recA r)) (.agg (recA a))).run Tryd.prog w = .ok (.bool (!recEq r a)) w := by
  rw [run_neq_struct, eql_rec]
  rfl
noncomputable def fitB (r a : RecV) : Bool := decide (a.tim ≤ r.tim) && recEq r (folR a r.tim r.user r.deed r.out)
theorem fitB_iff (r a : RecV) : fitB r a = true ↔ FitP r a := by
  unfold fitB FitP
  rw [Bool.and_eq_true, decide_eq_true_eq, recEq_iff]
set_option maxHeartbeats 2000000 in
set_option maxRecDepth 8000 in
theorem fits_any (r a : RecV) (w : World) (hk : KOn w) (hr : MayR r) (ha : AhdR a) (hsq : a.seq ≤ 1000000) :
    Calls Tryd.prog 65 #[.agg (recA r), .agg (recA a)] w fun e w' => e = .returned (.bool (fitB r a)) ∧ Below w.heap.size w w' := by
  obtain ⟨r0, r1, r2, r3, r4, r5⟩ := r
  obtain ⟨a0, a1, a2, a3, a4, a5⟩ := a
  have HF : ∀ w', Below w.heap.size w w' → Calls Tryd.prog 45 #[.agg (recA ⟨a0, a1, a2, a3, a4, a5⟩), .int .i64 r1, .string r2, .string r3, .int .i64 r4] w' fun e w'' => e = .returned (.agg (recA (folR ⟨a0, a1, a2, a3, a4, a5⟩ r1 r2 r3 r4))) ∧ Below w'.heap.size w' w'' := fun w' hb => following_any _ r1 r2 r3 r4 w' (hk.below hb hk.pos) ha hsq (fld_ok.2 ⟨hr.t0, hr.t1, hr.us, hr.de, hr.o0, hr.o1⟩)
  have HQ : ∀ w', (binOp .eql 41 (.agg (recA ⟨r0, r1, r2, r3, r4, r5⟩)) (.agg (recA (folR ⟨a0, a1, a2, a3, a4, a5⟩ r1 r2 r3 r4)))).run Tryd.prog w' = .ok (.bool (recEq ⟨r0, r1, r2, r3, r4, r5⟩ (folR ⟨a0, a1, a2, a3, a4, a5⟩ r1 r2 r3 r4))) w' := fun w' => run_eqlR _ _ w'
  have HB : Hid (fitB ⟨r0, r1, r2, r3, r4, r5⟩ ⟨a0, a1, a2, a3, a4, a5⟩ = (decide (a1 ≤ r1) && recEq ⟨r0, r1, r2, r3, r4, r5⟩ (folR ⟨a0, a1, a2, a3, a4, a5⟩ r1 r2 r3 r4))) := rfl
  generalize recEq ⟨r0, r1, r2, r3, r4, r5⟩ (folR ⟨a0, a1, a2, a3, a4, a5⟩ r1 r2 r3 r4) = B at HQ HB
  generalize hFA : recA (folR ⟨a0, a1, a2, a3, a4, a5⟩ r1 r2 r3 r4) = FA at HF HQ
  clear hFA hr ha hsq
  have N0 := al2_0 w (.cells (recA ⟨r0, r1, r2, r3, r4, r5⟩) 41) (.cells (recA ⟨a0, a1, a2, a3, a4, a5⟩) 41)
  have N1 := al2_1 w (.cells (recA ⟨r0, r1, r2, r3, r4, r5⟩) 41) (.cells (recA ⟨a0, a1, a2, a3, a4, a5⟩) 41)
  have B2 := below_al2 w (.cells (recA ⟨r0, r1, r2, r3, r4, r5⟩) 41) (.cells (recA ⟨a0, a1, a2, a3, a4, a5⟩) 41)
  simp only [recA] at HF HQ N0 N1 B2 ⊢
  go_enter Tryd.func65, Tryd.ntmps65
  go_upto_region 1 with fail
  change Code.wp _ _ _ _ ((w.alloc (.cells #[.int .i64 r0, .int .i64 r1, .string r2, .string r3, .int .i64 r4, .string r5] 41)).alloc (.cells #[.int .i64 a0, .int .i64 a1, .string a2, .string a3, .int .i64 a4, .string a5] 41))
  generalize (w.alloc (.cells #[.int .i64 r0, .int .i64 r1, .string r2, .string r3, .int .i64 r4, .string r5] 41)).alloc (.cells #[.int .i64 a0, .int .i64 a1, .string a2, .string a3, .int .i64 a4, .string a5] 41) = W at N0 N1 B2 ⊢
  have HKS : Hid (∀ w', Below W.heap.size W w' → (w'.cell? ⟨w.heap.size, 0, none⟩ = some (.int .i64 r0) ∧ w'.cell? ⟨w.heap.size, 1, none⟩ = some (.int .i64 r1) ∧ w'.cell? ⟨w.heap.size, 2, none⟩ = some (.string r2) ∧ w'.cell? ⟨w.heap.size, 3, none⟩ = some (.string r3) ∧ w'.cell? ⟨w.heap.size, 4, none⟩ = some (.int .i64 r4) ∧ w'.cell? ⟨w.heap.size, 5, none⟩ = some (.string r5)) ∧ (w'.cell? ⟨w.heap.size + 1, 0, none⟩ = some (.int .i64 a0) ∧ w'.cell? ⟨w.heap.size + 1, 1, none⟩ = some (.int .i64 a1) ∧ w'.cell? ⟨w.heap.size + 1, 2, none⟩ = some (.string a2) ∧ w'.cell? ⟨w.heap.size + 1, 3, none⟩ = some (.string a3) ∧ w'.cell? ⟨w.heap.size + 1, 4, none⟩ = some (.int .i64 a4) ∧ w'.cell? ⟨w.heap.size + 1, 5, none⟩ = some (.string a5))) := fun w' hb' => by
    have h0 := block_below N0 hb'
    have h1 := block_below N1 hb'
    exact ⟨⟨Lib.cell_of_heap h0 0, Lib.cell_of_heap h0 1, Lib.cell_of_heap h0 2, Lib.cell_of_heap h0 3, Lib.cell_of_heap h0 4, Lib.cell_of_heap h0 5⟩, Lib.cell_of_heap h1 0, Lib.cell_of_heap h1 1, Lib.cell_of_heap h1 2, Lib.cell_of_heap h1 3, Lib.cell_of_heap h1 4, Lib.cell_of_heap h1 5⟩
  obtain ⟨⟨e0, e1, e2, e3, e4, e5⟩, f0, f1, f2, f3, f4, f5⟩ := HKS.out W (Below.refl _ _)
  have A0 : Below W.heap.size W W.drew := (Below.refl _ _).drew
  have HFD : Hid (Calls Tryd.prog 45 #[.agg #[.int .i64 a0, .int .i64 a1, .string a2, .string a3, .int .i64 a4, .string a5], .int .i64 r1, .string r2, .string r3, .int .i64 r4] W.drew fun e w'' => e = .returned (.agg FA) ∧ Below W.drew.heap.size W.drew w'') := HF _ (below_more B2 A0)
  clear HF N0 N1
  by_cases hle : a1 ≤ r1
  · have hd : decide (a1 ≤ r1) = true := decide_eq_true hle
    go_region_held3 (fun w' => (w'.cell? ⟨w.heap.size, 0, none⟩ = some (.int .i64 r0) ∧ w'.cell? ⟨w.heap.size, 1, none⟩ = some (.int .i64 r1) ∧ w'.cell? ⟨w.heap.size, 2, none⟩ = some (.string r2) ∧ w'.cell? ⟨w.heap.size, 3, none⟩ = some (.string r3) ∧ w'.cell? ⟨w.heap.size, 4, none⟩ = some (.int .i64 r4) ∧ w'.cell? ⟨w.heap.size, 5, none⟩ = some (.string r5)) ∧ (w'.cell? ⟨w.heap.size + 1, 0, none⟩ = some (.int .i64 a0) ∧ w'.cell? ⟨w.heap.size + 1, 1, none⟩ = some (.int .i64 a1) ∧ w'.cell? ⟨w.heap.size + 1, 2, none⟩ = some (.string a2) ∧ w'.cell? ⟨w.heap.size + 1, 3, none⟩ = some (.string a3) ∧ w'.cell? ⟨w.heap.size + 1, 4, none⟩ = some (.int .i64 a4) ∧ w'.cell? ⟨w.heap.size + 1, 5, none⟩ = some (.string a5)))
      (with_reducible first | exact HKS.out _ (Below.refl _ _) | exact HKS.out _ A0 | exact HKS.out _ A1 | assumption)
      (first
        | (go_at_call 45; refine HFD.out.mono ?_; rintro e w1 ⟨rfl, hb1⟩; have A1 := below_more A0 hb1)
        | fail)
    go_wp2
    go_ret
    refine ⟨?_, below_more B2 A1⟩
    rw [HB.out, hd]
    rfl
  · have hd : decide (a1 ≤ r1) = false := decide_eq_false hle
    go_quiet (fail)
    go_wp2
    go_ret
    refine ⟨?_, below_more B2 (drewN_below (Below.refl _ _) _)⟩
    rw [HB.out, hd]
    rfl
end Go.Proofs.YtoagaddciapmkaaDoor
