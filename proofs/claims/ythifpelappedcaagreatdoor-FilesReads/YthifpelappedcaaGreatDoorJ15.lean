/-
  The law FilesReads holds: whatever disk and whatever name are handed in, the program's Get, Names and Room answer what the document's answer, and the disk is the same behind it. Condition: the four package-level variables hold what the program's text lays there.
-/
import Derived.Test.YthifpelappedcaaGreatDoorRows
import Derived.Test.YthifpelappedcaaGreatDoorJ05
import Derived.LaidSub
import Derived.LaidHandle
import Derived.LaidLaws
import Derived.RowKitTokens
import Derived.Lib.LaidTab
import Derived.Test.YthifpelappedcaaGreatDoorJ09
import Derived.SizedLaws
import Derived.Test.YthifpelappedcaaGreatDoorChecked
import Derived.ChangeSame
import Derived.ChangeVars
import Derived.JoinedOf
import Derived.RowKit
import Derived.Stop.Joined
import Derived.Test.YthifpelappedcaaGreatDoorJ14
import Derived.WalkKit
import Derived.ProofKit
import Derived.OpenShut
import Derived.ShutString
import Derived.ChangeOld
import Derived.Below
import Derived.Test.YthifpelappedcaaGreatDoorTie
import Derived.Test.YthifpelappedcaaGreatDoorCards
import Derived.SevenTiedAt
namespace Go.Proofs.YthifpelappedcaaGreatDoor
open Go.RowKit Go.WideShapes Rm

theorem lh.rt : (Tryz.prog.cutTypes.find? (·.1 == "internal/reflectlite.rtype")).map (·.2) = some 221 := by kernel_rfl
theorem lh.et : Tryz.prog.globalNamed "errors.errorType" = some 0 := by kernel_rfl
theorem lh.size : Tryz.prog.types.size = 322 := by kernel_rfl
theorem lh.oneRow : ((List.range 322).filter fun t => Tryz.prog.rowNamed t [101, 114, 114, 111, 114]) = [93] := by kernel_rfl
theorem lh.handle : typeHandle Tryz.prog 93 = .pointer (some ⟨5, 93, none⟩) := by kernel_rfl
def laidL : List (String × DataW Unit) := [("math/bits.deBruijn32tab", Rows.laid_math_bits_deBruijn32tab), ("math/bits.deBruijn64tab", Rows.laid_math_bits_deBruijn64tab), ("internal/strconv.uint64pow10", Rows.laid_internal_strconv_uint64pow10), ("errors.errorType", Rows.laid_errors_errorType)]
theorem errT_of {W : World} (h : handlesMet Tryz.prog [("errors.errorType", Rows.laid_errors_errorType)] W) : ErrT W := by
  obtain ⟨name, u, ty, e1, e2, e3, e4, e5⟩ := h _ (List.mem_singleton.2 rfl)
  have en : name = [101, 114, 114, 111, 114] := (Option.some.inj e1).symm
  subst en
  obtain rfl := Option.some.inj (lh.rt.symm.trans e2)
  have hm : ty ∈ (List.range 322).filter fun t => Tryz.prog.rowNamed t [101, 114, 114, 111, 114] := List.mem_filter.2 ⟨List.mem_range.2 (by rw [← lh.size]; exact e3), e4⟩
  rw [lh.oneRow] at hm
  obtain rfl := List.mem_singleton.1 hm
  rw [lh.handle] at e5
  simpa [ErrT] using World.var?_cell lh.et e5 0
theorem tab_of {W : World} (h : laidMet Tryz.prog [("internal/strconv.uint64pow10", Rows.laid_internal_strconv_uint64pow10)] W) : Lib.TabIs Tryz.prog W "internal/strconv.uint64pow10" .u64 Lib.pow10Tab :=
  Lib.tabIs_of_head (rest := []) g_pow (t := 286) (e := 116) (n := 20) (by kernel_rfl) Tryz.underlying286 Tryz.underlying116 (by kernel_rfl) (by kernel_rfl) h
theorem laid_of {W : World} (h : laidMetH Tryz.prog laidL W) : Laid W := by
  obtain ⟨h1, h2⟩ := laidMetH_iff.1 h
  refine ⟨errT_of fun x hx => h2 x ?_, tab_of ?_⟩
  · rw [List.mem_singleton.1 hx]
    exact List.mem_filter.2 ⟨by simp [laidL], by rfl⟩
  · have h3 := h1.filter (fun x => x.1 == "internal/strconv.uint64pow10")
    exact h3
end Go.Proofs.YthifpelappedcaaGreatDoor
namespace Go.Proofs.YthifpelappedcaaGreatDoor
set_option maxRecDepth 8000
open Go.RowKit Go.WideShapes Go.ChangeShapes Go.Deep Go.Joins

section
variable {P : Program} {w : World} {H : Type} {enc : TypeId × Value → H}
theorem open_bytes_sized {t e : TypeId} {n : Nat} {v : Value} {x : DataW H × List MemPlace} (ht : P.underlying t = some (.slice e)) (he : P.underlying e = some (.int .u8)) (hc : P.cellsOf e = 1) (hby : P.bytesOf e = 1)
    (h : DataW.trod enc P w 0 (fun _ => true) true n t [v] = some x) (hw : ∀ k ∈ x.1.weights P t, k ≤ reachBytes) : ∃ xs, Row w v xs ∧ xs.length ≤ reachBytes := by
  obtain ⟨xs, hx⟩ := open_bytes ht he hc h
  refine ⟨xs, hx, ?_⟩
  obtain ⟨p, c, rfl, _⟩ := hx.lies
  rcases open_ints ht he hc h with ⟨hcs, _⟩ | ⟨a, len, cap, zs, hcs, _, hl, hm, hz, rfl, hcell, hwz⟩
  · simp only [List.cons.injEq, Value.slice.injEq, and_true] at hcs
    rw [hcs.2.1]; exact Nat.zero_le _
  · simp only [List.cons.injEq, Value.slice.injEq, and_true] at hcs
    have := hw (((lits .u8 (zs.take len) : List (DataW H)).length + (lits .u8 (zs.drop len) : List (DataW H)).length) * P.bytesOf e) (by simp [DataW.weights, ht])
    rw [hby] at this
    have hz' : zs.length = cap := by simpa using hz
    simp only [lits, List.length_map, List.length_take, List.length_drop] at this
    omega
theorem weightsAll_mem {e : TypeId} {l : List (DataW H)} {d : DataW H} (hd : d ∈ l) {k : Nat} (hk : k ∈ d.weights P e) : k ∈ DataW.weightsAll P e l := by
  induction l with
  | nil => cases hd
  | cons a l ih =>
    simp only [DataW.weightsAll, List.mem_append]
    rcases List.mem_cons.1 hd with rfl | h
    · exact .inl hk
    · exact .inr (ih h)
theorem puts_sized {t e tb eb : TypeId} {f0 f1 : Field} {n : Nat} {v : Value} {x : DataW H × List MemPlace} (ht : P.underlying t = some (.slice e)) (he : P.underlying e = some (.struct #[f0, f1])) (ce : P.cellsOf e = 2) (o0 : f0.offset = 0) (o1 : f1.offset = 1)
    (c0 : P.cellsOf f0.type = 1) (c1 : P.cellsOf f1.type = 1) (k1 : f1.type = tb) (hb : P.underlying tb = some (.slice eb)) (heb : P.underlying eb = some (.int .u8)) (hceb : P.cellsOf eb = 1) (hby : P.bytesOf eb = 1)
    (h : DataW.trod enc P w 0 (fun _ => true) true n t [v] = some x) (hw : ∀ k ∈ x.1.weights P t, k ≤ reachBytes) {q : Option Addr} {c : Nat} {ws : List (Int × List Nat)} (hv : v = .slice q ws.length c) (hp : PutsIn w q ws) : ∀ y ∈ ws, y.2.length ≤ reachBytes := by
  subst k1
  subst hv
  rcases open_slice_pairs ht he ce o0 o1 c0 c1 h with ⟨hcs, _⟩ | ⟨a, len, cap, m, k, V0, V1, D0, D1, P0, P1, hcs, _, hl, hm, hmm, rfl, hel⟩
  · simp only [List.cons.injEq, Value.slice.injEq, and_true] at hcs
    intro y hy
    obtain rfl : ws = [] := List.eq_nil_of_length_eq_zero hcs.2.1
    cases hy
  · simp only [List.cons.injEq, Value.slice.injEq, and_true] at hcs
    obtain ⟨rfl, hlen, rfl⟩ := hcs
    have hmc : m = c := by simpa using hmm
    intro y hy
    obtain ⟨i, hi, rfl⟩ := List.getElem_of_mem hy
    obtain ⟨b, o, e1, hc⟩ := hp (by omega)
    simp only [Option.some.injEq] at e1
    subst e1
    obtain ⟨_, g1, _, t1⟩ := hel i (by omega)
    obtain ⟨_, vv, g2, hr⟩ := hc i hi
    rw [add_plain] at g1
    rw [g1] at g2
    simp only [Option.some.injEq] at g2
    subst g2
    obtain ⟨xs, hx, hxl⟩ := open_bytes_sized hb heb hceb hby t1 (fun k' hk' => hw k' (by
      simp only [DataW.weights, ht, List.mem_cons, List.mem_append]
      refine .inr (.inl (weightsAll_mem (d := .agg [D0 i, D1 i]) (List.mem_map.2 ⟨i, List.mem_range.2 (by omega), rfl⟩) ?_))
      simp only [DataW.weights, he]
      simp only [List.map_cons, List.map_nil, DataW.weightsEach, List.mem_append]
      exact .inr (.inl hk')))
    obtain ⟨p1, c1', e1, _⟩ := hr.lies
    obtain ⟨p2, c2', e2, _⟩ := hx.lies
    rw [e1] at e2
    simp only [Value.slice.injEq] at e2
    have e3 : ws.getD i (0, []) = ws[i] := by simp [List.getD, List.getElem?_eq_getElem hi]
    rw [e3] at e2
    omega
theorem open_disk_sized {tD t e tb eb : TypeId} {d0 d1 d2 f0 f1 : Field} {r : Reach} {b0 : Nat} {v : Value} {d : DataW H} {p : List MemPlace}
    (hD : P.underlying tD = some (.struct #[d0, d1, d2])) (hone : oneCellFields P #[d0, d1, d2] = true) (hC : P.cellsOf tD = 3)
    (kd0 : P.underlying d0.type = some (.int .i64)) (kd1 : d1.type = tb) (kd2 : d2.type = t)
    (ht : P.underlying t = some (.slice e)) (he : P.underlying e = some (.struct #[f0, f1])) (ce : P.cellsOf e = 2) (o0 : f0.offset = 0) (o1 : f1.offset = 1)
    (c0 : P.cellsOf f0.type = 1) (c1 : P.cellsOf f1.type = 1) (k0 : P.underlying f0.type = some (.int .i64)) (k1 : f1.type = tb) (hb : P.underlying tb = some (.slice eb)) (heb : P.underlying eb = some (.int .u8)) (hceb : P.cellsOf eb = 1) (hby : P.bytesOf eb = 1)
    (hv : Value.okWide P w r b0 tD v) (h : DataW.Trod enc P w 0 (fun _ => true) true tD v d p) (hw : ∀ k ∈ d.weights P tD, k ≤ reachBytes) : ∃ count data ws, DiskIn w v count data ws ∧ ∀ y ∈ ws, y.2.length ≤ reachBytes := by
  obtain ⟨v0, v1, v2, y0, y1, y2, n, rfl, rfl, _, h0, h1, h2⟩ := open_agg3 hD hone hC hv h
  obtain ⟨z, hz, _, wz⟩ := DataW.trod_int kd0 h0
  simp only [List.cons.injEq, and_true] at hz
  subst hz
  rw [kd1] at h1
  rw [kd2] at h2
  obtain ⟨xs, hx⟩ := open_bytes hb heb hceb h1
  obtain ⟨q, ws, c, hv2, g1, g2, g3, g4, g5⟩ := open_puts ht he ce o0 o1 c0 c1 k0 k1 hb heb hceb h2
  refine ⟨z, xs, ws, ⟨⟨v1, q, c, by rw [hv2], hx, g1, g2, g3, g4⟩, wz, g5⟩, ?_⟩
  refine puts_sized ht he ce o0 o1 c0 c1 k1 hb heb hceb hby h2 (fun k hk => hw k ?_) hv2 g1
  simp only [DataW.weights, hD]
  simp only [List.map_cons, List.map_nil, DataW.weightsEach, List.mem_append]
  exact .inr (.inr (.inl (by rw [kd2]; exact hk)))
end
end Go.Proofs.YthifpelappedcaaGreatDoor
namespace Go.Proofs.YthifpelappedcaaGreatDoor
open Go.RowKit

noncomputable def tabCells : DataW Unit → Array Value
  | .agg l => (l.map fun | .lit (.int k z) => .int k z | _ => .nilIface).toArray
  | _ => #[]
noncomputable def layCells (cs : Array Value) : Obj → Obj
  | .cells _ t frozen => .cells cs t frozen
  | o => o
noncomputable def gIx (s : String) : Nat := (Tryz.prog.globalNamed s).getD 0
noncomputable def laidWorld (os : Os) : World :=
  let w0 := World.holding Tryz.prog os ⟨#[], #[], []⟩
  { w0 with heap := ((((w0.heap.modify (gIx "math/bits.deBruijn32tab") (layCells (tabCells Rows.laid_math_bits_deBruijn32tab))).modify (gIx "math/bits.deBruijn64tab") (layCells (tabCells Rows.laid_math_bits_deBruijn64tab))).modify (gIx "internal/strconv.uint64pow10") (layCells (tabCells Rows.laid_internal_strconv_uint64pow10))).modify (gIx "errors.errorType") (layCells #[.iface 221 (.agg #[.pointer (some ⟨5, 93, none⟩)])])) }
def laidLs : List (String × DataW Unit) := [("math/bits.deBruijn32tab", Rows.laid_math_bits_deBruijn32tab), ("math/bits.deBruijn64tab", Rows.laid_math_bits_deBruijn64tab), ("internal/strconv.uint64pow10", Rows.laid_internal_strconv_uint64pow10), ("errors.errorType", Rows.laid_errors_errorType)]
theorem laidWorld_met (os : Os) (args : Array Value) : laidMetH Tryz.prog laidLs ((laidWorld os).forCall (fun _ _ => 0) ⟨#[], args, []⟩).memory :=
  laidMetH_of_parts (laidMet_of_run' 8 (by kernel_rfl) (by kernel_rfl)) (by kernel_rfl)
end Go.Proofs.YthifpelappedcaaGreatDoor
namespace Go.Proofs.YthifpelappedcaaGreatDoor.filesReads
open Go.ChangeShapes Go.WideShapes Go.ChangeAt Go.RowKit Go.Deep Go.Joins Rm
open Go.ChangeMaps (open_string shut_string)
set_option linter.unusedVariables false

theorem own : ownKnob Tryz.prog.godebug = none := by kernel_rfl
theorem laidOut : laidOutB Tryz.prog = true := by kernel_rfl

set_option maxHeartbeats 4000000 in
set_option maxRecDepth 100000 in
theorem lifted (os : Os) (started : os.Started) (H : Type) (enc : TypeId × Value → H) :
    ReturnsInHanded {} Tryz.checked os 6 .any (fun w args => (Rows.filesReadsSpec.pre enc Tryz.prog Tryz.f6 [] false w args ∧ laidMetH Tryz.prog laidLs w) ∧ sizedMet enc Tryz.prog Tryz.f6 (OpenSpec.ofChange Rows.filesReadsSpec) false w args)
      (Rows.filesReadsSpec.post enc Tryz.prog Tryz.f6 false true false false) := by
  refine returnsInHanded_of_change_and (C := Tryz.checked) (X := fun w _ => laidMetH Tryz.prog laidLs w) (fun _ _ _ hh h => h.of_heap hh) own started (by kernel_rfl) Tryz.func6
    (ChangeSpec.witness_at (enc := enc) (C := Tryz.checked) (os := os) (X := fun w _ => laidMetH Tryz.prog laidLs w) false (laidWorld os) #[.agg #[.int .i64 0, .slice none 0 0, .slice none 0 0], .string ByteArray.empty] 8 rfl (by kernel_rfl) (by kernel_rfl) (by kernel_rfl) (by kernel_rfl) (by kernel_rfl) (laidWorld_met os _)) ?_
  intro W base args ds gs before hval0 hW hcnd hsz0 hL _
  have hval : ∀ (j : Nat) t v, Tryz.f6.params[j]? = some t → args[j]? = some v → Value.okWide Tryz.prog W .any base t v := hval0
  have hW' := hW
  obtain ⟨p, q, hA0, hV, rfl, hfz, hnd⟩ := hW
  have hA : DataW.TrodAll enc Tryz.prog W 0 (fun _ => true) true Tryz.f6.params.toList args.toList ds p := hA0
  have hsz : (DataW.weightsEach Tryz.prog (Tryz.f6.params.toList ++ Rows.filesReadsSpec.plain.varTypes Tryz.prog) (ds ++ gs)).all (· ≤ reachBytes) = true := hsz0
  rw [Tryz.params6] at hA hval hsz
  obtain ⟨v0, vs0, d0, ds0, p0, q0, hargs, rfl, rfl, h0, r0⟩ := trodAll_cons hA
  obtain ⟨v1, vs1, d1, ds1, p1, q1, rfl, rfl, rfl, h1, r1⟩ := trodAll_cons r0
  obtain ⟨rfl, rfl, rfl⟩ := trodAll_nil r1
  obtain rfl : args = #[v0, v1] := by cases args; simp_all
  obtain ⟨rfl, rfl⟩ := trodVars_none hV
  have k0 := h0
  have lt0 : ∀ x ∈ p0, x.block < W.heap.size := by obtain ⟨m, hm⟩ := k0; exact DataW.trod_lt m _ _ _ hm
  obtain ⟨count0, data0, ws0, w0, z0⟩ := open_disk_sized (tD := 25) (t := 23) (e := 45) (tb := 22) (eb := 5) Tryz.underlying25 (by kernel_rfl) (by kernel_rfl) Tryz.underlying3 rfl rfl Tryz.underlying23 Tryz.underlying45 (by kernel_rfl) rfl rfl (by kernel_rfl) (by kernel_rfl) Tryz.underlying3 rfl Tryz.underlying22 Tryz.underlying5 (by kernel_rfl) (by kernel_rfl) (hval 0 25 v0 rfl rfl) h0 (fun k hk => by simpa using List.all_eq_true.1 hsz k (DataW.weights_mem_each (j := 0) (t := 25) rfl rfl k hk))
  obtain ⟨a1, rfl, rfl, rfl, w1⟩ := open_string Tryz.underlying9 (hval 1 9 v1 rfl rfl) h1
  clear hA0 hval0
  refine (reads_walk v0 count0 data0 ws0 a1 W (laid_of hL) w0 z0 w1).mono fun e W' ⟨he, bel⟩ => ?_
  subst he
  exact ⟨_, rfl, _, _, _, [], _, [], hW', trodAll_mk1 (shut_bool Tryz.underlying4 _), (trodAll_cons_mk (Below.trod laidOut (by kernel_rfl) (of_decide_eq_true (by kernel_rfl)) k0 bel lt0) (trodAll_cons_mk (shut_string Tryz.underlying9 w1) trodAll_mk0)), rfl, bel.frame _, fun h => by cases h⟩

theorem over : Rows.FilesReadsSaid :=
  OpenClaim.holds_of_wide 6 Tryz.f6 rfl rfl rfl rfl rfl rfl rfl ⟨rfl, rfl, rfl, rfl, rfl⟩ rfl rfl rfl rfl rfl (by kernel_rfl) Tryz.func6 (by kernel_rfl)
    (of_decide_eq_true (by kernel_rfl)) (by unfold Func.isWrapper; first | (rw [if_pos (by decide +kernel)]; kernel_rfl) | (rw [if_neg (by decide +kernel)]; exact ⟨rfl, rfl⟩))
    (fun os started H enc _ => lifted os started H enc)
end Go.Proofs.YthifpelappedcaaGreatDoor.filesReads
namespace Go.Proofs.YthifpelappedcaaGreatDoor
open Go

theorem filesReads_card : Rows.FilesReadsCardSaid :=
  Claim7.holds_tied_plain_at .later [] [.data, .data, .data, .handle] true (true, "9b28a05ef4b325f428465c486aee340e6fee36d71384aeeba7425e8bc17b6a1c") true
    filesReads.over (fun _ h => by cases h) (by kernel_rfl) (fun _ h => by cases h) filesReads_row_tie rfl ⟨rfl, rfl⟩ (by kernel_rfl) rfl
    (fun f fn hf hfn => by
      obtain rfl : f = 6 := Option.some.inj ((show Tryz.prog.funcNamed "docket/docketlaw04.FilesReads" = some 6 by kernel_rfl).symm.trans hf) |>.symm
      obtain rfl : fn = Tryz.f6 := (Option.some.inj (Tryz.func6.symm.trans hfn)).symm
      exact ⟨by kernel_rfl, fun j t ht => by
        rw [Tryz.params6] at ht
        have h3 : t = 25 ∨ t = 9 := by
          rcases j with _ | _ | j
          · exact .inl (by simpa using ht.symm)
          · exact .inr (by simpa using ht.symm)
          · simp at ht
        rcases h3 with rfl | rfl
        · exact (show Tryz.prog.wantsStandIn 25 = false by kernel_rfl)
        · exact (show Tryz.prog.wantsStandIn 9 = false by kernel_rfl)⟩)
    (by kernel_rfl)
#print axioms filesReads_card
end Go.Proofs.YthifpelappedcaaGreatDoor
