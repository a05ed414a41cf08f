/-
  Does a record fit behind another one: the program's.
-/
import Derived.Test.YtoagaddciapmkaaDoorJ09
import Derived.Stop.BytesEq
import Derived.Test.YtoagaddciapmkaaDoorJ18
import Derived.Test.YtoagaddciapmkaaDoorJ10
import Derived.BigQuiet
namespace Go.Proofs.YtoagaddciapmkaaDoor
open Go.RowKit Go.WideShapes

theorem bs_cell {D : List Nat} (h : ∀ x ∈ D, x < 256) : Bs D = (D.map UInt8.ofNat).map Extern.Stop.cell := by
  unfold Bs
  rw [List.map_map]
  apply List.map_congr_left
  intro x hx
  simp [Extern.Stop.cell, Nat.mod_eq_of_lt (h x hx)]
theorem beq_dig {D E : List Nat} (hD : ∀ x ∈ D, x < 256) (hE : ∀ x ∈ E, x < 256) : (D.map UInt8.ofNat == E.map UInt8.ofNat) = decide (D = E) := by
  rw [Bool.eq_iff_iff, beq_iff_eq, decide_eq_true_eq]
  exact ⟨map_ofNat_inj hD hE, fun h => by rw [h]⟩
theorem eql_dig {D E : List Nat} (lD : D.length = 32) (lE : E.length = 32) (hD : ∀ x ∈ D, x < 256) (hE : ∀ x ∈ E, x < 256) (w : World) :
    (binOp .eql 23 (.agg (Bs D).toArray) (.agg (Bs E).toArray)).run Tryd.prog w = .ok (.bool (decide (D = E))) w := by
  rw [bs_cell hD, bs_cell hE, run_eql_bytes w 23 5 32 Tryd.underlying23 Tryd.underlying5 (fun w => Tryd.sizeOf5 w) _ _ (by rw [List.length_map, lD]) (by rw [List.length_map, lE]), beq_dig hD hE]
theorem neq_dig {D E : List Nat} (lD : D.length = 32) (lE : E.length = 32) (hD : ∀ x ∈ D, x < 256) (hE : ∀ x ∈ E, x < 256) (w : World) :
    (binOp .neq 23 (.agg (Bs D).toArray) (.agg (Bs E).toArray)).run Tryd.prog w = .ok (.bool (!decide (D = E))) w := by
  rw [run_neq_struct, bs_cell hD, bs_cell hE, run_equalIn_bytes w 9998 23 5 32 Tryd.underlying23 Tryd.underlying5 (fun w => Tryd.sizeOf5 w) _ _ (by rw [List.length_map, lD]) (by rw [List.length_map, lE]), beq_dig hD hE]
  rfl

theorem al3 (w : World) (A B C : Obj) : (((w.alloc A).alloc B).alloc C).heap[w.heap.size]? = some A ∧ (((w.alloc A).alloc B).alloc C).heap[w.heap.size + 1]? = some B ∧ (((w.alloc A).alloc B).alloc C).heap[w.heap.size + 1 + 1]? = some C ∧ Below w.heap.size w (((w.alloc A).alloc B).alloc C) :=
  ⟨al3_0 w A B C, al3_1 w A B C, al3_2 w A B C, below_al3 w A B C⟩
theorem one_rec (r : RecV) : (recA r).all (·.oneCell') = true := by simp [recA, Value.oneCell']
theorem size_rec : (Tryd.prog.info? 41).map (·.size) = some 6 := by kernel_rfl
set_option maxHeartbeats 1000000 in
set_option maxRecDepth 8000 in
theorem last_any (q : Option Addr) (n c : Nat) (l : List RecV) (w : World) (h : RsIn w q l) (hn0 : n = l.length) (hnb : (n : Int) ≤ 9223372036854775807) :
    Calls Tryd.prog 43 #[.slice q n c] w fun e w' => e = .returned (.agg (recA (prevR l l.length))) ∧ Below w.heap.size w w' := by
  go_enter Tryd.func43, Tryd.ntmps43
  by_cases h0 : n = 0
  · subst h0
    have HE : Hid (prevR l l.length = firstR) := by show _ = _; rw [← hn0]; rfl
    clear hn0 h hnb
    go_wp2
    rw [nought_lit]
    refine bodyPost_ret (results_cell_row rfl _ _ w.heap.size 41 (recA firstR) (0, 0) _ rfl (_root_.Go.heap_alloc_new _ _) Tryd.underlying41 rfl size_rec) rfl ⟨by rw [HE.out], (Below.refl _ _).alloc (Nat.le_refl _) _⟩
  · have HE : Hid (prevR l l.length = l.getD (n - 1) zeroR) := by show _ = _; rw [← hn0]; unfold prevR; rw [if_neg h0]
    have hI : ((n : Int) == 0) = false := by simpa using h0
    obtain ⟨fb, fo, rfl⟩ := h.addr (by omega)
    have hz := h.at (k := n - 1) (by omega)
    generalize l.getD (n - 1) zeroR = r at hz HE
    obtain ⟨k, hk⟩ : ∃ k, n - 1 = k := ⟨_, rfl⟩
    rw [hk] at hz
    have hzB := hz.below (w' := w.alloc (.cells (recA zeroR) 41)) ((Below.refl _ _).alloc (Nat.le_refl _) _)
    obtain ⟨s, t, u, d, o, hh⟩ := r
    obtain ⟨z0, z1, z2, z3, z4, z5⟩ := hzB
    simp only [recA, zeroR] at z0 z1 z2 z3 z4 z5
    have hlt := hz.lt
    have hne : ¬ fb = w.heap.size := by omega
    have e1 : (n : Int) - 1 = (k : Int) := by omega
    have e2 : (k : Int) < (n : Int) := by omega
    clear hn0 h hz hk h0
    go_wp2
    refine bodyPost_ret (results_cell_row rfl _ _ w.heap.size 41 (recA ⟨s, t, u, d, o, hh⟩) (0, 0) _ rfl (_root_.Go.heap_alloc_new _ _) Tryd.underlying41 rfl size_rec) rfl ⟨by rw [HE.out], (Below.refl _ _).alloc (Nat.le_refl _) _⟩
set_option maxHeartbeats 2000000 in
set_option maxRecDepth 8000 in
theorem following_any (a : RecV) (t : Int) (u d : ByteArray) (o : Int) (w : World) (hk : KOn w) (ha : AhdR a) (hsq : a.seq ≤ 1000000) (hf : fldE t u d o = 0) :
    Calls Tryd.prog 45 #[.agg (recA a), .int .i64 t, .string u, .string d, .int .i64 o] w fun e w' => e = .returned (.agg (recA (folR a t u d o))) ∧ Below w.heap.size w w' := by
  obtain ⟨f1, f2, f3, f4, f5, f6⟩ := fld_ok.1 hf
  obtain ⟨sa, at_, au, ad, ao, ah⟩ := a
  have hah : ah.size = 64 := dig_size ha.dig
  have hs0 := ha.seq
  simp only at hs0 hsq
  obtain ⟨S, hS⟩ : ∃ S : Nat, sa + 1 = (S : Int) := ⟨(sa + 1).toNat, by omega⟩
  obtain ⟨Tm, rfl⟩ : ∃ S : Nat, t = (S : Int) := ⟨t.toNat, by omega⟩
  obtain ⟨O, rfl⟩ : ∃ S : Nat, o = (S : Int) := ⟨o.toNat, by omega⟩
  have HF : Hid (folR ⟨sa, at_, au, ad, ao, ah⟩ Tm u d O = ⟨(S : Int), (Tm : Int), u, d, (O : Int), hexD (recN S Tm O u d ah)⟩) := by
    show folR ⟨sa, at_, au, ad, ao, ah⟩ Tm u d O = _
    unfold folR
    simp only [hS]
  have HB := fun w' => abehind_any S Tm O u d ⟨#[]⟩ ah w' (by omega) (by omega) (by omega) f3 f4 (by omega)
  have hl : (recN S Tm O u d ah).length < 1152921504606840000 := by
    unfold recN
    have q1 := txN_len (s := ah) (by omega)
    have q2 := txN_len (s := u) (by omega)
    have q3 := txN_len (s := d) (by omega)
    simp only [List.length_append, putN_len]
    omega
  generalize hX : recN S Tm O u d ah = X at HB hl HF
  have HDl := digN_len X
  have HDb := digN_byte X
  have HH : Hid (hexD X = strOf (hexN (digN X))) := rfl
  have SM := fun (p : Option Addr) (c : Nat) w' hk' hb' hc' => sum_any p c X w' hk' hb' hc' hl
  generalize digN X = D at HDl HDb HH SM
  have hDs : (Tryd.prog.info? 23).map (·.size) = some (Bs D).toArray.size := by rw [size_dig]; simp [Bs, HDl]
  have hR0 : Hid (sa + 1 = (S : Int)) := hS
  have hsw : IntKind.i64.wrap (sa + 1) = (S : Int) := by simp [IntKind.wrap, IntKind.bits, IntKind.signed]; omega
  clear hX ha hf hS
  have AN := al3 w (Obj.cells #[.int .i64 sa, .int .i64 at_, .string au, .string ad, .int .i64 ao, .string ah] 41) (Obj.cells #[.int .i64 0, .int .i64 0, .string ⟨#[]⟩, .string ⟨#[]⟩, .int .i64 0, .string ⟨#[]⟩] 41) (Obj.cells #[.int .i64 (S : Int), .int .i64 (Tm : Int), .string u, .string d, .int .i64 (O : Int), .string ⟨#[]⟩] 41)
  show Calls Tryd.prog 45 #[.agg #[.int .i64 sa, .int .i64 at_, .string au, .string ad, .int .i64 ao, .string ah], .int .i64 (Tm : Int), .string u, .string d, .int .i64 (O : Int)] w _
  go_enter Tryd.func45, Tryd.ntmps45
  go_upto_region 2 with fail
  change Code.wp _ _ _ _ (((w.alloc (Obj.cells #[.int .i64 sa, .int .i64 at_, .string au, .string ad, .int .i64 ao, .string ah] 41)).alloc (Obj.cells #[.int .i64 0, .int .i64 0, .string ⟨#[]⟩, .string ⟨#[]⟩, .int .i64 0, .string ⟨#[]⟩] 41)).alloc (Obj.cells #[.int .i64 (S : Int), .int .i64 (Tm : Int), .string u, .string d, .int .i64 (O : Int), .string ⟨#[]⟩] 41))
  generalize ((w.alloc (Obj.cells #[.int .i64 sa, .int .i64 at_, .string au, .string ad, .int .i64 ao, .string ah] 41)).alloc (Obj.cells #[.int .i64 0, .int .i64 0, .string ⟨#[]⟩, .string ⟨#[]⟩, .int .i64 0, .string ⟨#[]⟩] 41)).alloc (Obj.cells #[.int .i64 (S : Int), .int .i64 (Tm : Int), .string u, .string d, .int .i64 (O : Int), .string ⟨#[]⟩] 41) = W at AN ⊢
  obtain ⟨N0, N1, N2, BW⟩ := AN
  have a5 : W.cell? ⟨w.heap.size, 5, none⟩ = some (.string ah) := Lib.cell_of_heap N0 5
  have r0 : W.cell? ⟨w.heap.size + 1 + 1, 0, none⟩ = some (.int .i64 (S : Int)) := Lib.cell_of_heap N2 0
  have r1 : W.cell? ⟨w.heap.size + 1 + 1, 1, none⟩ = some (.int .i64 (Tm : Int)) := Lib.cell_of_heap N2 1
  have r2 : W.cell? ⟨w.heap.size + 1 + 1, 2, none⟩ = some (.string u) := Lib.cell_of_heap N2 2
  have r3 : W.cell? ⟨w.heap.size + 1 + 1, 3, none⟩ = some (.string d) := Lib.cell_of_heap N2 3
  have r4 : W.cell? ⟨w.heap.size + 1 + 1, 4, none⟩ = some (.int .i64 (O : Int)) := Lib.cell_of_heap N2 4
  have r5 : W.cell? ⟨w.heap.size + 1 + 1, 5, none⟩ = some (.string ⟨#[]⟩) := Lib.cell_of_heap N2 5
  have kW := hk.below BW hk.pos
  clear hsw
  go_wp2_with fail
  refine (HB _).mono ?_
  rintro e w1 ⟨⟨p1, d1, rfl, i1, k1, z1⟩, hb1⟩
  have B1 := below_more BW hb1
  have K1 := kW.below hb1 kW.pos
  have SM1 := SM p1 d1 w1 K1 i1 k1
  clear SM HB i1 k1 z1 r0 r1 r2 r3 r4 r5 a5
  simp only []
  go_wp2_with fail
  refine SM1.mono ?_
  rintro e w2 ⟨rfl, hb2⟩
  have B2 := below_more B1 hb2
  replace N0 := (hb2.block _ (rw_lt ((hb1.block _ (rw_lt N0)).trans N0))).trans ((hb1.block _ (rw_lt N0)).trans N0)
  replace N1 := (hb2.block _ (rw_lt ((hb1.block _ (rw_lt N1)).trans N1))).trans ((hb1.block _ (rw_lt N1)).trans N1)
  replace N2 := (hb2.block _ (rw_lt ((hb1.block _ (rw_lt N2)).trans N2))).trans ((hb1.block _ (rw_lt N2)).trans N2)
  clear SM1 hb1 hb2 K1 B1
  simp only []
  go_step
  go_step
  go_step
  go_step
  refine wpList_store_row rfl 23 (.tmp 12) (.tmp 25) rfl w2.heap.size (Bs D).toArray (by rfl) (by rfl) 23 _ (_root_.Go.heap_alloc_new _ _) hDs (by simp [Bs, HDl]) (one_cell_bs _) ?_
  rw [World.setRow_alloc_new]
  have HX := hex_any (some ⟨w2.heap.size, 0, none⟩) 32 D (w2.alloc (Obj.cells (Bs D).toArray 23)) (bin_dig (_root_.Go.heap_alloc_new _ _) HDb) (by omega)
  rw [HDl, ← HH.out] at HX
  have hsl := slice_dig w2.heap.size
  replace N1 := (_root_.Go.heap_alloc_old _ (Obj.cells (Bs D).toArray 23) (rw_lt N1)).trans N1
  replace N2 := (_root_.Go.heap_alloc_old _ (Obj.cells (Bs D).toArray 23) (rw_lt N2)).trans N2
  replace B2 := B2.alloc (o := Obj.cells (Bs D).toArray 23) B2.size
  generalize w2.heap.size = g2 at HX hsl ⊢
  generalize w2.alloc (Obj.cells (Bs D).toArray 23) = W3 at HX N1 N2 B2 ⊢
  simp only [Act.put]
  clear N0
  go_wp2_with fail
  refine HX.mono ?_
  rintro e w4 ⟨rfl, hb4⟩
  replace N1 := (hb4.block _ (rw_lt N1)).trans N1
  replace N2 := (hb4.block _ (rw_lt N2)).trans N2
  replace B2 := below_more B2 hb4
  have fz : w4.frozen? ⟨w.heap.size + 1 + 1, 5, none⟩ = false := frozen_of_row w4 _ 5 _ _ N2
  have c5 : w4.cell? ⟨w.heap.size + 1 + 1, 5, none⟩ = some (.string ⟨#[]⟩) := Lib.cell_of_heap N2 5
  simp only []
  go_upto_region 4 with fail
  have N5 : (w4.setCell ⟨w.heap.size + 1 + 1, 5, none⟩ (.string (hexD X))).heap[w.heap.size + 1 + 1]? = some (.cells (recA ⟨(S : Int), (Tm : Int), u, d, (O : Int), hexD X⟩) 41 (0, 0)) := by
    rw [heap_setCell_same _ _ _ _ _ _ N2]; rfl
  have N6 : (w4.setCell ⟨w.heap.size + 1 + 1, 5, none⟩ (.string (hexD X))).heap[w.heap.size + 1]? = some (.cells #[.int .i64 0, .int .i64 0, .string ⟨#[]⟩, .string ⟨#[]⟩, .int .i64 0, .string ⟨#[]⟩] 41 (0, 0)) := by
    rw [heap_setCell_other _ _ _ _ (by simp)]; exact N1
  have B6 : Below w.heap.size w (w4.setCell ⟨w.heap.size + 1 + 1, 5, none⟩ (.string (hexD X))) := B2.setCell (by simp; omega) _
  generalize w4.setCell ⟨w.heap.size + 1 + 1, 5, none⟩ (.string (hexD X)) = W6 at N5 N6 B6 ⊢
  go_step
  refine wpList_load_row rfl 41 (.tmp 11) rfl _ (by rfl) 41 _ _ _ N5 Tryd.underlying41 rfl size_rec ?_
  refine wpList_store_row rfl 41 (.tmp 10) (.tmp 29) rfl _ (recA ⟨(S : Int), (Tm : Int), u, d, (O : Int), hexD X⟩) (by rfl) (by rfl) 41 _ N6 size_rec (by rfl) (one_rec _) ?_
  go_wp2
  refine bodyPost_ret (results_cell_row rfl _ _ (w.heap.size + 1) 41 _ (0, 0) _ rfl (setRow_heap _ _ _ _ _ _ N6) Tryd.underlying41 rfl size_rec) rfl ⟨by rw [HF.out], ?_⟩
  exact below_setRow B6 (by omega)

theorem ba_eq (x y : ByteArray) : (x.toList == y.toList) = decide (x = y) := by
  by_cases h : x = y
  · simp [h]
  · have : x.toList ≠ y.toList := fun e => h (by
      rw [ByteArray.toList_eq, ByteArray.toList_eq] at e
      rcases x with ⟨x⟩; rcases y with ⟨y⟩
      rcases x with ⟨x⟩; rcases y with ⟨y⟩
      simp at e; rw [e])
    simp [h, this]
def recEq (r a : RecV) : Bool := decide (r.seq = a.seq) && (decide (r.tim = a.tim) && (decide (r.user = a.user) && (decide (r.deed = a.deed) && (decide (r.out = a.out) && decide (r.hash = a.hash)))))
theorem recEq_iff (r a : RecV) : recEq r a = true ↔ r = a := by
  obtain ⟨r0, r1, r2, r3, r4, r5⟩ := r
  obtain ⟨a0, a1, a2, a3, a4, a5⟩ := a
  simp [recEq]
theorem eqF_cons {P : Program} {d : Nat} {xs ys : Array Value} {f : Field} {fs : List Field} {w : World} (hn : f.name ≠ "_") {a b : Value} (ha : (part f.type xs f.offset).run P w = .ok a w) (hb : (part f.type ys f.offset).run P w = .ok b w) {c r : Bool} (hc : (Op.equalIn d f.type a b).run P w = .ok c w) (h : (Op.eqFields d xs ys fs).run P w = .ok r w) : (Op.eqFields d xs ys (f :: fs)).run P w = .ok (c && r) w := by
  rw [Op.eqFields, if_pos hn]
  simp only [Sem.run_bind, ha, hb, hc, Result.andThen_ok]
  cases c
  · simp
  · simpa using h
theorem part_int (xs : Array Value) (i : Nat) (z : Int) (w : World) (h : xs[i]? = some (.int .i64 z)) : (part 3 xs i).run Tryd.prog w = .ok (.int .i64 z) w := by
  simp [part, isAgg, run_underlying Tryd.underlying3, h]
theorem part_str (xs : Array Value) (i : Nat) (z : ByteArray) (w : World) (h : xs[i]? = some (.string z)) : (part 9 xs i).run Tryd.prog w = .ok (.string z) w := by
  simp [part, isAgg, run_underlying Tryd.underlying9, h]
theorem eqI (a b : Int) (w : World) : (Op.equalIn 9999 3 (.int .i64 a) (.int .i64 b)).run Tryd.prog w = .ok (decide (a = b)) w := by
  rw [run_equalIn_int w 9998 3 .i64 .i64 a b Tryd.underlying3]
  congr 1
theorem eqS (a b : ByteArray) (w : World) : (Op.equalIn 9999 9 (.string a) (.string b)).run Tryd.prog w = .ok (decide (a = b)) w := by
  rw [run_equalIn_string w 9998 9 a b Tryd.underlying9, ba_eq]
theorem eqF_int {xs ys : Array Value} {nm tg pp : String} {em : Bool} {i bo : Nat} {fs : List Field} {w : World} {a b : Int} {r : Bool} (hn : nm ≠ "_") (ha : xs[i]? = some (.int .i64 a)) (hb : ys[i]? = some (.int .i64 b)) (h : (Op.eqFields 9999 xs ys fs).run Tryd.prog w = .ok r w) :
    (Op.eqFields 9999 xs ys ({ name := nm, type := 3, offset := i, embedded := em, tag := tg, pkgPath := pp, byteOffset := bo } :: fs)).run Tryd.prog w = .ok (decide (a = b) && r) w :=
  eqF_cons (f := { name := nm, type := 3, offset := i, embedded := em, tag := tg, pkgPath := pp, byteOffset := bo }) hn (part_int xs i a w ha) (part_int ys i b w hb) (eqI a b w) h
theorem eqF_str {xs ys : Array Value} {nm tg pp : String} {em : Bool} {i bo : Nat} {fs : List Field} {w : World} {a b : ByteArray} {r : Bool} (hn : nm ≠ "_") (ha : xs[i]? = some (.string a)) (hb : ys[i]? = some (.string b)) (h : (Op.eqFields 9999 xs ys fs).run Tryd.prog w = .ok r w) :
    (Op.eqFields 9999 xs ys ({ name := nm, type := 9, offset := i, embedded := em, tag := tg, pkgPath := pp, byteOffset := bo } :: fs)).run Tryd.prog w = .ok (decide (a = b) && r) w :=
  eqF_cons (f := { name := nm, type := 9, offset := i, embedded := em, tag := tg, pkgPath := pp, byteOffset := bo }) hn (part_str xs i a w ha) (part_str ys i b w hb) (eqS a b w) h
/-- Two records compared as structs. -/
theorem eql_rec (r a : RecV) (w : World) : (Op.equalIn 10000 41 (.agg (recA r)) (.agg (recA a))).run Tryd.prog w = .ok (recEq r a) w := by
  have h := run_equalIn_agg (P := Tryd.prog) w 9999 41 (recA r) (recA a) (by simp [Program.fieldsOf, Tryd.underlying41]) (by kernel_rfl)
  rw [h]
  clear h
  simp only [Program.fieldsOf, Tryd.underlying41]
  obtain ⟨r0, r1, r2, r3, r4, r5⟩ := r
  obtain ⟨a0, a1, a2, a3, a4, a5⟩ := a
  simp only [recA, recEq]
  refine eqF_int (nm := "Seq") (by simp) (a := r0) (b := a0) (by simp) (by simp) ?_
  refine eqF_int (nm := "At") (by simp) (a := r1) (b := a1) (by simp) (by simp) ?_
  refine eqF_str (nm := "User") (by simp) (a := r2) (b := a2) (by simp) (by simp) ?_
  refine eqF_str (nm := "Deed") (by simp) (a := r3) (b := a3) (by simp) (by simp) ?_
  refine eqF_int (nm := "Outcome") (by simp) (a := r4) (b := a4) (by simp) (by simp) ?_
  rw [← Bool.and_true (decide (r5 = a5))]
  refine eqF_str (nm := "Hash") (by simp) (a := r5) (b := a5) (by simp) (by simp) ?_
  rfl
theorem run_eqlR (r a : RecV) (w : World) : (binOp .eql 41 (.agg (recA r)) (.agg (recA a))).run Tryd.prog w = .ok (.bool (recEq r a)) w := by
  rw [run_eql_struct, eql_rec]
  rfl
theorem run_neqR (r a : RecV) (w : World) : (binOp .neq 41 (.agg (recA r)) (.agg (recA a))).run Tryd.prog w = .ok (.bool (!recEq r a)) w := by
  rw [run_neq_struct, eql_rec]
  rfl
noncomputable def fitB (r a : RecV) : Bool := decide (a.tim ≤ r.tim) && recEq r (folR a r.tim r.user r.deed r.out)
theorem fitB_iff (r a : RecV) : fitB r a = true ↔ FitP r a := by
  unfold fitB FitP
  rw [Bool.and_eq_true, decide_eq_true_eq, recEq_iff]
set_option maxHeartbeats 2000000 in
set_option maxRecDepth 8000 in
theorem fits_any (r a : RecV) (w : World) (hk : KOn w) (hr : MayR r) (ha : AhdR a) (hsq : a.seq ≤ 1000000) :
    Calls Tryd.prog 65 #[.agg (recA r), .agg (recA a)] w fun e w' => e = .returned (.bool (fitB r a)) ∧ Below w.heap.size w w' := by
  obtain ⟨r0, r1, r2, r3, r4, r5⟩ := r
  obtain ⟨a0, a1, a2, a3, a4, a5⟩ := a
  have HF : ∀ w', Below w.heap.size w w' → Calls Tryd.prog 45 #[.agg (recA ⟨a0, a1, a2, a3, a4, a5⟩), .int .i64 r1, .string r2, .string r3, .int .i64 r4] w' fun e w'' => e = .returned (.agg (recA (folR ⟨a0, a1, a2, a3, a4, a5⟩ r1 r2 r3 r4))) ∧ Below w'.heap.size w' w'' := fun w' hb => following_any _ r1 r2 r3 r4 w' (hk.below hb hk.pos) ha hsq (fld_ok.2 ⟨hr.t0, hr.t1, hr.us, hr.de, hr.o0, hr.o1⟩)
  have HQ : ∀ w', (binOp .eql 41 (.agg (recA ⟨r0, r1, r2, r3, r4, r5⟩)) (.agg (recA (folR ⟨a0, a1, a2, a3, a4, a5⟩ r1 r2 r3 r4)))).run Tryd.prog w' = .ok (.bool (recEq ⟨r0, r1, r2, r3, r4, r5⟩ (folR ⟨a0, a1, a2, a3, a4, a5⟩ r1 r2 r3 r4))) w' := fun w' => run_eqlR _ _ w'
  have HB : Hid (fitB ⟨r0, r1, r2, r3, r4, r5⟩ ⟨a0, a1, a2, a3, a4, a5⟩ = (decide (a1 ≤ r1) && recEq ⟨r0, r1, r2, r3, r4, r5⟩ (folR ⟨a0, a1, a2, a3, a4, a5⟩ r1 r2 r3 r4))) := rfl
  generalize recEq ⟨r0, r1, r2, r3, r4, r5⟩ (folR ⟨a0, a1, a2, a3, a4, a5⟩ r1 r2 r3 r4) = B at HQ HB
  generalize hFA : recA (folR ⟨a0, a1, a2, a3, a4, a5⟩ r1 r2 r3 r4) = FA at HF HQ
  clear hFA hr ha hsq
  have N0 := al2_0 w (.cells (recA ⟨r0, r1, r2, r3, r4, r5⟩) 41) (.cells (recA ⟨a0, a1, a2, a3, a4, a5⟩) 41)
  have N1 := al2_1 w (.cells (recA ⟨r0, r1, r2, r3, r4, r5⟩) 41) (.cells (recA ⟨a0, a1, a2, a3, a4, a5⟩) 41)
  have B2 := below_al2 w (.cells (recA ⟨r0, r1, r2, r3, r4, r5⟩) 41) (.cells (recA ⟨a0, a1, a2, a3, a4, a5⟩) 41)
  simp only [recA] at HF HQ N0 N1 B2 ⊢
  go_enter Tryd.func65, Tryd.ntmps65
  go_upto_region 1 with fail
  change Code.wp _ _ _ _ ((w.alloc (.cells #[.int .i64 r0, .int .i64 r1, .string r2, .string r3, .int .i64 r4, .string r5] 41)).alloc (.cells #[.int .i64 a0, .int .i64 a1, .string a2, .string a3, .int .i64 a4, .string a5] 41))
  generalize (w.alloc (.cells #[.int .i64 r0, .int .i64 r1, .string r2, .string r3, .int .i64 r4, .string r5] 41)).alloc (.cells #[.int .i64 a0, .int .i64 a1, .string a2, .string a3, .int .i64 a4, .string a5] 41) = W at N0 N1 B2 ⊢
  have HKS : Hid (∀ w', Below W.heap.size W w' → (w'.cell? ⟨w.heap.size, 0, none⟩ = some (.int .i64 r0) ∧ w'.cell? ⟨w.heap.size, 1, none⟩ = some (.int .i64 r1) ∧ w'.cell? ⟨w.heap.size, 2, none⟩ = some (.string r2) ∧ w'.cell? ⟨w.heap.size, 3, none⟩ = some (.string r3) ∧ w'.cell? ⟨w.heap.size, 4, none⟩ = some (.int .i64 r4) ∧ w'.cell? ⟨w.heap.size, 5, none⟩ = some (.string r5)) ∧ (w'.cell? ⟨w.heap.size + 1, 0, none⟩ = some (.int .i64 a0) ∧ w'.cell? ⟨w.heap.size + 1, 1, none⟩ = some (.int .i64 a1) ∧ w'.cell? ⟨w.heap.size + 1, 2, none⟩ = some (.string a2) ∧ w'.cell? ⟨w.heap.size + 1, 3, none⟩ = some (.string a3) ∧ w'.cell? ⟨w.heap.size + 1, 4, none⟩ = some (.int .i64 a4) ∧ w'.cell? ⟨w.heap.size + 1, 5, none⟩ = some (.string a5))) := fun w' hb' => by
    have h0 := block_below N0 hb'
    have h1 := block_below N1 hb'
    exact ⟨⟨Lib.cell_of_heap h0 0, Lib.cell_of_heap h0 1, Lib.cell_of_heap h0 2, Lib.cell_of_heap h0 3, Lib.cell_of_heap h0 4, Lib.cell_of_heap h0 5⟩, Lib.cell_of_heap h1 0, Lib.cell_of_heap h1 1, Lib.cell_of_heap h1 2, Lib.cell_of_heap h1 3, Lib.cell_of_heap h1 4, Lib.cell_of_heap h1 5⟩
  obtain ⟨⟨e0, e1, e2, e3, e4, e5⟩, f0, f1, f2, f3, f4, f5⟩ := HKS.out W (Below.refl _ _)
  have A0 : Below W.heap.size W W.drew := (Below.refl _ _).drew
  have HFD : Hid (Calls Tryd.prog 45 #[.agg #[.int .i64 a0, .int .i64 a1, .string a2, .string a3, .int .i64 a4, .string a5], .int .i64 r1, .string r2, .string r3, .int .i64 r4] W.drew fun e w'' => e = .returned (.agg FA) ∧ Below W.drew.heap.size W.drew w'') := HF _ (below_more B2 A0)
  clear HF N0 N1
  by_cases hle : a1 ≤ r1
  · have hd : decide (a1 ≤ r1) = true := decide_eq_true hle
    go_region_held3 (fun w' => (w'.cell? ⟨w.heap.size, 0, none⟩ = some (.int .i64 r0) ∧ w'.cell? ⟨w.heap.size, 1, none⟩ = some (.int .i64 r1) ∧ w'.cell? ⟨w.heap.size, 2, none⟩ = some (.string r2) ∧ w'.cell? ⟨w.heap.size, 3, none⟩ = some (.string r3) ∧ w'.cell? ⟨w.heap.size, 4, none⟩ = some (.int .i64 r4) ∧ w'.cell? ⟨w.heap.size, 5, none⟩ = some (.string r5)) ∧ (w'.cell? ⟨w.heap.size + 1, 0, none⟩ = some (.int .i64 a0) ∧ w'.cell? ⟨w.heap.size + 1, 1, none⟩ = some (.int .i64 a1) ∧ w'.cell? ⟨w.heap.size + 1, 2, none⟩ = some (.string a2) ∧ w'.cell? ⟨w.heap.size + 1, 3, none⟩ = some (.string a3) ∧ w'.cell? ⟨w.heap.size + 1, 4, none⟩ = some (.int .i64 a4) ∧ w'.cell? ⟨w.heap.size + 1, 5, none⟩ = some (.string a5)))
      (with_reducible first | exact HKS.out _ (Below.refl _ _) | exact HKS.out _ A0 | exact HKS.out _ A1 | assumption)
      (first
        | (go_at_call 45; refine HFD.out.mono ?_; rintro e w1 ⟨rfl, hb1⟩; have A1 := below_more A0 hb1)
        | fail)
    go_wp2
    go_ret
    refine ⟨?_, below_more B2 A1⟩
    rw [HB.out, hd]
    rfl
  · have hd : decide (a1 ≤ r1) = false := decide_eq_false hle
    go_quiet (fail)
    go_wp2
    go_ret
    refine ⟨?_, below_more B2 (drewN_below (Below.refl _ _) _)⟩
    rw [HB.out, hd]
    rfl
end Go.Proofs.YtoagaddciapmkaaDoor
