import Derived.Test.YtblnoekogdpolaaDoorJWit
import Derived.Laws.Externs
import Derived.Lib.FrozenHead2
namespace Go.Proofs.YtblnoekogdpolaaDoor
open Go.RowKit Go.WideShapes Go.Joins
def Wr (w : World) (NB : Nat) (xs : List Nat) : Prop := Lib.IsBuilderF 66 5 NB NB (Bs xs) w
structure WK (NB : Nat) (w w' : World) : Prop where
  below : Below NB w w'
  oth : Lib.OthersKept 5 (some NB) w w'
theorem WK.refl (NB : Nat) (w : World) : WK NB w w := ⟨Below.refl _ _, Lib.OthersKept.refl _ _ _⟩
theorem WK.trans {NB : Nat} {a b c : World} (h : WK NB a b) (k : WK NB b c) : WK NB a c := ⟨h.below.trans k.below, h.oth.trans k.oth⟩
theorem WK.drew {NB : Nat} {a b : World} (h : WK NB a b) : WK NB a b.drew := ⟨h.below.drew, h.oth.drew⟩
theorem WK.alloc {NB : Nat} {a b : World} (h : WK NB a b) (hN : NB ≤ b.heap.size) (o : Obj) : WK NB a (b.alloc o) := ⟨h.below.alloc hN o, h.oth.alloc o⟩
theorem WK.of_below {NB : Nat} {a b : World} (h : Below a.heap.size a b) (hN : NB ≤ a.heap.size) : WK NB a b :=
  ⟨h.mono hN, fun k _ hk _ _ => (h.block k (Array.getElem?_eq_some_iff.1 hk).1).trans hk⟩
theorem wr_below {a b : World} {NB : Nat} {xs : List Nat} (h : Wr a NB xs) (hb : Below a.heap.size a b) : Wr b NB xs := by
  have key : ∀ p, Lib.BuilderAtF 66 5 NB NB p (Bs xs) a → Lib.BuilderAtF 66 5 NB NB p (Bs xs) b := by
    intro p hp
    have hlt := hp.lt
    obtain ⟨hB, v, hbk, hown, hne⟩ := hp
    exact ⟨hB, v, (hb.block NB hlt).trans hbk, hown.kept (row := none) (grown_below hb none) (by cases hv : v.ownBlock <;> simp), hne⟩
  exact h.elim (fun x => .inl (key _ x)) (fun x => .inr (key _ x))
theorem Wr.lt {w : World} {NB : Nat} {xs : List Nat} (h : Wr w NB xs) : NB < w.heap.size := h.elim (fun x => x.lt) (fun x => x.lt)
theorem WK.box {NB g : Nat} {w w' : World} {C : Array Value} {t : TypeId} {fr : Nat × Nat} (h : WK NB w w') (hg : w.heap[g]? = some (.cells C t fr)) (hne : g ≠ NB) (ht : t ≠ 5) : w'.heap[g]? = some (.cells C t fr) :=
  h.oth g _ hg (fun e => hne (Option.some.inj e)) (fun c fz e => by cases e; exact ht rfl)
theorem bld_info : ∃ j, Tryd.prog.info? 64 = some j ∧ j.size ≠ 0 := by
  have h : ((Tryd.prog.info? 64).map fun j => decide (j.size ≠ 0)) = some true := by kernel_rfl
  obtain ⟨j, hj, hs⟩ := Option.map_eq_some_iff.1 h
  exact ⟨j, hj, of_decide_eq_true hs⟩
theorem wr_lies : liesAt Tryd.prog Tryd.prog.depth 66 (2 / Tryd.prog.cellsOf 66) 0 64 1 = true := by kernel_rfl
theorem u8_info : (Tryd.prog.info? 5).map (fun i => (i.zero, i.size, i.bytes)) = some (some (.int .u8 0), 1, 1) := by kernel_rfl
set_option maxHeartbeats 1000000 in
set_option maxRecDepth 100000 in
theorem checkW_used (b : Nat) (w : World) (h0 : w.cell? ⟨b, 0, none⟩ = some (.pointer (some ⟨b, 0, none⟩))) :
    Calls Tryd.prog 88 #[.pointer (some ⟨b, 0, none⟩)] w fun e w' => e = .returned (.tuple #[]) ∧ w' = w := by
  obtain ⟨j, hj, _⟩ := bld_info
  go_enter Tryd.func88, Tryd.ntmps88
  go_wp2
  rw [Lib.run_neq_ptr_same w _ Tryd.underlying61 hj]
  go_wp2
  go_end0
  exact ⟨rfl, rfl⟩
set_option maxHeartbeats 1000000 in
set_option maxRecDepth 100000 in
theorem checkW_fresh (b : Nat) (w : World) (h0 : w.cell? ⟨b, 0, none⟩ = some (.pointer none)) (hsh : w.shape? b = some (66, 2)) (hfz : w.frozen? ⟨b, 0, none⟩ = false) :
    Calls Tryd.prog 88 #[.pointer (some ⟨b, 0, none⟩)] w fun e w' => e = .returned (.tuple #[]) ∧ w' = w.setCell ⟨b, 0, none⟩ (.pointer (some ⟨b, 0, none⟩)) := by
  obtain ⟨j, hj, hjs⟩ := bld_info
  go_enter Tryd.func88, Tryd.ntmps88
  go_wp2
  rw [Lib.run_to_unsafe w ⟨b, 0, none⟩ Tryd.underlying61 Tryd.underlying124 hj hjs hsh (Nat.zero_lt_succ 1)]
  simp only [Result.andThen]
  rw [Oper.upon_value]
  go_wp2
  rw [run_callFunc_extern Tryd.func108 (by kernel_rfl) (by kernel_rfl) (by kernel_rfl) (e := Extern.AbiNoEscape.same) (by kernel_rfl)]
  rw [Lib.run_noEscape]
  simp only [Result.andThen]
  rw [Oper.upon_value]
  go_wp2
  rw [Lib.run_from_unsafe w ⟨b, 0, none⟩ Tryd.underlying124 Tryd.underlying61 hj hsh wr_lies]
  simp only [Result.andThen]
  rw [Oper.upon_value]
  go_wp2
  go_end0
  exact ⟨rfl, rfl⟩
theorem checkW_any (NB : Nat) (xs : List Nat) (w : World) (h : Wr w NB xs) :
    Calls Tryd.prog 88 #[.pointer (some ⟨NB, 0, none⟩)] w fun e w' => e = .returned (.tuple #[]) ∧ Lib.BuilderAtF 66 5 NB NB (.pointer (some ⟨NB, 0, none⟩)) (Bs xs) w' ∧ WK NB w w' := by
  rcases h with h | h
  · refine (checkW_fresh NB w h.cell0 h.shape h.frozen0).mono ?_
    rintro e w' ⟨rfl, rfl⟩
    exact ⟨rfl, h.used _, (Below.refl NB w).setCell (p := ⟨NB, 0, none⟩) (Nat.le_refl _) _, (Lib.OthersKept.refl _ _ w).setCell ⟨NB, 0, none⟩ rfl _⟩
  · refine (checkW_used NB w h.cell0).mono ?_
    rintro e w' ⟨rfl, rfl⟩
    exact ⟨rfl, h, WK.refl _ _⟩
theorem lt_of_heap {w : World} {g : Nat} {o : Obj} (h : w.heap[g]? = some o) : g < w.heap.size := (Array.getElem?_eq_some_iff.1 h).1
theorem wr_grown {NB : Nat} {v v' : Value} {ys zs : List Nat} {w0 w1 w2 : World} (hk : WK NB w0 w1) (hbk : w1.heap[NB]? = some (.cells #[.pointer (some ⟨NB, 0, none⟩), v] 66 (0, 0))) (hne : v.ownBlock ≠ some NB)
    (hown : w1.ownsRowF NB 5 1 v (Bs ys).length (Bs ys)) (hg : w1.grownBy w2 v.ownBlock) (ho : w2.ownsRowF NB 5 1 v' (Bs zs).length (Bs zs)) :
    w2.heap[NB]? = some (.cells #[.pointer (some ⟨NB, 0, none⟩), v] 66 (0, 0)) ∧ Wr (w2.setCell ⟨NB, 1, none⟩ v') NB zs ∧ WK NB w0 (w2.setCell ⟨NB, 1, none⟩ v') := by
  have hlt : NB < w1.heap.size := lt_of_heap hbk
  have hb2 : w2.heap[NB]? = some (.cells #[.pointer (some ⟨NB, 0, none⟩), v] 66 (0, 0)) := by
    rw [hg.block NB hlt (fun e => hne e.symm)]
    exact hbk
  refine ⟨hb2, .inr (Lib.BuilderAtF.put (Nat.le_refl _) hb2 ho (by decide)), ?_, ?_⟩
  · exact (hk.below.grown hg (by omega) (fun k hk' => (hown.lt k hk').1)).setCell (p := ⟨NB, 1, none⟩) (Nat.le_refl _) _
  · exact (hk.oth.grown hg (Lib.ownsRowF_kind hown)).setCell ⟨NB, 1, none⟩ rfl _
set_option maxHeartbeats 2000000 in
set_option maxRecDepth 100000 in
theorem byteW_any (w : World) (NB c : Nat) (xs : List Nat) (h : Wr w NB xs) (hl : xs.length ≤ 1000000) :
    Calls Tryd.prog 67 #[rp NB, .int .u8 (c : Int)] w fun e w' => e = .returned .nilIface ∧ Wr w' NB (xs ++ [c]) ∧ WK NB w w' := by
  obtain ⟨i0, hi, hz0, hz1, hz2⟩ := info_parts u8_info
  have HL : Hid (xs.length ≤ 1000000) := hl
  clear hl
  unfold rp
  go_enter Tryd.func67, Tryd.ntmps67
  go_wp2_with (go_at_call 88; refine (checkW_any NB xs _ h).mono ?_)
  rintro e w1 ⟨rfl, h1, hk1⟩
  obtain ⟨hB, v, hbk, hown, hne⟩ := h1
  have c0 : w1.cell? ⟨NB, 0, none⟩ = some (.pointer (some ⟨NB, 0, none⟩)) := by rw [Lib.cell_of_heap hbk]; rfl
  have c1 : w1.cell? ⟨NB, 1, none⟩ = some v := by rw [Lib.cell_of_heap hbk]; rfl
  go_wp2_with (at_builtin; refine wpList_append_ownF _ rfl _ _ 62 rfl NB 5 i0 (.int .u8 0) 1 1 Tryd.underlying62 hi hz0 hz1 hz2 rfl (by decide) _ _ _ rfl (hown.alloc _) ⟨w1.heap.size, 0, none⟩ 1 1 [.int .u8 (c : Int)] rfl rfl ?c1 ?c2 ?c3 ?c4 ?c5 ?_)
  case c1 =>
    intro j u hj
    match j, hj with
    | 0, hj => simp at hj; subst hj; simp [Addr.add]
  case c2 => intro u hu; simp at hu; subst hu; rfl
  case c3 => have := HL.out; rw [Bs_len]; unfold maxLen; omega
  case c4 => have := HL.out; rw [Bs_len]; omega
  case c5 => have := lt_of_heap hbk; simp; omega
  intro v' w2 hown' hgrow _
  have hbkA : (w1.alloc (.cells #[.int .u8 (c : Int)] 5)).heap[NB]? = some (.cells #[.pointer (some ⟨NB, 0, none⟩), v] 66 (0, 0)) := (Lib.alloc_old w1 _ NB (lt_of_heap hbk)).trans hbk
  have hown2 : w2.ownsRowF NB 5 1 v' (Bs (xs ++ [c])).length (Bs (xs ++ [c])) := by
    rw [Bs_app, bs_one, List.length_append]
    exact hown'
  obtain ⟨hb2, hnew, hkk⟩ := wr_grown (hk1.alloc (Nat.le_of_lt (lt_of_heap hbk)) _) hbkA hne (hown.alloc _) hgrow hown2
  have d0 : w2.cell? ⟨NB, 0, none⟩ = some (.pointer (some ⟨NB, 0, none⟩)) := by rw [Lib.cell_of_heap hb2]; rfl
  have d1 : w2.cell? ⟨NB, 1, none⟩ = some v := by rw [Lib.cell_of_heap hb2]; rfl
  have f1 : w2.frozen? ⟨NB, 1, none⟩ = false := Lib.frozen_of_heap hb2 1
  obtain ⟨ao, n', cap, rfl⟩ : ∃ ao n' cap, v' = .slice ao n' cap := by
    rcases hown'.2 with ⟨hv, _⟩ | ⟨g, cap, cur, fz, hv, _⟩
    · exact ⟨_, _, _, hv⟩
    · exact ⟨_, _, _, hv⟩
  have HN : Hid (Wr (w2.setCell ⟨NB, 1, none⟩ (.slice ao n' cap)) NB (xs ++ [c]) ∧ WK NB w (w2.setCell ⟨NB, 1, none⟩ (.slice ao n' cap))) := ⟨hnew, hkk⟩
  clear hnew hkk
  go_wp2
  go_ret
  exact ⟨rfl, HN.out⟩
set_option maxHeartbeats 2000000 in
set_option maxRecDepth 100000 in
theorem strW_any (w : World) (NB : Nat) (s : ByteArray) (xs : List Nat) (h : Wr w NB xs) (hl : xs.length ≤ 1000000) (hs : s.size ≤ 1000000) :
    Calls Tryd.prog 63 #[rp NB, .string s] w fun e w' => e = .returned (.tuple #[.int .i64 s.size, .nilIface]) ∧ Wr w' NB (xs ++ numsOf s) ∧ WK NB w w' := by
  obtain ⟨i0, hi, hz0, hz1, hz2⟩ := info_parts u8_info
  have HL : Hid (xs.length ≤ 1000000 ∧ s.size ≤ 1000000) := ⟨hl, hs⟩
  clear hl hs
  unfold rp
  go_enter Tryd.func63, Tryd.ntmps63
  go_wp2_with (go_at_call 88; refine (checkW_any NB xs _ h).mono ?_)
  rintro e w1 ⟨rfl, h1, hk1⟩
  obtain ⟨hB, v, hbk, hown, hne⟩ := h1
  have c0 : w1.cell? ⟨NB, 0, none⟩ = some (.pointer (some ⟨NB, 0, none⟩)) := by rw [Lib.cell_of_heap hbk]; rfl
  have c1 : w1.cell? ⟨NB, 1, none⟩ = some v := by rw [Lib.cell_of_heap hbk]; rfl
  go_wp2_with (at_builtin; refine Lib.wpList_append_own_stringF _ rfl _ _ 62 9 rfl NB 5 i0 Tryd.underlying62 Tryd.underlying9 hi hz0 hz1 hz2 _ _ _ rfl hown s rfl ?c3 ?c4 ?c5 ?_)
  case c3 => have := HL.out; rw [Bs_len]; unfold maxLen; omega
  case c4 => have := HL.out; rw [Bs_len]; omega
  case c5 => have := lt_of_heap hbk; omega
  intro v' w2 hown' hgrow _
  have hown2 : w2.ownsRowF NB 5 1 v' (Bs (xs ++ numsOf s)).length (Bs (xs ++ numsOf s)) := by
    rw [Bs_app, ← strCells_Bs, List.length_append, Lib.strCells_length]
    exact hown'
  obtain ⟨hb2, hnew, hkk⟩ := wr_grown hk1 hbk hne hown hgrow hown2
  have d0 : w2.cell? ⟨NB, 0, none⟩ = some (.pointer (some ⟨NB, 0, none⟩)) := by rw [Lib.cell_of_heap hb2]; rfl
  have d1 : w2.cell? ⟨NB, 1, none⟩ = some v := by rw [Lib.cell_of_heap hb2]; rfl
  have f1 : w2.frozen? ⟨NB, 1, none⟩ = false := Lib.frozen_of_heap hb2 1
  obtain ⟨ao, n', cap, rfl⟩ : ∃ ao n' cap, v' = .slice ao n' cap := by
    rcases hown'.2 with ⟨hv, _⟩ | ⟨g, cap, cur, fz, hv, _⟩
    · exact ⟨_, _, _, hv⟩
    · exact ⟨_, _, _, hv⟩
  have HN : Hid (Wr (w2.setCell ⟨NB, 1, none⟩ (.slice ao n' cap)) NB (xs ++ numsOf s) ∧ WK NB w (w2.setCell ⟨NB, 1, none⟩ (.slice ao n' cap))) := ⟨hnew, hkk⟩
  clear hnew hkk
  go_wp2
  go_ret2
  exact ⟨rfl, HN.out⟩
theorem lenW_any (w : World) (NB : Nat) (xs : List Nat) (h : Wr w NB xs) :
    Calls Tryd.prog 69 #[rp NB] w fun e w' => e = .returned (.int .i64 (xs.length : Int)) ∧ w' = w := by
  obtain ⟨p, v, hbk, hown⟩ : ∃ p v, w.heap[NB]? = some (.cells #[p, v] 66 (0, 0)) ∧ w.ownsRowF NB 5 1 v (Bs xs).length (Bs xs) := by
    rcases h with ⟨_, v, h1, h2, _⟩ | ⟨_, v, h1, h2, _⟩
    · exact ⟨_, v, h1, h2⟩
    · exact ⟨_, v, h1, h2⟩
  rw [Bs_len] at hown
  obtain ⟨ao, cap, rfl⟩ : ∃ ao cap, v = .slice ao xs.length cap := by
    rcases hown.2 with ⟨hv, h0⟩ | ⟨g, cap, cur, fz, hv, _⟩
    · exact ⟨none, 0, by rw [hv, h0]⟩
    · exact ⟨_, _, hv⟩
  have c1 : w.cell? ⟨NB, 1, none⟩ = some (.slice ao xs.length cap) := by rw [Lib.cell_of_heap hbk]; rfl
  clear hown h hbk
  unfold rp
  go_enter Tryd.func69, Tryd.ntmps69
  go_wp2
  go_ret
  exact ⟨rfl, rfl⟩
theorem longW_any (w : World) (NB : Nat) (xs : List Nat) (h : Wr w NB xs) :
    Calls Tryd.prog 34 #[rp NB] w fun e w' => e = .returned (.bool (decide (16384 < xs.length))) ∧ w' = w := by
  have L := lenW_any w NB xs h
  obtain ⟨N, hN⟩ : ∃ N : Int, (xs.length : Int) = N := ⟨_, rfl⟩
  have e1 : decide (16384 < xs.length) = decide (16384 < N) := by
    by_cases hh : 16384 < xs.length
    · rw [decide_eq_true hh, decide_eq_true (by omega)]
    · rw [decide_eq_false hh, decide_eq_false (by omega)]
  rw [e1]
  rw [hN] at L
  unfold rp at L ⊢
  clear h hN e1
  go_enter Tryd.func34, Tryd.ntmps34
  go_wp2_with (go_at_call 69; refine L.mono ?_; rintro e w1 ⟨rfl, hw1⟩; rw [hw1])
  go_ret
  exact ⟨rfl, rfl⟩
theorem bytesW {xs : List Nat} (h : ∀ c ∈ xs, c < 256) : Lib.byteCells (xs.map UInt8.ofNat) = Bs xs := by
  unfold Lib.byteCells Bs
  rw [List.map_map]
  apply List.map_congr_left
  intro c hc
  simp [Nat.mod_eq_of_lt (h c hc)]
set_option maxHeartbeats 1000000 in
set_option maxRecDepth 100000 in
theorem textW_any (w : World) (NB : Nat) (xs : List Nat) (h : Wr w NB xs) (hx : ∀ c ∈ xs, c < 256) (h0 : xs ≠ []) :
    Calls Tryd.prog 35 #[rp NB] w fun e w' => e = .returned (.string (strOf xs)) ∧ Below NB w w' := by
  obtain ⟨l, hl⟩ : ∃ l, l = xs.map UInt8.ofNat := ⟨_, rfl⟩
  have hcl : Bs xs = Lib.byteCells l := by rw [hl]; exact (bytesW hx).symm
  have hne0 : l ≠ [] := by rw [hl]; simpa using h0
  have hlen : xs.length = l.length := by rw [hl, List.length_map]
  have hstr : strOf xs = ⟨l.toArray⟩ := by apply bytes_inj; rw [strOf_list, hl]
  obtain ⟨p, v, hbk, hown⟩ : ∃ p v, w.heap[NB]? = some (.cells #[p, v] 66 (0, 0)) ∧ w.ownsRowF NB 5 1 v (Bs xs).length (Bs xs) := by
    rcases h with ⟨_, v, h1, h2, _⟩ | ⟨_, v, h1, h2, _⟩
    · exact ⟨_, v, h1, h2⟩
    · exact ⟨_, v, h1, h2⟩
  rw [Bs_len, hlen, hcl] at hown
  rw [hstr]
  have hl0 : l.length ≠ 0 := by simpa using hne0
  obtain ⟨g, cap, cur, fz, rfl, hbg, hg, hfz, hnc, hcm, hcs, htake⟩ : ∃ g cap cur fz, v = .slice (some ⟨g, 0, none⟩) l.length cap ∧ NB ≤ g ∧ w.heap[g]? = some (.cells cur 5 fz) ∧ fz.2 ≤ l.length * 1 ∧ l.length ≤ cap ∧ cap ≤ maxLen ∧ cur.size = cap * 1 ∧ cur.toList.take (l.length * 1) = Lib.byteCells l := by
    rcases hown.2 with ⟨_, hz⟩ | ⟨g, cap, cur, fz, hv, r⟩
    · exact absurd hz hl0
    · exact ⟨g, cap, cur, fz, hv, r⟩
  have c1 : w.drew.cell? ⟨NB, 1, none⟩ = some (.slice (some ⟨g, 0, none⟩) l.length cap) := by
    have : w.drew.heap[NB]? = some (.cells #[p, .slice (some ⟨g, 0, none⟩) l.length cap] 66 (0, 0)) := hbk
    rw [Lib.cell_of_heap this]; rfl
  have hSD : (Builtin.unsafeSliceData_ #[62] 96 #[.slice (some ⟨g, 0, none⟩) l.length cap]).run Tryd.prog w.drew = .ok (.pointer (some ⟨g, 0, none⟩)) w.drew :=
    Lib.run_unsafeSliceData_row _ _ _ _ _ _ (by omega)
  have hUS : (Builtin.unsafeString_ #[96, 3] 9 #[.pointer (some ⟨g, 0, none⟩), .int .i64 l.length]).run Tryd.prog w.drew = .ok (.string ⟨l.toArray⟩) (w.drew.freeze ⟨g, 0, none⟩ l.length) := by
    refine Lib.run_unsafeString_row w.drew 96 3 9 5 Tryd.underlying96 (by kernel_rfl) g cur.size (by have hg' : w.drew.heap[g]? = some (.cells cur 5 fz) := hg; simp [World.shape?, hg']) l hne0 (by omega) (by unfold maxLen at hcm; omega) ?_
    intro j x hx
    exact hown.cells (g := g) rfl j (.int .u8 x.toNat) (by simp [Lib.byteCells, hx])
  have HB : Hid (Below NB w (w.drew.freeze ⟨g, 0, none⟩ l.length)) := Lib.below_freeze (Below.drew (Below.refl NB w)) (p := ⟨g, 0, none⟩) hbg _
  clear hown hbk htake hcs hcm hnc hfz hg hstr hcl hlen hl h hx h0 hne0 hl0 hbg
  unfold rp
  go_enter Tryd.func35, Tryd.ntmps35
  go_wp2
  go_region
  all_goals (go_wp2; go_ret; exact ⟨rfl, HB.out⟩)
end Go.Proofs.YtblnoekogdpolaaDoor
