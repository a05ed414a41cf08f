/-
  The writer: bytes of a text, texts. Written by tools/gen_jwc.py.
-/
import Derived.Test.YtcfalgomcdmdhaaGreatDoorJEsc
import Derived.Laws.Externs
import Derived.Lib.FrozenHead2
import Derived.Test.YtcfalgomcdmdhaaGreatDoorJChar
import Derived.Deep.RegionWith
namespace Go.Proofs.YtcfalgomcdmdhaaGreatDoor
open Go.RowKit Go.WideShapes Go.Joins

/-- A writer holds these bytes. -/
def Wr (w : World) (NB : Nat) (xs : List Nat) : Prop := Lib.IsBuilderF 56 5 NB NB (Bs xs) w
/-- What is neither the writer's nor a row of bytes stays; nothing below it turns. -/
structure WK (NB : Nat) (w w' : World) : Prop where
  below : Below NB w w'
  oth : Lib.OthersKept 5 (some NB) w w'
theorem WK.refl (NB : Nat) (w : World) : WK NB w w := ⟨Below.refl _ _, Lib.OthersKept.refl _ _ _⟩
theorem WK.trans {NB : Nat} {a b c : World} (h : WK NB a b) (k : WK NB b c) : WK NB a c := ⟨h.below.trans k.below, h.oth.trans k.oth⟩
theorem WK.drew {NB : Nat} {a b : World} (h : WK NB a b) : WK NB a b.drew := ⟨h.below.drew, h.oth.drew⟩
theorem WK.alloc {NB : Nat} {a b : World} (h : WK NB a b) (hN : NB ≤ b.heap.size) (o : Obj) : WK NB a (b.alloc o) := ⟨h.below.alloc hN o, h.oth.alloc o⟩
theorem WK.of_below {NB : Nat} {a b : World} (h : Below a.heap.size a b) (hN : NB ≤ a.heap.size) : WK NB a b :=
  ⟨h.mono hN, fun k _ hk _ _ => (h.block k (Array.getElem?_eq_some_iff.1 hk).1).trans hk⟩
theorem wr_below {a b : World} {NB : Nat} {xs : List Nat} (h : Wr a NB xs) (hb : Below a.heap.size a b) : Wr b NB xs := by
  have key : ∀ p, Lib.BuilderAtF 56 5 NB NB p (Bs xs) a → Lib.BuilderAtF 56 5 NB NB p (Bs xs) b := by
    intro p hp
    have hlt := hp.lt
    obtain ⟨hB, v, hbk, hown, hne⟩ := hp
    exact ⟨hB, v, (hb.block NB hlt).trans hbk, hown.kept (row := none) (grown_below hb none) (by cases hv : v.ownBlock <;> simp), hne⟩
  exact h.elim (fun x => .inl (key _ x)) (fun x => .inr (key _ x))
theorem Wr.lt {w : World} {NB : Nat} {xs : List Nat} (h : Wr w NB xs) : NB < w.heap.size := h.elim (fun x => x.lt) (fun x => x.lt)
/-- a box above the writer stays -/
theorem WK.box {NB g : Nat} {w w' : World} {C : Array Value} {t : TypeId} {fr : Nat × Nat} (h : WK NB w w') (hg : w.heap[g]? = some (.cells C t fr)) (hne : g ≠ NB) (ht : t ≠ 5) : w'.heap[g]? = some (.cells C t fr) :=
  h.oth g _ hg (fun e => hne (Option.some.inj e)) (fun c fz e => by cases e; exact ht rfl)
theorem bld_info : ∃ j, Tryz.prog.info? 54 = some j ∧ j.size ≠ 0 := by
  have h : ((Tryz.prog.info? 54).map fun j => decide (j.size ≠ 0)) = some true := by kernel_rfl
  obtain ⟨j, hj, hs⟩ := Option.map_eq_some_iff.1 h
  exact ⟨j, hj, of_decide_eq_true hs⟩
theorem wr_lies : liesAt Tryz.prog Tryz.prog.depth 56 (2 / Tryz.prog.cellsOf 56) 0 54 1 = true := by kernel_rfl
theorem u8_info : (Tryz.prog.info? 5).map (fun i => (i.zero, i.size, i.bytes)) = some (some (.int .u8 0), 1, 1) := by kernel_rfl
set_option maxHeartbeats 1000000 in
set_option maxRecDepth 100000 in
theorem checkW_used (b : Nat) (w : World) (h0 : w.cell? ⟨b, 0, none⟩ = some (.pointer (some ⟨b, 0, none⟩))) :
    Calls Tryz.prog 59 #[.pointer (some ⟨b, 0, none⟩)] w fun e w' => e = .returned (.tuple #[]) ∧ w' = w := by
  obtain ⟨j, hj, _⟩ := bld_info
  go_enter Tryz.func59, Tryz.ntmps59
  go_wp2
  rw [Lib.run_neq_ptr_same w _ Tryz.underlying51 hj]
  go_wp2
  go_end0
  exact ⟨rfl, rfl⟩
set_option maxHeartbeats 1000000 in
set_option maxRecDepth 100000 in
theorem checkW_fresh (b : Nat) (w : World) (h0 : w.cell? ⟨b, 0, none⟩ = some (.pointer none)) (hsh : w.shape? b = some (56, 2)) (hfz : w.frozen? ⟨b, 0, none⟩ = false) :
    Calls Tryz.prog 59 #[.pointer (some ⟨b, 0, none⟩)] w fun e w' => e = .returned (.tuple #[]) ∧ w' = w.setCell ⟨b, 0, none⟩ (.pointer (some ⟨b, 0, none⟩)) := by
  obtain ⟨j, hj, hjs⟩ := bld_info
  go_enter Tryz.func59, Tryz.ntmps59
  go_wp2
  rw [Lib.run_to_unsafe w ⟨b, 0, none⟩ Tryz.underlying51 Tryz.underlying104 hj hjs hsh (Nat.zero_lt_succ 1)]
  simp only [Result.andThen]
  rw [Oper.upon_value]
  go_wp2
  rw [run_callFunc_extern Tryz.func71 (by kernel_rfl) (by kernel_rfl) (by kernel_rfl) (e := Extern.AbiNoEscape.same) (by kernel_rfl)]
  rw [Lib.run_noEscape]
  simp only [Result.andThen]
  rw [Oper.upon_value]
  go_wp2
  rw [Lib.run_from_unsafe w ⟨b, 0, none⟩ Tryz.underlying104 Tryz.underlying51 hj hsh wr_lies]
  simp only [Result.andThen]
  rw [Oper.upon_value]
  go_wp2
  go_end0
  exact ⟨rfl, rfl⟩
theorem checkW_any (NB : Nat) (xs : List Nat) (w : World) (h : Wr w NB xs) :
    Calls Tryz.prog 59 #[.pointer (some ⟨NB, 0, none⟩)] w fun e w' => e = .returned (.tuple #[]) ∧ Lib.BuilderAtF 56 5 NB NB (.pointer (some ⟨NB, 0, none⟩)) (Bs xs) w' ∧ WK NB w w' := by
  rcases h with h | h
  · refine (checkW_fresh NB w h.cell0 h.shape h.frozen0).mono ?_
    rintro e w' ⟨rfl, rfl⟩
    exact ⟨rfl, h.used _, (Below.refl NB w).setCell (p := ⟨NB, 0, none⟩) (Nat.le_refl _) _, (Lib.OthersKept.refl _ _ w).setCell ⟨NB, 0, none⟩ rfl _⟩
  · refine (checkW_used NB w h.cell0).mono ?_
    rintro e w' ⟨rfl, rfl⟩
    exact ⟨rfl, h, WK.refl _ _⟩
theorem lt_of_heap {w : World} {g : Nat} {o : Obj} (h : w.heap[g]? = some o) : g < w.heap.size := (Array.getElem?_eq_some_iff.1 h).1
/-- what an append to the writer's row leaves -/
theorem wr_grown {NB : Nat} {v v' : Value} {ys zs : List Nat} {w0 w1 w2 : World} (hk : WK NB w0 w1) (hbk : w1.heap[NB]? = some (.cells #[.pointer (some ⟨NB, 0, none⟩), v] 56 (0, 0))) (hne : v.ownBlock ≠ some NB)
    (hown : w1.ownsRowF NB 5 1 v (Bs ys).length (Bs ys)) (hg : w1.grownBy w2 v.ownBlock) (ho : w2.ownsRowF NB 5 1 v' (Bs zs).length (Bs zs)) :
    w2.heap[NB]? = some (.cells #[.pointer (some ⟨NB, 0, none⟩), v] 56 (0, 0)) ∧ Wr (w2.setCell ⟨NB, 1, none⟩ v') NB zs ∧ WK NB w0 (w2.setCell ⟨NB, 1, none⟩ v') := by
  have hlt : NB < w1.heap.size := lt_of_heap hbk
  have hb2 : w2.heap[NB]? = some (.cells #[.pointer (some ⟨NB, 0, none⟩), v] 56 (0, 0)) := by
    rw [hg.block NB hlt (fun e => hne e.symm)]
    exact hbk
  refine ⟨hb2, .inr (Lib.BuilderAtF.put (Nat.le_refl _) hb2 ho (by decide)), ?_, ?_⟩
  · exact (hk.below.grown hg (by omega) (fun k hk' => (hown.lt k hk').1)).setCell (p := ⟨NB, 1, none⟩) (Nat.le_refl _) _
  · exact (hk.oth.grown hg (Lib.ownsRowF_kind hown)).setCell ⟨NB, 1, none⟩ rfl _
set_option maxHeartbeats 2000000 in
set_option maxRecDepth 100000 in
theorem byteW_any (w : World) (NB c : Nat) (xs : List Nat) (h : Wr w NB xs) (hl : xs.length ≤ 1000000) :
    Calls Tryz.prog 46 #[rp NB, .int .u8 (c : Int)] w fun e w' => e = .returned .nilIface ∧ Wr w' NB (xs ++ [c]) ∧ WK NB w w' := by
  obtain ⟨i0, hi, hz0, hz1, hz2⟩ := info_parts u8_info
  have HL : Hid (xs.length ≤ 1000000) := hl
  clear hl
  unfold rp
  go_enter Tryz.func46, Tryz.ntmps46
  go_wp2_with (go_at_call 59; refine (checkW_any NB xs _ h).mono ?_)
  rintro e w1 ⟨rfl, h1, hk1⟩
  obtain ⟨hB, v, hbk, hown, hne⟩ := h1
  have c0 : w1.cell? ⟨NB, 0, none⟩ = some (.pointer (some ⟨NB, 0, none⟩)) := by rw [Lib.cell_of_heap hbk]; rfl
  have c1 : w1.cell? ⟨NB, 1, none⟩ = some v := by rw [Lib.cell_of_heap hbk]; rfl
  go_wp2_with (at_builtin; refine wpList_append_ownF _ rfl _ _ 52 rfl NB 5 i0 (.int .u8 0) 1 1 Tryz.underlying52 hi hz0 hz1 hz2 rfl (by decide) _ _ _ rfl (hown.alloc _) ⟨w1.heap.size, 0, none⟩ 1 1 [.int .u8 (c : Int)] rfl rfl ?c1 ?c2 ?c3 ?c4 ?c5 ?_)
  case c1 =>
    intro j u hj
    match j, hj with
    | 0, hj => simp at hj; subst hj; simp [Addr.add]
  case c2 => intro u hu; simp at hu; subst hu; rfl
  case c3 => have := HL.out; rw [Bs_len]; unfold maxLen; omega
  case c4 => have := HL.out; rw [Bs_len]; omega
  case c5 => have := lt_of_heap hbk; simp; omega
  intro v' w2 hown' hgrow _
  have hbkA : (w1.alloc (.cells #[.int .u8 (c : Int)] 5)).heap[NB]? = some (.cells #[.pointer (some ⟨NB, 0, none⟩), v] 56 (0, 0)) := (Lib.alloc_old w1 _ NB (lt_of_heap hbk)).trans hbk
  have hown2 : w2.ownsRowF NB 5 1 v' (Bs (xs ++ [c])).length (Bs (xs ++ [c])) := by
    rw [Bs_app, bs_one, List.length_append]
    exact hown'
  obtain ⟨hb2, hnew, hkk⟩ := wr_grown (hk1.alloc (Nat.le_of_lt (lt_of_heap hbk)) _) hbkA hne (hown.alloc _) hgrow hown2
  have d0 : w2.cell? ⟨NB, 0, none⟩ = some (.pointer (some ⟨NB, 0, none⟩)) := by rw [Lib.cell_of_heap hb2]; rfl
  have d1 : w2.cell? ⟨NB, 1, none⟩ = some v := by rw [Lib.cell_of_heap hb2]; rfl
  have f1 : w2.frozen? ⟨NB, 1, none⟩ = false := Lib.frozen_of_heap hb2 1
  obtain ⟨ao, n', cap, rfl⟩ : ∃ ao n' cap, v' = .slice ao n' cap := by
    rcases hown'.2 with ⟨hv, _⟩ | ⟨g, cap, cur, fz, hv, _⟩
    · exact ⟨_, _, _, hv⟩
    · exact ⟨_, _, _, hv⟩
  have HN : Hid (Wr (w2.setCell ⟨NB, 1, none⟩ (.slice ao n' cap)) NB (xs ++ [c]) ∧ WK NB w (w2.setCell ⟨NB, 1, none⟩ (.slice ao n' cap))) := ⟨hnew, hkk⟩
  clear hnew hkk
  go_wp2
  go_ret
  exact ⟨rfl, HN.out⟩
set_option maxHeartbeats 2000000 in
set_option maxRecDepth 100000 in
theorem strW_any (w : World) (NB : Nat) (s : ByteArray) (xs : List Nat) (h : Wr w NB xs) (hl : xs.length ≤ 1000000) (hs : s.size ≤ 1000000) :
    Calls Tryz.prog 42 #[rp NB, .string s] w fun e w' => e = .returned (.tuple #[.int .i64 s.size, .nilIface]) ∧ Wr w' NB (xs ++ numsOf s) ∧ WK NB w w' := by
  obtain ⟨i0, hi, hz0, hz1, hz2⟩ := info_parts u8_info
  have HL : Hid (xs.length ≤ 1000000 ∧ s.size ≤ 1000000) := ⟨hl, hs⟩
  clear hl hs
  unfold rp
  go_enter Tryz.func42, Tryz.ntmps42
  go_wp2_with (go_at_call 59; refine (checkW_any NB xs _ h).mono ?_)
  rintro e w1 ⟨rfl, h1, hk1⟩
  obtain ⟨hB, v, hbk, hown, hne⟩ := h1
  have c0 : w1.cell? ⟨NB, 0, none⟩ = some (.pointer (some ⟨NB, 0, none⟩)) := by rw [Lib.cell_of_heap hbk]; rfl
  have c1 : w1.cell? ⟨NB, 1, none⟩ = some v := by rw [Lib.cell_of_heap hbk]; rfl
  go_wp2_with (at_builtin; refine Lib.wpList_append_own_stringF _ rfl _ _ 52 9 rfl NB 5 i0 Tryz.underlying52 Tryz.underlying9 hi hz0 hz1 hz2 _ _ _ rfl hown s rfl ?c3 ?c4 ?c5 ?_)
  case c3 => have := HL.out; rw [Bs_len]; unfold maxLen; omega
  case c4 => have := HL.out; rw [Bs_len]; omega
  case c5 => have := lt_of_heap hbk; omega
  intro v' w2 hown' hgrow _
  have hown2 : w2.ownsRowF NB 5 1 v' (Bs (xs ++ numsOf s)).length (Bs (xs ++ numsOf s)) := by
    rw [Bs_app, ← strCells_Bs, List.length_append, Lib.strCells_length]
    exact hown'
  obtain ⟨hb2, hnew, hkk⟩ := wr_grown hk1 hbk hne hown hgrow hown2
  have d0 : w2.cell? ⟨NB, 0, none⟩ = some (.pointer (some ⟨NB, 0, none⟩)) := by rw [Lib.cell_of_heap hb2]; rfl
  have d1 : w2.cell? ⟨NB, 1, none⟩ = some v := by rw [Lib.cell_of_heap hb2]; rfl
  have f1 : w2.frozen? ⟨NB, 1, none⟩ = false := Lib.frozen_of_heap hb2 1
  obtain ⟨ao, n', cap, rfl⟩ : ∃ ao n' cap, v' = .slice ao n' cap := by
    rcases hown'.2 with ⟨hv, _⟩ | ⟨g, cap, cur, fz, hv, _⟩
    · exact ⟨_, _, _, hv⟩
    · exact ⟨_, _, _, hv⟩
  have HN : Hid (Wr (w2.setCell ⟨NB, 1, none⟩ (.slice ao n' cap)) NB (xs ++ numsOf s) ∧ WK NB w (w2.setCell ⟨NB, 1, none⟩ (.slice ao n' cap))) := ⟨hnew, hkk⟩
  clear hnew hkk
  go_wp2
  go_ret2
  exact ⟨rfl, HN.out⟩
theorem lenW_any (w : World) (NB : Nat) (xs : List Nat) (h : Wr w NB xs) :
    Calls Tryz.prog 48 #[rp NB] w fun e w' => e = .returned (.int .i64 (xs.length : Int)) ∧ w' = w := by
  obtain ⟨p, v, hbk, hown⟩ : ∃ p v, w.heap[NB]? = some (.cells #[p, v] 56 (0, 0)) ∧ w.ownsRowF NB 5 1 v (Bs xs).length (Bs xs) := by
    rcases h with ⟨_, v, h1, h2, _⟩ | ⟨_, v, h1, h2, _⟩
    · exact ⟨_, v, h1, h2⟩
    · exact ⟨_, v, h1, h2⟩
  rw [Bs_len] at hown
  obtain ⟨ao, cap, rfl⟩ : ∃ ao cap, v = .slice ao xs.length cap := by
    rcases hown.2 with ⟨hv, h0⟩ | ⟨g, cap, cur, fz, hv, _⟩
    · exact ⟨none, 0, by rw [hv, h0]⟩
    · exact ⟨_, _, hv⟩
  have c1 : w.cell? ⟨NB, 1, none⟩ = some (.slice ao xs.length cap) := by rw [Lib.cell_of_heap hbk]; rfl
  clear hown h hbk
  unfold rp
  go_enter Tryz.func48, Tryz.ntmps48
  go_wp2
  go_ret
  exact ⟨rfl, rfl⟩
theorem longW_any (w : World) (NB : Nat) (xs : List Nat) (h : Wr w NB xs) :
    Calls Tryz.prog 22 #[rp NB] w fun e w' => e = .returned (.bool (decide (16384 < xs.length))) ∧ w' = w := by
  have L := lenW_any w NB xs h
  obtain ⟨N, hN⟩ : ∃ N : Int, (xs.length : Int) = N := ⟨_, rfl⟩
  have e1 : decide (16384 < xs.length) = decide (16384 < N) := by
    by_cases hh : 16384 < xs.length
    · rw [decide_eq_true hh, decide_eq_true (by omega)]
    · rw [decide_eq_false hh, decide_eq_false (by omega)]
  rw [e1]
  rw [hN] at L
  unfold rp at L ⊢
  clear h hN e1
  go_enter Tryz.func22, Tryz.ntmps22
  go_wp2_with (go_at_call 48; refine L.mono ?_; rintro e w1 ⟨rfl, hw1⟩; rw [hw1])
  go_ret
  exact ⟨rfl, rfl⟩
theorem bytesW {xs : List Nat} (h : ∀ c ∈ xs, c < 256) : Lib.byteCells (xs.map UInt8.ofNat) = Bs xs := by
  unfold Lib.byteCells Bs
  rw [List.map_map]
  apply List.map_congr_left
  intro c hc
  simp [Nat.mod_eq_of_lt (h c hc)]
set_option maxHeartbeats 1000000 in
set_option maxRecDepth 100000 in
/-- the text that a writer holds: one byte at least -/
theorem textW_any (w : World) (NB : Nat) (xs : List Nat) (h : Wr w NB xs) (hx : ∀ c ∈ xs, c < 256) (h0 : xs ≠ []) :
    Calls Tryz.prog 23 #[rp NB] w fun e w' => e = .returned (.string (strOf xs)) ∧ Below NB w w' := by
  obtain ⟨l, hl⟩ : ∃ l, l = xs.map UInt8.ofNat := ⟨_, rfl⟩
  have hcl : Bs xs = Lib.byteCells l := by rw [hl]; exact (bytesW hx).symm
  have hne0 : l ≠ [] := by rw [hl]; simpa using h0
  have hlen : xs.length = l.length := by rw [hl, List.length_map]
  have hstr : strOf xs = ⟨l.toArray⟩ := by apply bytes_inj; rw [strOf_list, hl]
  obtain ⟨p, v, hbk, hown⟩ : ∃ p v, w.heap[NB]? = some (.cells #[p, v] 56 (0, 0)) ∧ w.ownsRowF NB 5 1 v (Bs xs).length (Bs xs) := by
    rcases h with ⟨_, v, h1, h2, _⟩ | ⟨_, v, h1, h2, _⟩
    · exact ⟨_, v, h1, h2⟩
    · exact ⟨_, v, h1, h2⟩
  rw [Bs_len, hlen, hcl] at hown
  rw [hstr]
  have hl0 : l.length ≠ 0 := by simpa using hne0
  obtain ⟨g, cap, cur, fz, rfl, hbg, hg, hfz, hnc, hcm, hcs, htake⟩ : ∃ g cap cur fz, v = .slice (some ⟨g, 0, none⟩) l.length cap ∧ NB ≤ g ∧ w.heap[g]? = some (.cells cur 5 fz) ∧ fz.2 ≤ l.length * 1 ∧ l.length ≤ cap ∧ cap ≤ maxLen ∧ cur.size = cap * 1 ∧ cur.toList.take (l.length * 1) = Lib.byteCells l := by
    rcases hown.2 with ⟨_, hz⟩ | ⟨g, cap, cur, fz, hv, r⟩
    · exact absurd hz hl0
    · exact ⟨g, cap, cur, fz, hv, r⟩
  have c1 : w.drew.cell? ⟨NB, 1, none⟩ = some (.slice (some ⟨g, 0, none⟩) l.length cap) := by
    have : w.drew.heap[NB]? = some (.cells #[p, .slice (some ⟨g, 0, none⟩) l.length cap] 56 (0, 0)) := hbk
    rw [Lib.cell_of_heap this]; rfl
  have hSD : (Builtin.unsafeSliceData_ #[52] 80 #[.slice (some ⟨g, 0, none⟩) l.length cap]).run Tryz.prog w.drew = .ok (.pointer (some ⟨g, 0, none⟩)) w.drew :=
    Lib.run_unsafeSliceData_row _ _ _ _ _ _ (by omega)
  have hUS : (Builtin.unsafeString_ #[80, 3] 9 #[.pointer (some ⟨g, 0, none⟩), .int .i64 l.length]).run Tryz.prog w.drew = .ok (.string ⟨l.toArray⟩) (w.drew.freeze ⟨g, 0, none⟩ l.length) := by
    refine Lib.run_unsafeString_row w.drew 80 3 9 5 Tryz.underlying80 (by kernel_rfl) g cur.size (by have hg' : w.drew.heap[g]? = some (.cells cur 5 fz) := hg; simp [World.shape?, hg']) l hne0 (by omega) (by unfold maxLen at hcm; omega) ?_
    intro j x hx
    exact hown.cells (g := g) rfl j (.int .u8 x.toNat) (by simp [Lib.byteCells, hx])
  have HB : Hid (Below NB w (w.drew.freeze ⟨g, 0, none⟩ l.length)) := Lib.below_freeze (Below.drew (Below.refl NB w)) (p := ⟨g, 0, none⟩) hbg _
  clear hown hbk htake hcs hcm hnc hfz hg hstr hcl hlen hl h hx h0 hne0 hl0 hbg
  unfold rp
  go_enter Tryz.func23, Tryz.ntmps23
  go_wp2
  go_region
  all_goals (go_wp2; go_ret; exact ⟨rfl, HB.out⟩)
end Go.Proofs.YtcfalgomcdmdhaaGreatDoor
namespace Go.Proofs.YtcfalgomcdmdhaaGreatDoor
open Go.RowKit Go.WideShapes Go.Joins

/-- what a writing call leaves -/
structure PutP (NB : Nat) (xs ys : List Nat) (w : World) (e : Ending) (w' : World) : Prop where
  ex : e = .returned (.tuple #[]) ∧ Wr w' NB (xs ++ ys) ∧ WK NB w w'
theorem str_atU (s : ByteArray) (k : Nat) (h : k < s.size) (w : World) : (Instr.index 9 (.string s) (.int .u8 (k : Int))).run Tryz.prog w = .ok (.int .u8 ((numsOf s).getD k 0 : Nat)) w := by
  rw [run_index_string w 9 s .u8 k Tryz.underlying9, dif_pos ⟨by omega, by omega⟩]
  have h2 : k < (numsOf s).length := by rw [numsOf_len]; exact h
  rw [List.getD_eq_getElem?_getD, List.getElem?_eq_getElem h2]
  simp [numsOf, ByteArray.getElem_eq_getElem_data]
def sixS : ByteArray := ⟨#[48, 49, 50, 51, 52, 53, 54, 55, 56, 57, 97, 98, 99, 100, 101, 102]⟩
theorem six_at (k : Nat) (h : k < 16) : (numsOf sixS).getD k 0 = J.hexC k := by
  have : ∀ k : Fin 16, (numsOf sixS).getD k.val 0 = J.hexC k.val := by decide
  exact this ⟨k, h⟩
theorem bset (c k : Nat) (h : c ≠ k) : ((c : Int) == (k : Int)) = false := by simpa using fun e : (c : Int) = (k : Int) => h (by omega)
theorem seqW {NB : Nat} {xs ys zs : List Nat} {w w' : World} (k : Wr w' NB (xs ++ ys ++ zs)) (hk : WK NB w w') {es : List Nat} (he : es = ys ++ zs) : PutP NB xs es w (.returned (.tuple #[])) w' := by
  subst he
  exact ⟨rfl, by rw [← List.append_assoc]; exact k, hk⟩
set_option maxHeartbeats 2000000 in
set_option maxRecDepth 8000 in
theorem charW_any (w : World) (NB c : Nat) (hc : c < 256) (xs : List Nat) (h : Wr w NB xs) (hl : xs.length ≤ 900000) :
    Calls Tryz.prog 62 #[rp NB, .int .u8 (c : Int)] w fun e w' => PutP NB xs (J.esc c) w e w' := by
  have B1 := fun (d : Nat) => byteW_any w NB d xs h (by omega)
  have HB : Hid (∀ (d : Nat) (ys : List Nat) (w' : World), ys.length ≤ 10 → Wr w' NB (xs ++ ys) → Calls Tryz.prog 46 #[rp NB, .int .u8 (d : Int)] w' fun e w'' => e = .returned .nilIface ∧ Wr w'' NB (xs ++ ys ++ [d]) ∧ WK NB w' w'') :=
    fun d ys w' hy hw => byteW_any w' NB d (xs ++ ys) hw (by rw [List.length_append]; omega)
  have HH : Hid (Wr w NB xs ∧ xs.length ≤ 900000 ∧ c < 256) := ⟨h, hl, hc⟩
  clear h hl
  by_cases e8 : c = 8
  · subst e8
    have IX := fun w' => Any.strings_IndexByte lays137 worthS 8 w'
    rw [show Lib.indexByte worthS.data.toList ((8 : Int).toNat.toUInt8) = 0 from by decide] at IX
    have XI : ∀ w', (Instr.index 9 (.string signS) (.int .i64 0)).run Tryz.prog w' = .ok (.int .u8 98) w' := fun w' => str_at signS 0 (by decide) w'
    have A1 := B1 92
    have A2 := HB.out 98 [92]
    unfold worthS at IX
    unfold signS at XI
    unfold rp at A1 A2 ⊢
    clear B1 hc
    rw [show (((8 : Nat) : Int)) = 8 from rfl]
    simp only [show (((92 : Nat) : Int)) = 92 from rfl, show (((98 : Nat) : Int)) = 98 from rfl] at A1 A2
    go_enter Tryz.func62, Tryz.ntmps62
    go_wp2_with (first | (go_at_call 46; refine (A2 _ (by simp) h1).mono ?_; rintro e w2 ⟨rfl, h2, k2⟩) | (go_at_call 46; refine A1.mono ?_; rintro e w1 ⟨rfl, h1, k1⟩) | (go_at_call 64; refine (IX _).mono ?_; rintro e w9 ⟨rfl, hw9⟩; rw [hw9]; clear hw9) | fail)
    go_end0
    exact seqW h2 (k1.trans k2) rfl
  by_cases e12 : c = 12
  · subst e12
    have IX := fun w' => Any.strings_IndexByte lays137 worthS 12 w'
    rw [show Lib.indexByte worthS.data.toList ((12 : Int).toNat.toUInt8) = 1 from by decide] at IX
    have XI : ∀ w', (Instr.index 9 (.string signS) (.int .i64 1)).run Tryz.prog w' = .ok (.int .u8 102) w' := fun w' => str_at signS 1 (by decide) w'
    have A1 := B1 92
    have A2 := HB.out 102 [92]
    unfold worthS at IX
    unfold signS at XI
    unfold rp at A1 A2 ⊢
    clear B1 hc
    rw [show (((12 : Nat) : Int)) = 12 from rfl]
    simp only [show (((92 : Nat) : Int)) = 92 from rfl, show (((102 : Nat) : Int)) = 102 from rfl] at A1 A2
    go_enter Tryz.func62, Tryz.ntmps62
    go_wp2_with (first | (go_at_call 46; refine (A2 _ (by simp) h1).mono ?_; rintro e w2 ⟨rfl, h2, k2⟩) | (go_at_call 46; refine A1.mono ?_; rintro e w1 ⟨rfl, h1, k1⟩) | (go_at_call 64; refine (IX _).mono ?_; rintro e w9 ⟨rfl, hw9⟩; rw [hw9]; clear hw9) | fail)
    go_end0
    exact seqW h2 (k1.trans k2) rfl
  by_cases e10 : c = 10
  · subst e10
    have IX := fun w' => Any.strings_IndexByte lays137 worthS 10 w'
    rw [show Lib.indexByte worthS.data.toList ((10 : Int).toNat.toUInt8) = 2 from by decide] at IX
    have XI : ∀ w', (Instr.index 9 (.string signS) (.int .i64 2)).run Tryz.prog w' = .ok (.int .u8 110) w' := fun w' => str_at signS 2 (by decide) w'
    have A1 := B1 92
    have A2 := HB.out 110 [92]
    unfold worthS at IX
    unfold signS at XI
    unfold rp at A1 A2 ⊢
    clear B1 hc
    rw [show (((10 : Nat) : Int)) = 10 from rfl]
    simp only [show (((92 : Nat) : Int)) = 92 from rfl, show (((110 : Nat) : Int)) = 110 from rfl] at A1 A2
    go_enter Tryz.func62, Tryz.ntmps62
    go_wp2_with (first | (go_at_call 46; refine (A2 _ (by simp) h1).mono ?_; rintro e w2 ⟨rfl, h2, k2⟩) | (go_at_call 46; refine A1.mono ?_; rintro e w1 ⟨rfl, h1, k1⟩) | (go_at_call 64; refine (IX _).mono ?_; rintro e w9 ⟨rfl, hw9⟩; rw [hw9]; clear hw9) | fail)
    go_end0
    exact seqW h2 (k1.trans k2) rfl
  by_cases e13 : c = 13
  · subst e13
    have IX := fun w' => Any.strings_IndexByte lays137 worthS 13 w'
    rw [show Lib.indexByte worthS.data.toList ((13 : Int).toNat.toUInt8) = 3 from by decide] at IX
    have XI : ∀ w', (Instr.index 9 (.string signS) (.int .i64 3)).run Tryz.prog w' = .ok (.int .u8 114) w' := fun w' => str_at signS 3 (by decide) w'
    have A1 := B1 92
    have A2 := HB.out 114 [92]
    unfold worthS at IX
    unfold signS at XI
    unfold rp at A1 A2 ⊢
    clear B1 hc
    rw [show (((13 : Nat) : Int)) = 13 from rfl]
    simp only [show (((92 : Nat) : Int)) = 92 from rfl, show (((114 : Nat) : Int)) = 114 from rfl] at A1 A2
    go_enter Tryz.func62, Tryz.ntmps62
    go_wp2_with (first | (go_at_call 46; refine (A2 _ (by simp) h1).mono ?_; rintro e w2 ⟨rfl, h2, k2⟩) | (go_at_call 46; refine A1.mono ?_; rintro e w1 ⟨rfl, h1, k1⟩) | (go_at_call 64; refine (IX _).mono ?_; rintro e w9 ⟨rfl, hw9⟩; rw [hw9]; clear hw9) | fail)
    go_end0
    exact seqW h2 (k1.trans k2) rfl
  by_cases e9 : c = 9
  · subst e9
    have IX := fun w' => Any.strings_IndexByte lays137 worthS 9 w'
    rw [show Lib.indexByte worthS.data.toList ((9 : Int).toNat.toUInt8) = 4 from by decide] at IX
    have XI : ∀ w', (Instr.index 9 (.string signS) (.int .i64 4)).run Tryz.prog w' = .ok (.int .u8 116) w' := fun w' => str_at signS 4 (by decide) w'
    have A1 := B1 92
    have A2 := HB.out 116 [92]
    unfold worthS at IX
    unfold signS at XI
    unfold rp at A1 A2 ⊢
    clear B1 hc
    rw [show (((9 : Nat) : Int)) = 9 from rfl]
    simp only [show (((92 : Nat) : Int)) = 92 from rfl, show (((116 : Nat) : Int)) = 116 from rfl] at A1 A2
    go_enter Tryz.func62, Tryz.ntmps62
    go_wp2_with (first | (go_at_call 46; refine (A2 _ (by simp) h1).mono ?_; rintro e w2 ⟨rfl, h2, k2⟩) | (go_at_call 46; refine A1.mono ?_; rintro e w1 ⟨rfl, h1, k1⟩) | (go_at_call 64; refine (IX _).mono ?_; rintro e w9 ⟨rfl, hw9⟩; rw [hw9]; clear hw9) | fail)
    go_end0
    exact seqW h2 (k1.trans k2) rfl
  by_cases e34 : c = 34
  · subst e34
    have A1 := B1 92
    have A2 := HB.out 34 [92]
    unfold rp at A1 A2 ⊢
    clear B1 hc
    rw [show (((34 : Nat) : Int)) = 34 from rfl]
    simp only [show (((34 : Nat) : Int)) = 34 from rfl] at A2
    rw [show (((92 : Nat) : Int)) = 92 from rfl] at A1
    go_enter Tryz.func62, Tryz.ntmps62
    go_wp2_with (first | (go_at_call 46; refine (A2 _ (by simp) h1).mono ?_; rintro e w2 ⟨rfl, h2, k2⟩) | (go_at_call 46; refine A1.mono ?_; rintro e w1 ⟨rfl, h1, k1⟩) | fail)
    go_end0
    exact seqW h2 (k1.trans k2) rfl
  by_cases e92 : c = 92
  · subst e92
    have A1 := B1 92
    have A2 := HB.out 92 [92]
    unfold rp at A1 A2 ⊢
    clear B1 hc
    rw [show (((92 : Nat) : Int)) = 92 from rfl]
    simp only [show (((92 : Nat) : Int)) = 92 from rfl] at A2
    rw [show (((92 : Nat) : Int)) = 92 from rfl] at A1
    go_enter Tryz.func62, Tryz.ntmps62
    go_wp2_with (first | (go_at_call 46; refine (A2 _ (by simp) h1).mono ?_; rintro e w2 ⟨rfl, h2, k2⟩) | (go_at_call 46; refine A1.mono ?_; rintro e w1 ⟨rfl, h1, k1⟩) | fail)
    go_end0
    exact seqW h2 (k1.trans k2) rfl
  have n8 := bset c 8 e8
  have n12 := bset c 12 e12
  have n10 := bset c 10 e10
  have n13 := bset c 13 e13
  have n9 := bset c 9 e9
  simp only [show (((8 : Nat) : Int)) = 8 from rfl, show (((12 : Nat) : Int)) = 12 from rfl, show (((10 : Nat) : Int)) = 10 from rfl, show (((13 : Nat) : Int)) = 13 from rfl, show (((9 : Nat) : Int)) = 9 from rfl] at n8 n12 n10 n13 n9
  have n34 := bset c 34 e34
  have n92 := bset c 92 e92
  simp only [show (((34 : Nat) : Int)) = 34 from rfl, show (((92 : Nat) : Int)) = 92 from rfl] at n34 n92
  have HE : Hid (c ≠ 8 ∧ c ≠ 12 ∧ c ≠ 10 ∧ c ≠ 13 ∧ c ≠ 9 ∧ c ≠ 34 ∧ c ≠ 92) := ⟨e8, e12, e10, e13, e9, e34, e92⟩
  by_cases q : c < 32
  · have e1 : J.esc c = [92, 117, 48, 48, 48 + c / 16, J.hexC (c % 16)] := by
      have := HE.out
      unfold J.esc
      rw [if_neg (by omega), if_neg (by omega), if_neg (by omega), if_neg (by omega), if_neg (by omega), if_neg (by omega), if_neg (by omega), if_pos q]
    have HE1 : Hid (J.esc c = [92, 117, 48, 48, 48 + c / 16, J.hexC (c % 16)]) := e1
    have hq : (c : Int) < 32 := by omega
    have X1 : ∀ w', (Instr.index 9 (.string sixS) (.int .u8 ((c / 16 : Nat) : Int))).run Tryz.prog w' = .ok (.int .u8 ((48 + c / 16 : Nat) : Int)) w' := fun w' => by
      have := str_atU sixS (c / 16) (by show c / 16 < 16; omega) w'
      rw [six_at _ (by omega)] at this
      rw [this, show J.hexC (c / 16) = 48 + c / 16 by unfold J.hexC; rw [if_pos (by omega)]]
    have X2 : ∀ w', (Instr.index 9 (.string sixS) (.int .u8 ((c % 16 : Nat) : Int))).run Tryz.prog w' = .ok (.int .u8 ((J.hexC (c % 16) : Nat) : Int)) w' := fun w' => by
      have := str_atU sixS (c % 16) (by show c % 16 < 16; omega) w'
      rw [six_at _ (by omega)] at this
      exact this
    have W := strW_any w NB ⟨#[92, 117, 48, 48]⟩ xs HH.out.1 (by have := HH.out; omega) (by decide)
    rw [show numsOf ⟨#[92, 117, 48, 48]⟩ = [92, 117, 48, 48] from rfl] at W
    have A2 := HB.out (48 + c / 16) [92, 117, 48, 48]
    have A3 := HB.out (J.hexC (c % 16)) ([92, 117, 48, 48] ++ [48 + c / 16])
    clear e8 e12 e10 e13 e9 e34 e92 e1 q B1 hc
    unfold sixS at X1 X2
    unfold rp at W A2 A3 ⊢
    go_enter Tryz.func62, Tryz.ntmps62
    go_wp2_with (first | (go_at_call 42; refine W.mono ?_; rintro e w1 ⟨rfl, h1, k1⟩) | fail)
    obtain ⟨J1, hJ1⟩ : ∃ J1 : Int, ((c / 16 : Nat) : Int) = J1 := ⟨_, rfl⟩
    obtain ⟨J2, hJ2⟩ : ∃ J2 : Int, ((c % 16 : Nat) : Int) = J2 := ⟨_, rfl⟩
    have d1 : (c : Int) / 16 = J1 := by omega
    have d2 : (c : Int) % 16 = J2 := by omega
    rw [hJ1] at X1
    rw [hJ2] at X2
    clear hJ1 hJ2
    generalize 48 + c / 16 = D1 at X1 A2 A3 HE1
    generalize J.hexC (c % 16) = D2 at X2 A3 HE1
    go_region_with (go_at_call 46; refine (A2 _ (by simp) (wr_below h1 (Below.refl _ _).drew)).mono ?_; rintro e w2 ⟨rfl, h2, k2⟩)
    go_wp2_with (first | (go_at_call 46; refine (A3 _ (by simp) (by rw [← List.append_assoc]; exact h2)).mono ?_; rintro e w3 ⟨rfl, h3, k3⟩) | fail)
    go_end0
    rw [HE1.out]
    exact ⟨rfl, by simpa using h3, (k1.drew.trans k2).trans k3⟩
  · have hq : ¬ (c : Int) < 32 := by omega
    have e1 : J.esc c = [c] := J.esc_high q e34 e92
    have HE1 : Hid (J.esc c = [c]) := e1
    have A1 := B1 c
    unfold rp at A1 ⊢
    clear e8 e12 e10 e13 e9 e34 e92 e1 q B1 hc
    go_enter Tryz.func62, Tryz.ntmps62
    go_wp2_with (first | (go_at_call 46; refine A1.mono ?_; rintro e w1 ⟨rfl, h1, k1⟩) | fail)
    go_end0
    rw [HE1.out]
    exact ⟨rfl, h1, k1⟩
/-- Between the bytes of a text. -/
inductive TxI (NB : Nat) (xs : List Nat) (s : ByteArray) (w : World) (t : Value) (wr : World) : Prop where
  | intro (k : Nat) (hk : k ≤ s.size) (ht : t = .int .i64 (k : Int)) (h : Wr wr NB (xs ++ 34 :: J.qbody ((numsOf s).take k))) (hK : WK NB w wr)
theorem qbody_app (a b : List Nat) : J.qbody (a ++ b) = J.qbody a ++ J.qbody b := by simp [J.qbody]
theorem qbody_six (s : List Nat) : (J.qbody s).length ≤ 6 * s.length := by
  induction s with
  | nil => simp [J.qbody]
  | cons c s ih =>
    have := J.esc_short c
    simp only [J.qbody, List.flatMap_cons, List.length_append, List.length_cons] at ih ⊢
    omega
set_option maxHeartbeats 2000000 in
set_option maxRecDepth 8000 in
theorem quoteW_any (w : World) (NB : Nat) (s : ByteArray) (hs : s.size ≤ 16384) (xs : List Nat) (h : Wr w NB xs) (hl : xs.length ≤ 700000) :
    Calls Tryz.prog 45 #[rp NB, .string s] w fun e w' => PutP NB xs (J.quoted (numsOf s)) w e w' := by
  have A1 := byteW_any w NB 34 xs h (by omega)
  rw [show (((34 : Nat) : Int)) = 34 from rfl] at A1
  have HH : Hid (s.size ≤ 16384 ∧ xs.length ≤ 700000) := ⟨hs, hl⟩
  have hn := numsOf_len s
  unfold rp at A1 ⊢
  clear h hl hs
  go_enter Tryz.func45, Tryz.ntmps45
  go_wp2_with (first | (go_at_call 46; refine A1.mono ?_; rintro e w1 ⟨rfl, h1, k1⟩) | fail)
  clear A1
  go_loopw [11] (fun t wr => TxI NB xs s w t wr) (fun t _ => s.size - (intOf t).toNat)
  case atStart => exact ⟨0, by omega, rfl, by simpa [J.qbody] using h1, k1⟩
  case round =>
    clear h1 k1
    obtain ⟨k, hk, rfl, h, hK⟩ := hrel
    have hq : (xs ++ 34 :: J.qbody ((numsOf s).take k)).length ≤ 899000 := by
      have := qbody_six ((numsOf s).take k)
      have h2 : ((numsOf s).take k).length ≤ 16384 := by rw [List.length_take]; have := HH.out; omega
      rw [List.length_append, List.length_cons]
      have := HH.out
      omega
    by_cases hlt : k < s.size
    · have hI : (k : Int) < (s.size : Int) := by omega
      have hx := fun w' => str_at s k hlt w'
      have hc := nums_byte' s k hlt
      have A := charW_any wr NB ((numsOf s).getD k 0) hc _ h (by omega)
      have e1 : J.qbody ((numsOf s).take (k + 1)) = J.qbody ((numsOf s).take k) ++ J.esc ((numsOf s).getD k 0) := by
        rw [List.take_add_one, qbody_app, List.getD_eq_getElem?_getD, List.getElem?_eq_getElem (by omega)]
        simp [J.qbody]
      have HQ : Hid (k < s.size ∧ WK NB w wr ∧ J.qbody ((numsOf s).take (k + 1)) = J.qbody ((numsOf s).take k) ++ J.esc ((numsOf s).getD k 0)) := ⟨hlt, hK, e1⟩
      generalize (numsOf s).getD k 0 = c at A hx HQ
      have hk1 : (0 : Int) ≤ (k : Int) := by omega
      have hN : (s.size : Int) ≤ 16384 := by have := HH.out; omega
      unfold rp at A
      clear h hK hq hk hlt e1 hc hn
      go_wp2_with (first | (go_at_call 62; refine A.mono ?_; rintro e w2 ⟨rfl, h2, k2⟩) | fail)
      go_roundw
      case rel =>
        have H := HQ.out
        exact ⟨k + 1, by omega, by rw [Int.natCast_add]; rfl, by rw [H.2.2]; simpa using h2, H.2.1.trans k2⟩
      case measure => have H := HQ.out; simp [intOf]; omega
    · obtain rfl : k = s.size := by omega
      have A := byteW_any wr NB 34 _ h (by omega)
      rw [show (((34 : Nat) : Int)) = 34 from rfl] at A
      have HQ : Hid (WK NB w wr ∧ (numsOf s).take s.size = numsOf s) := ⟨hK, by rw [← hn, List.take_length]⟩
      unfold rp at A
      clear h hK hq hk hn
      go_wp2_with (first | (go_at_call 46; refine A.mono ?_; rintro e w2 ⟨rfl, h2, k2⟩) | fail)
      go_end0
      rw [HQ.out.2] at h2
      exact ⟨rfl, by unfold J.quoted; simpa using h2, HQ.out.1.trans k2⟩
end Go.Proofs.YtcfalgomcdmdhaaGreatDoor
