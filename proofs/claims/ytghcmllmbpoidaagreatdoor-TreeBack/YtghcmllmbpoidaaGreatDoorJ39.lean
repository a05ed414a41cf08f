import Derived.Shelf.GgSortFunc.Tiny
import Derived.Ground.GgsProg
import Derived.Test.YtghcmllmbpoidaaGreatDoorProg
import Derived.Test.YtghcmllmbpoidaaGreatDoorJ35
import Derived.Test.YtghcmllmbpoidaaGreatDoorJ14
import Derived.Deep.RegionHeld3
import Derived.Test.YtghcmllmbpoidaaGreatDoorJ36
import Derived.Laws.ResultCell
namespace Go.Proofs.YtghcmllmbpoidaaGreatDoor
open Go.Shelf
def laysSlice_ren : Go.Shelf.Ren := ⟨fun | 6 => 111 | 10 => 90 | 11 => 142 | 12 => 143 | 13 => 144 | 14 => 145 | 24 => 196 | 25 => 158 | 26 => 197 | 27 => 198 | 28 => 199 | 29 => 200 | 30 => 201 | 31 => 202 | 32 => 203 | 33 => 204 | 34 => 246 | 35 => 247 | 36 => 248 | 37 => 249 | 38 => 250 | 39 => 278 | n => n, fun | 20 => 20 | 26 => 218 | 35 => 186 | 0 => 0 | 37 => 264 | 3 => 3 | 41 => 165 | 44 => 270 | 49 => 128 | 51 => 83 | 4 => 4 | 54 => 315 | 53 => 314 | 58 => 319 | 5 => 5 | 9 => 9 | 60 => 365 | 64 => 368 | 66 => 396 | 67 => 397 | 17 => 17 | 32 => 183 | 33 => 184 | 82 => 469 | 12 => 12 | 75 => 464 | 76 => 189 | 77 => 465 | 78 => 418 | 79 => 466 | 80 => 467 | n => n, fun | n => n⟩
theorem laysSlice : Go.Proofs.LaysGg.n6 Tryz.prog laysSlice_ren := {
  mixed := by kernel_rfl
  f6 := Tryz.func111.trans (congrArg some (by kernel_rfl))
  f10 := Tryz.func90.trans (congrArg some (by kernel_rfl))
  f11 := Tryz.func142.trans (congrArg some (by kernel_rfl))
  f12 := Tryz.func143.trans (congrArg some (by kernel_rfl))
  f13 := Tryz.func144.trans (congrArg some (by kernel_rfl))
  f14 := Tryz.func145.trans (congrArg some (by kernel_rfl))
  f24 := Tryz.func196.trans (congrArg some (by kernel_rfl))
  f25 := Tryz.func158.trans (congrArg some (by kernel_rfl))
  f26 := Tryz.func197.trans (congrArg some (by kernel_rfl))
  f27 := Tryz.func198.trans (congrArg some (by kernel_rfl))
  f28 := Tryz.func199.trans (congrArg some (by kernel_rfl))
  f29 := Tryz.func200.trans (congrArg some (by kernel_rfl))
  f30 := Tryz.func201.trans (congrArg some (by kernel_rfl))
  f31 := Tryz.func202.trans (congrArg some (by kernel_rfl))
  f32 := Tryz.func203.trans (congrArg some (by kernel_rfl))
  f33 := Tryz.func204.trans (congrArg some (by kernel_rfl))
  f34 := Tryz.func246.trans (congrArg some (by kernel_rfl))
  f35 := Tryz.func247.trans (congrArg some (by kernel_rfl))
  f36 := Tryz.func248.trans (congrArg some (by kernel_rfl))
  f37 := Tryz.func249.trans (congrArg some (by kernel_rfl))
  f38 := Tryz.func250.trans (congrArg some (by kernel_rfl))
  f39 := Tryz.func278.trans (congrArg some (by kernel_rfl))
  t0 := Tryz.underlying0
  a0 := Tryz.isAgg0
  z0 := Tryz.sizeOf0
  v0 := Tryz.zeroValue0
  i0 := by kernel_rfl
  t3 := Tryz.underlying3
  a3 := Tryz.isAgg3
  z3 := Tryz.sizeOf3
  v3 := Tryz.zeroValue3
  i3 := by kernel_rfl
  t4 := Tryz.underlying4
  a4 := Tryz.isAgg4
  z4 := Tryz.sizeOf4
  v4 := Tryz.zeroValue4
  i4 := by kernel_rfl
  t5 := Tryz.underlying5
  a5 := Tryz.isAgg5
  z5 := Tryz.sizeOf5
  v5 := Tryz.zeroValue5
  i5 := by kernel_rfl
  t9 := Tryz.underlying9
  a9 := Tryz.isAgg9
  z9 := Tryz.sizeOf9
  v9 := Tryz.zeroValue9
  i9 := by kernel_rfl
  t12 := Tryz.underlying12
  a12 := Tryz.isAgg12
  z12 := Tryz.sizeOf12
  v12 := Tryz.zeroValue12
  i12 := by kernel_rfl
  t17 := Tryz.underlying17
  a17 := Tryz.isAgg17
  z17 := Tryz.sizeOf17
  v17 := Tryz.zeroValue17
  i17 := by kernel_rfl
  t20 := Tryz.underlying20
  a20 := Tryz.isAgg20
  z20 := Tryz.sizeOf20
  v20 := Tryz.zeroValue20
  i20 := by kernel_rfl
  t26 := Tryz.underlying218
  a26 := Tryz.isAgg218
  z26 := Tryz.sizeOf218
  v26 := Tryz.zeroValue218
  i26 := by kernel_rfl
  t32 := Tryz.underlying183
  a32 := Tryz.isAgg183
  z32 := Tryz.sizeOf183
  v32 := Tryz.zeroValue183
  i32 := by kernel_rfl
  t33 := Tryz.underlying184
  a33 := Tryz.isAgg184
  z33 := Tryz.sizeOf184
  v33 := Tryz.zeroValue184
  i33 := by kernel_rfl
  t35 := Tryz.underlying186
  a35 := Tryz.isAgg186
  z35 := Tryz.sizeOf186
  v35 := Tryz.zeroValue186
  i35 := by kernel_rfl
  t37 := Tryz.underlying264
  a37 := Tryz.isAgg264
  z37 := Tryz.sizeOf264
  v37 := Tryz.zeroValue264
  i37 := by kernel_rfl
  t41 := Tryz.underlying165
  a41 := Tryz.isAgg165
  z41 := Tryz.sizeOf165
  v41 := Tryz.zeroValue165
  i41 := by kernel_rfl
  t44 := Tryz.underlying270
  a44 := Tryz.isAgg270
  z44 := Tryz.sizeOf270
  v44 := Tryz.zeroValue270
  i44 := by kernel_rfl
  t49 := Tryz.underlying128
  a49 := Tryz.isAgg128
  z49 := Tryz.sizeOf128
  v49 := Tryz.zeroValue128
  i49 := by kernel_rfl
  t51 := Tryz.underlying83
  a51 := Tryz.isAgg83
  z51 := Tryz.sizeOf83
  v51 := Tryz.zeroValue83
  i51 := by kernel_rfl
  t53 := Tryz.underlying314
  a53 := Tryz.isAgg314
  z53 := Tryz.sizeOf314
  v53 := Tryz.zeroValue314
  i53 := by kernel_rfl
  t54 := Tryz.underlying315
  a54 := Tryz.isAgg315
  z54 := Tryz.sizeOf315
  v54 := Tryz.zeroValue315
  i54 := by kernel_rfl
  t58 := Tryz.underlying319
  a58 := Tryz.isAgg319
  z58 := Tryz.sizeOf319
  v58 := Tryz.zeroValue319
  i58 := by kernel_rfl
  t60 := Tryz.underlying365
  a60 := Tryz.isAgg365
  z60 := Tryz.sizeOf365
  v60 := Tryz.zeroValue365
  i60 := by kernel_rfl
  t64 := Tryz.underlying368
  a64 := Tryz.isAgg368
  z64 := Tryz.sizeOf368
  v64 := Tryz.zeroValue368
  i64 := by kernel_rfl
  t66 := Tryz.underlying396
  a66 := Tryz.isAgg396
  z66 := Tryz.sizeOf396
  v66 := Tryz.zeroValue396
  i66 := by kernel_rfl
  t67 := Tryz.underlying397
  a67 := Tryz.isAgg397
  z67 := Tryz.sizeOf397
  v67 := Tryz.zeroValue397
  i67 := by kernel_rfl
  t75 := Tryz.underlying464
  a75 := Tryz.isAgg464
  z75 := Tryz.sizeOf464
  v75 := Tryz.zeroValue464
  i75 := by kernel_rfl
  t76 := Tryz.underlying189
  a76 := Tryz.isAgg189
  z76 := Tryz.sizeOf189
  v76 := Tryz.zeroValue189
  i76 := by kernel_rfl
  t77 := Tryz.underlying465
  a77 := Tryz.isAgg465
  z77 := Tryz.sizeOf465
  v77 := Tryz.zeroValue465
  i77 := by kernel_rfl
  t78 := Tryz.underlying418
  a78 := Tryz.isAgg418
  z78 := Tryz.sizeOf418
  v78 := Tryz.zeroValue418
  i78 := by kernel_rfl
  t79 := Tryz.underlying466
  a79 := Tryz.isAgg466
  z79 := Tryz.sizeOf466
  v79 := Tryz.zeroValue466
  i79 := by kernel_rfl
  t80 := Tryz.underlying467
  a80 := Tryz.isAgg467
  z80 := Tryz.sizeOf467
  v80 := Tryz.zeroValue467
  i80 := by kernel_rfl
  t82 := Tryz.underlying469
  a82 := Tryz.isAgg469
  z82 := Tryz.sizeOf469
  v82 := Tryz.zeroValue469
  i82 := by kernel_rfl }
end Go.Proofs.YtghcmllmbpoidaaGreatDoor
namespace Go.Proofs.YtghcmllmbpoidaaGreatDoor
open Go.RowKit Go.WideShapes
set_option maxHeartbeats 2000000 in
theorem insertion_still (n B : Nat) (sv : Value) (w : World) (hn : n ≤ 12)
    (hf : ∀ (i : Nat) (w' : World), 1 ≤ i → i < n → Below w.heap.size w w' → Calls Tryz.prog 112 #[.int .i64 (i : Int), .int .i64 ((i : Int) - 1), .pointer (some ⟨B, 0, none⟩)] w' fun e w'' => e = .returned (.bool false) ∧ Below w'.heap.size w' w'') :
    Calls Tryz.prog 197 #[.agg #[.func (.func 112) #[] #[.pointer (some ⟨B, 0, none⟩)], sv], .int .i64 0, .int .i64 (n : Int)] w fun e w' => e = .returned (.tuple #[]) ∧ Below w.heap.size w w' := by
  have HF : Hid (∀ (i : Nat) (w' : World), 1 ≤ i → i < n → Below w.heap.size w w' → Calls Tryz.prog 112 #[.int .i64 (i : Int), .int .i64 ((i : Int) - 1), .pointer (some ⟨B, 0, none⟩)] w' fun e w'' => e = .returned (.bool false) ∧ Below w'.heap.size w' w'') := hf
  have hnI : (n : Int) ≤ 12 := by omega
  have HBX : Hid ((w.alloc (.cells #[.func (.func 112) #[] #[.pointer (some ⟨B, 0, none⟩)], sv] 270)).heap[w.heap.size]? = some (.cells #[.func (.func 112) #[] #[.pointer (some ⟨B, 0, none⟩)], sv] 270 (0, 0))) := heap_alloc_new w _
  have HB0 : Hid (Below w.heap.size w (w.alloc (.cells #[.func (.func 112) #[] #[.pointer (some ⟨B, 0, none⟩)], sv] 270))) := below_alloc w _
  clear hf hn
  go_enter Tryz.func197, Tryz.ntmps197
  go_wp2
  go_loopw [6, 7] (fun s6 _ wr => ∃ i : Nat, s6 = .int .i64 (i : Int) ∧ 1 ≤ i ∧ i ≤ 13 ∧ wr.heap[w.heap.size]? = some (.cells #[.func (.func 112) #[] #[.pointer (some ⟨B, 0, none⟩)], sv] 270 (0, 0)) ∧ Below w.heap.size w wr) (fun s6 _ _ => 14 - (intOf s6).toNat)
  case atStart => exact ⟨1, rfl, by omega, by omega, HBX.out, HB0.out⟩
  case round =>
    obtain ⟨i, rfl, h1, h2, hbx, hb⟩ := hrel
    have HI : Hid (1 ≤ i ∧ i ≤ 13) := ⟨h1, h2⟩
    have HX : Hid (wr.heap[w.heap.size]? = some (.cells #[.func (.func 112) #[] #[.pointer (some ⟨B, 0, none⟩)], sv] 270 (0, 0))) := hbx
    have HB : Hid (Below w.heap.size w wr) := hb
    have c0 : wr.cell? ⟨w.heap.size, 0, none⟩ = some (.func (.func 112) #[] #[.pointer (some ⟨B, 0, none⟩)]) := Lib.cell_of_heap hbx 0
    have hiI : (i : Int) ≤ 13 := by omega
    have hi0 : (0 : Int) < (i : Int) := by omega
    clear h1 h2 hbx hb
    by_cases hlt : i < n
    · have hltI : (i : Int) < (n : Int) := by omega
      have hc := HF.out i wr HI.out.1 hlt HB.out
      clear hlt
      go_wp2
      refine wp_loop_rounds 1 ?_
      rw [rounds_succ]
      go_wp2_with fail
      refine hc.mono ?_
      rintro e w2 ⟨rfl, hb2⟩
      have HB2 : Hid (Below w.heap.size w w2) := below_bt HB.out hb2
      have HX2 : Hid (w2.heap[w.heap.size]? = some (.cells #[.func (.func 112) #[] #[.pointer (some ⟨B, 0, none⟩)], sv] 270 (0, 0))) := (hb2.block _ (lt_heap HX.out)).trans HX.out
      clear hb2 hc
      go_wp2
      go_roundw
      case rel => exact ⟨i + 1, by go_num, by omega, by have := HI.out; omega, HX2.out, HB2.out⟩
      case measure => have := HI.out; simp [intOf]; omega
    · have hltI : (n : Int) ≤ (i : Int) := by omega
      clear hlt
      go_wp2
      go_end0
      exact ⟨rfl, HB.out⟩
set_option maxHeartbeats 2000000 in
theorem pdq_still (n lim B : Nat) (sv : Value) (w : World) (hn : n ≤ 12)
    (hf : ∀ (i : Nat) (w' : World), 1 ≤ i → i < n → Below w.heap.size w w' → Calls Tryz.prog 112 #[.int .i64 (i : Int), .int .i64 ((i : Int) - 1), .pointer (some ⟨B, 0, none⟩)] w' fun e w'' => e = .returned (.bool false) ∧ Below w'.heap.size w' w'') :
    Calls Tryz.prog 145 #[.agg #[.func (.func 112) #[] #[.pointer (some ⟨B, 0, none⟩)], sv], .int .i64 0, .int .i64 (n : Int), .int .i64 (lim : Int)] w fun e w' => e = .returned (.tuple #[]) ∧ Below w.heap.size w w' := by
  have hnI : (n : Int) ≤ 12 := by omega
  have hi := insertion_still n B sv (w.alloc (.cells #[.func (.func 112) #[] #[.pointer (some ⟨B, 0, none⟩)], sv] 270)) hn (fun i w' h1 h2 hb => hf i w' h1 h2 (below_bt (below_alloc w _) hb))
  clear hf hn
  go_enter Tryz.func145, Tryz.ntmps145
  go_wp2
  refine wp_loop_rounds 1 ?_
  rw [rounds_succ]
  go_wp2_with fail
  refine hi.mono ?_
  rintro e w2 ⟨rfl, hb2⟩
  have HB2 : Hid (Below w.heap.size w w2) := below_bt (below_alloc w _) hb2
  clear hb2 hi
  go_wp2
  (try simp only [Exit.inBlock, Exit.then])
  refine bodyPost_ret (results_none rfl _ _ _) rfl ?_
  exact ⟨rfl, HB2.out⟩
noncomputable def infoEs : TypeInfo := (Tryz.prog.info? 58).get (by kernel_rfl)
noncomputable def infoE : TypeInfo := (Tryz.prog.info? 66).get (by kernel_rfl)
theorem swap_more (n : Nat) (h2 : 2 ≤ n) : Lib.swapperK n infoE 25 = 9 := by
  have a : infoE.hasPointers = true := by kernel_rfl
  have b : infoE.bytes = 48 := by kernel_rfl
  have c : (n == 0) = false := by simp; omega
  have d : (n == 1) = false := by simp; omega
  simp [Lib.swapperK, a, b, c, d]
theorem swap_ex (n : Nat) : ∃ f, Tryz.prog.funcs.findIdx? (·.name == "internal/reflectlite" ++ ".Swapper$" ++ toString (Lib.swapperK n infoE 25)) = some f := by
  rcases n with _ | _ | n
  · exact ⟨187, by kernel_rfl⟩
  · exact ⟨188, by kernel_rfl⟩
  · exact ⟨195, by rw [swap_more (n + 2) (by omega)]; kernel_rfl⟩
theorem slice_still (n c B : Nat) (q : Option Addr) (w : World) (hn : n ≤ 12)
    (hf : ∀ (i : Nat) (w' : World), 1 ≤ i → i < n → Below w.heap.size w w' → Calls Tryz.prog 112 #[.int .i64 (i : Int), .int .i64 ((i : Int) - 1), .pointer (some ⟨B, 0, none⟩)] w' fun e w'' => e = .returned (.bool false) ∧ Below w'.heap.size w' w'') :
    Calls Tryz.prog 111 #[.iface 58 (.slice q n c), .func (.func 112) #[] #[.pointer (some ⟨B, 0, none⟩)]] w fun e w' => e = .returned (.tuple #[]) ∧ Below w.heap.size w w' := by
  obtain ⟨f, hfi⟩ := swap_ex n
  refine Any.sort_Slice_of_pdq laysSlice 58 66 infoEs infoE (by kernel_rfl) (by kernel_rfl) (by kernel_rfl) (by kernel_rfl) 25 (fun _ => by kernel_rfl) q n c (by omega) f hfi (.func 112) #[] #[.pointer (some ⟨B, 0, none⟩)] w _ ?_
  have hb0 : Below w.heap.size w (sliceWorld Tryz.prog laysSlice_ren 58 q n c w) := by
    unfold sliceWorld
    exact (below_alloc w _).alloc (by simp) _
  exact (pdq_still n (Lib.bitLen n) B _ _ hn (fun i w' h1 h2 hb => hf i w' h1 h2 (below_bt hb0 hb))).mono fun e w' ⟨h1, h2⟩ => ⟨h1, below_bt hb0 h2⟩
set_option maxHeartbeats 2000000 in
theorem rise1_any (g : Nat) (q : Option Addr) (n c : Nat) (l : List Mg.EntV) (i j : Nat) (w : World) (h : Mg.EntsL w q n l) (hi : i < l.length) (hj : j < l.length) (hg : w.heap[g]? = some (.cells #[.slice q n c] 58 (0, 0))) (r : Bool) (hr : Mg.lessE (l.getD i Mg.zeroE) (l.getD j Mg.zeroE) = r) (J : Int) (hJ : J = (j : Int)) :
    Calls Tryz.prog 112 #[.int .i64 (i : Int), .int .i64 J, .pointer (some ⟨g, 0, none⟩)] w fun e w' => e = .returned (.bool r) ∧ Below w.heap.size w w' := by
  subst hJ
  obtain ⟨b, o, rfl⟩ := h.lies.addr (by omega)
  obtain ⟨y0, y1, y2, y3⟩ := h.lies.at hi
  obtain ⟨z0, z1, z2, z3⟩ := h.lies.at hj
  have hin : i < n := by have := h.n; omega
  have hjn : j < n := by have := h.n; omega
  have hiI : (i : Int) < (n : Int) := by omega
  have hiI0 : (0 : Int) ≤ (i : Int) := by omega
  have hjI : (j : Int) < (n : Int) := by omega
  have hjI0 : (0 : Int) ≤ (j : Int) := by omega
  have HLE := fun w' => Mg.less_any (l.getD i Mg.zeroE) (l.getD j Mg.zeroE) w'
  obtain ⟨m, hm⟩ : ∃ m, l.getD i Mg.zeroE = m := ⟨_, rfl⟩
  obtain ⟨m2, hm2⟩ : ∃ m, l.getD j Mg.zeroE = m := ⟨_, rfl⟩
  rw [hr] at HLE
  rw [hm] at y0 y1 y2 y3 HLE
  rw [hm2] at z0 z1 z2 z3 HLE
  obtain ⟨kx, vx, sx, gx⟩ := m
  obtain ⟨ky, vy, sy, gy⟩ := m2
  simp only at y0 y1 y2 y3 z0 z1 z2 z3
  simp only [Mg.entV_def] at HLE
  have c0 : w.cell? ⟨g, 0, none⟩ = some (.slice (some ⟨b, o, none⟩) n c) := Lib.cell_of_heap hg 0
  have HKS : ∀ w', Below w.heap.size w w' → w'.cell? ⟨g, 0, none⟩ = some (.slice (some ⟨b, o, none⟩) n c) ∧ (w'.cell? ⟨b, o + i * 4, none⟩ = some (.string kx) ∧ w'.cell? ⟨b, o + i * 4 + 1, none⟩ = some (.string vx) ∧ w'.cell? ⟨b, o + i * 4 + 2, none⟩ = some (.int .i64 sx) ∧ w'.cell? ⟨b, o + i * 4 + 3, none⟩ = some (.bool gx)) ∧ (w'.cell? ⟨b, o + j * 4, none⟩ = some (.string ky) ∧ w'.cell? ⟨b, o + j * 4 + 1, none⟩ = some (.string vy) ∧ w'.cell? ⟨b, o + j * 4 + 2, none⟩ = some (.int .i64 sy) ∧ w'.cell? ⟨b, o + j * 4 + 3, none⟩ = some (.bool gy)) ∧ Below w.heap.size w w' := fun w' hb => ⟨(hb.cell (World.block_lt_of_cell? _ _ c0)).trans c0, ⟨(hb.cell (World.block_lt_of_cell? _ _ y0)).trans y0, (hb.cell (World.block_lt_of_cell? _ _ y1)).trans y1, (hb.cell (World.block_lt_of_cell? _ _ y2)).trans y2, (hb.cell (World.block_lt_of_cell? _ _ y3)).trans y3⟩, ⟨(hb.cell (World.block_lt_of_cell? _ _ z0)).trans z0, (hb.cell (World.block_lt_of_cell? _ _ z1)).trans z1, (hb.cell (World.block_lt_of_cell? _ _ z2)).trans z2, (hb.cell (World.block_lt_of_cell? _ _ z3)).trans z3⟩, hb⟩
  have HKSH : Hid (∀ w', Below w.heap.size w w' → w'.cell? ⟨g, 0, none⟩ = some (.slice (some ⟨b, o, none⟩) n c) ∧ (w'.cell? ⟨b, o + i * 4, none⟩ = some (.string kx) ∧ w'.cell? ⟨b, o + i * 4 + 1, none⟩ = some (.string vx) ∧ w'.cell? ⟨b, o + i * 4 + 2, none⟩ = some (.int .i64 sx) ∧ w'.cell? ⟨b, o + i * 4 + 3, none⟩ = some (.bool gx)) ∧ (w'.cell? ⟨b, o + j * 4, none⟩ = some (.string ky) ∧ w'.cell? ⟨b, o + j * 4 + 1, none⟩ = some (.string vy) ∧ w'.cell? ⟨b, o + j * 4 + 2, none⟩ = some (.int .i64 sy) ∧ w'.cell? ⟨b, o + j * 4 + 3, none⟩ = some (.bool gy)) ∧ Below w.heap.size w w') := HKS
  have HAL : Hid (w.cell? ⟨g, 0, none⟩ = some (.slice (some ⟨b, o, none⟩) n c) ∧ (w.cell? ⟨b, o + i * 4, none⟩ = some (.string kx) ∧ w.cell? ⟨b, o + i * 4 + 1, none⟩ = some (.string vx) ∧ w.cell? ⟨b, o + i * 4 + 2, none⟩ = some (.int .i64 sx) ∧ w.cell? ⟨b, o + i * 4 + 3, none⟩ = some (.bool gx)) ∧ (w.cell? ⟨b, o + j * 4, none⟩ = some (.string ky) ∧ w.cell? ⟨b, o + j * 4 + 1, none⟩ = some (.string vy) ∧ w.cell? ⟨b, o + j * 4 + 2, none⟩ = some (.int .i64 sy) ∧ w.cell? ⟨b, o + j * 4 + 3, none⟩ = some (.bool gy)) ∧ Below w.heap.size w w) := HKS w (Below.refl _ _)
  clear HKS h hg hm hm2 hr hi hj hin hjn y0 y1 y2 y3 z0 z1 z2 z3 c0
  go_enter Tryz.func112, Tryz.ntmps112
  go_wp2
  go_region_held3 (fun w' => w'.cell? ⟨g, 0, none⟩ = some (.slice (some ⟨b, o, none⟩) n c) ∧ (w'.cell? ⟨b, o + i * 4, none⟩ = some (.string kx) ∧ w'.cell? ⟨b, o + i * 4 + 1, none⟩ = some (.string vx) ∧ w'.cell? ⟨b, o + i * 4 + 2, none⟩ = some (.int .i64 sx) ∧ w'.cell? ⟨b, o + i * 4 + 3, none⟩ = some (.bool gx)) ∧ (w'.cell? ⟨b, o + j * 4, none⟩ = some (.string ky) ∧ w'.cell? ⟨b, o + j * 4 + 1, none⟩ = some (.string vy) ∧ w'.cell? ⟨b, o + j * 4 + 2, none⟩ = some (.int .i64 sy) ∧ w'.cell? ⟨b, o + j * 4 + 3, none⟩ = some (.bool gy)) ∧ Below w.heap.size w w')
    (with_reducible first | exact HAL.out | exact HKSH.out _ (Below.refl _ _).drew | exact HKSH.out _ (Mg.below_dw (by assumption)) | assumption)
    (first
      | (go_at_call 50; refine (HLE _).mono ?_; rintro e w3 ⟨rfl, hb3⟩)
      | fail)
  rename_i hh
  have HB : Hid (Below w.heap.size w w3) := hh.2.2.2
  clear hh hb3
  go_wp2
  go_ret
  exact ⟨rfl, HB.out⟩
theorem rise_at {l : List Mg.EntV} (h : Mg.RiseE l) {i : Nat} (h1 : 1 ≤ i) (h2 : i < l.length) : Mg.lessE (l.getD i Mg.zeroE) (l.getD (i - 1) Mg.zeroE) = false := by
  refine Mg.lessE_asymm ?_
  rw [List.getD_eq_getElem?_getD, List.getD_eq_getElem?_getD, List.getElem?_eq_getElem h2, List.getElem?_eq_getElem (show i - 1 < l.length by omega)]
  exact List.pairwise_iff_getElem.1 h (i - 1) i (by omega) h2 (by omega)
set_option maxHeartbeats 2000000 in
theorem rise_any (q : Option Addr) (n c : Nat) (l : List Mg.EntV) (w : World) (h : Mg.EntsL w q n l) (hr : Mg.RiseE l) (hn : n ≤ 12) :
    Calls Tryz.prog 82 #[.slice q n c] w fun e w' => e = .returned (.tuple #[]) ∧ Below w.heap.size w w' := by
  have hS : ∀ W, Below w.heap.size w W → W.heap[w.heap.size]? = some (.cells #[.slice q n c] 58 (0, 0)) → Calls Tryz.prog 111 #[.iface 58 (.slice q n c), .func (.func 112) #[] #[.pointer (some ⟨w.heap.size, 0, none⟩)]] W fun e w' => e = .returned (.tuple #[]) ∧ Below W.heap.size W w' := by
    intro W hb hB
    refine slice_still n c w.heap.size q W hn fun i w' h1 h2 hb2 => ?_
    have hl := h.n
    exact rise1_any w.heap.size q n c l i (i - 1) w' (h.below (below_bt hb hb2)) (by omega) (by omega) ((hb2.block _ (lt_heap hB)).trans hB) false (rise_at hr h1 (by omega)) _ (by omega)
  have hS1 := hS _ (below_alloc w _) (heap_alloc_new w _)
  have HB0 : Hid (Below w.heap.size w (w.alloc (.cells #[.slice q n c] 58))) := below_alloc w _
  have hmf : ∀ (fn : Fn) (first cap : Array Value) (w : World), (Instr.makeFunc fn first cap).run Tryz.prog w = .ok (.func fn first cap) w := fun _ _ _ _ => rfl
  clear h hr hn hS
  go_enter Tryz.func82, Tryz.ntmps82
  go_wp2_with fail
  refine hS1.mono ?_
  rintro e w2 ⟨rfl, hb2⟩
  have HB2 : Hid (Below w.heap.size w w2) := below_bt HB0.out hb2
  clear hb2 hS1
  go_wp2
  go_end0
  exact ⟨rfl, HB2.out⟩
set_option maxHeartbeats 2000000 in
theorem newest1_any (g g' : Nat) (q : Option Addr) (n c : Nat) (l : List Mg.EntV) (x : Mg.EntV) (i : Nat) (w : World) (h : Mg.EntsL w q n l) (hi : i < l.length) (t0 t1 t2 t3 t4 t5 t7 : Value) (hg : w.heap[g]? = some (.cells #[t0, t1, t2, t3, t4, t5, .slice q n c, t7] 60 (0, 0))) (hg' : w.heap[g']? = some (.cells #[.string x.key, .string x.val, .int .i64 x.seq, .bool x.gone] 66 (0, 0))) (hn : n ≤ 5000) (r : Bool) (hr : Mg.lessE (l.getD i Mg.zeroE) x = !r) :
    Calls Tryz.prog 49 #[.int .i64 (i : Int), .pointer (some ⟨g, 0, none⟩), .pointer (some ⟨g', 0, none⟩)] w fun e w' => e = .returned (.bool r) ∧ Below w.heap.size w w' := by
  obtain ⟨b, o, rfl⟩ := h.lies.addr (by omega)
  obtain ⟨y0, y1, y2, y3⟩ := h.lies.at hi
  have hin : i < n := by have := h.n; omega
  have hiI : (i : Int) < (n : Int) := by omega
  have hiI0 : (0 : Int) ≤ (i : Int) := by omega
  have kw0 : IntKind.i64.wrap (i : Int) = (i : Int) := by rw [IntKind.wrap_i64]; omega
  have HLE := fun w' => Mg.less_any (l.getD i Mg.zeroE) x w'
  obtain ⟨m, hm⟩ : ∃ m, l.getD i Mg.zeroE = m := ⟨_, rfl⟩
  rw [hr] at HLE
  rw [hm] at y0 y1 y2 y3 HLE
  obtain ⟨kx, vx, sx, gx⟩ := m
  obtain ⟨ke, ve, se, ge⟩ := x
  simp only at y0 y1 y2 y3 hg'
  simp only [Mg.entV_def] at HLE
  obtain ⟨x0, x1, x2, x3⟩ := Mg.four_cells hg'
  have c0 : w.cell? ⟨g, 6, none⟩ = some (.slice (some ⟨b, o, none⟩) n c) := Lib.cell_of_heap hg 6
  have HKS : ∀ w', Below w.heap.size w w' → w'.cell? ⟨g, 6, none⟩ = some (.slice (some ⟨b, o, none⟩) n c) ∧ (w'.cell? ⟨g', 0, none⟩ = some (.string ke) ∧ w'.cell? ⟨g', 1, none⟩ = some (.string ve) ∧ w'.cell? ⟨g', 2, none⟩ = some (.int .i64 se) ∧ w'.cell? ⟨g', 3, none⟩ = some (.bool ge)) ∧ (w'.cell? ⟨b, o + i * 4, none⟩ = some (.string kx) ∧ w'.cell? ⟨b, o + i * 4 + 1, none⟩ = some (.string vx) ∧ w'.cell? ⟨b, o + i * 4 + 2, none⟩ = some (.int .i64 sx) ∧ w'.cell? ⟨b, o + i * 4 + 3, none⟩ = some (.bool gx)) ∧ Below w.heap.size w w' := fun w' hb => ⟨(hb.cell (World.block_lt_of_cell? _ _ c0)).trans c0, ⟨(hb.cell (World.block_lt_of_cell? _ _ x0)).trans x0, (hb.cell (World.block_lt_of_cell? _ _ x1)).trans x1, (hb.cell (World.block_lt_of_cell? _ _ x2)).trans x2, (hb.cell (World.block_lt_of_cell? _ _ x3)).trans x3⟩, ⟨(hb.cell (World.block_lt_of_cell? _ _ y0)).trans y0, (hb.cell (World.block_lt_of_cell? _ _ y1)).trans y1, (hb.cell (World.block_lt_of_cell? _ _ y2)).trans y2, (hb.cell (World.block_lt_of_cell? _ _ y3)).trans y3⟩, hb⟩
  have HKSH : Hid (∀ w', Below w.heap.size w w' → w'.cell? ⟨g, 6, none⟩ = some (.slice (some ⟨b, o, none⟩) n c) ∧ (w'.cell? ⟨g', 0, none⟩ = some (.string ke) ∧ w'.cell? ⟨g', 1, none⟩ = some (.string ve) ∧ w'.cell? ⟨g', 2, none⟩ = some (.int .i64 se) ∧ w'.cell? ⟨g', 3, none⟩ = some (.bool ge)) ∧ (w'.cell? ⟨b, o + i * 4, none⟩ = some (.string kx) ∧ w'.cell? ⟨b, o + i * 4 + 1, none⟩ = some (.string vx) ∧ w'.cell? ⟨b, o + i * 4 + 2, none⟩ = some (.int .i64 sx) ∧ w'.cell? ⟨b, o + i * 4 + 3, none⟩ = some (.bool gx)) ∧ Below w.heap.size w w') := HKS
  have HAL : Hid (w.cell? ⟨g, 6, none⟩ = some (.slice (some ⟨b, o, none⟩) n c) ∧ (w.cell? ⟨g', 0, none⟩ = some (.string ke) ∧ w.cell? ⟨g', 1, none⟩ = some (.string ve) ∧ w.cell? ⟨g', 2, none⟩ = some (.int .i64 se) ∧ w.cell? ⟨g', 3, none⟩ = some (.bool ge)) ∧ (w.cell? ⟨b, o + i * 4, none⟩ = some (.string kx) ∧ w.cell? ⟨b, o + i * 4 + 1, none⟩ = some (.string vx) ∧ w.cell? ⟨b, o + i * 4 + 2, none⟩ = some (.int .i64 sx) ∧ w.cell? ⟨b, o + i * 4 + 3, none⟩ = some (.bool gx)) ∧ Below w.heap.size w w) := HKS w (Below.refl _ _)
  clear HKS h hg hg' hm hr hi hin x0 x1 x2 x3 y0 y1 y2 y3 c0 hn
  go_enter Tryz.func49, Tryz.ntmps49
  go_wp2
  go_region_held3 (fun w' => w'.cell? ⟨g, 6, none⟩ = some (.slice (some ⟨b, o, none⟩) n c) ∧ (w'.cell? ⟨g', 0, none⟩ = some (.string ke) ∧ w'.cell? ⟨g', 1, none⟩ = some (.string ve) ∧ w'.cell? ⟨g', 2, none⟩ = some (.int .i64 se) ∧ w'.cell? ⟨g', 3, none⟩ = some (.bool ge)) ∧ (w'.cell? ⟨b, o + i * 4, none⟩ = some (.string kx) ∧ w'.cell? ⟨b, o + i * 4 + 1, none⟩ = some (.string vx) ∧ w'.cell? ⟨b, o + i * 4 + 2, none⟩ = some (.int .i64 sx) ∧ w'.cell? ⟨b, o + i * 4 + 3, none⟩ = some (.bool gx)) ∧ Below w.heap.size w w')
    (with_reducible first | exact HAL.out | exact HKSH.out _ (Below.refl _ _).drew | exact HKSH.out _ (Mg.below_dw (by assumption)) | assumption)
    (first
      | (go_at_call 50; refine (HLE _).mono ?_; rintro e w3 ⟨rfl, hb3⟩)
      | fail)
  rename_i hh
  have HB : Hid (Below w.heap.size w w3) := hh.2.2.2
  clear hh hb3
  go_wp2
  go_ret
  exact ⟨by simp, HB.out⟩
set_option maxHeartbeats 2000000 in
theorem searchN_any (n k : Nat) (p : Nat → Bool) (a b : Value) (w : World) (hn : n ≤ 5000) (hk : k ≤ n) (hlo : ∀ t, t < k → p t = false) (hhi : ∀ t, k ≤ t → t < n → p t = true)
    (hf : ∀ (i : Nat) (w' : World), i < n → Below w.heap.size w w' → Calls Tryz.prog 49 #[.int .i64 (i : Int), a, b] w' fun e w'' => e = .returned (.bool (p i)) ∧ Below w'.heap.size w' w'') :
    Calls Tryz.prog 48 #[.int .i64 (n : Int), .func (.func 49) #[] #[a, b]] w fun e w' => e = .returned (.int .i64 (k : Int)) ∧ Below w.heap.size w w' := by
  have HF : Hid (∀ (i : Nat) (w' : World), i < n → Below w.heap.size w w' → Calls Tryz.prog 49 #[.int .i64 (i : Int), a, b] w' fun e w'' => e = .returned (.bool (p i)) ∧ Below w'.heap.size w' w'') := hf
  have HP : Hid ((∀ t, t < k → p t = false) ∧ ∀ t, k ≤ t → t < n → p t = true) := ⟨hlo, hhi⟩
  have HKN : Hid (k ≤ n) := hk
  have hnI : (n : Int) ≤ 5000 := by omega
  clear hf hlo hhi hk hn
  go_enter Tryz.func48, Tryz.ntmps48
  go_wp2
  go_loopw [5, 6] (fun s5 s6 wr => ∃ lo hi : Nat, s5 = .int .i64 (lo : Int) ∧ s6 = .int .i64 (hi : Int) ∧ lo ≤ k ∧ k ≤ hi ∧ hi ≤ n ∧ Below w.heap.size w wr) (fun s5 s6 _ => (intOf s6 - intOf s5).toNat)
  case atStart => exact ⟨0, n, rfl, rfl, by omega, HKN.out, Nat.le_refl _, Below.refl _ _⟩
  case round =>
    obtain ⟨lo, hi, rfl, rfl, h1, h2, h3, hb⟩ := hrel
    have HH : Hid (lo ≤ k ∧ k ≤ hi ∧ hi ≤ n) := ⟨h1, h2, h3⟩
    have HB : Hid (Below w.heap.size w wr) := hb
    have hhI : (hi : Int) ≤ (n : Int) := by omega
    clear h1 h2 h3 hb
    by_cases hlt : lo < hi
    · have hltI : (lo : Int) < (hi : Int) := by omega
      have HLT : Hid (lo < hi) := hlt
      obtain ⟨md, hmd⟩ : ∃ md : Nat, (lo + hi) / 2 = md := ⟨_, rfl⟩
      have HMD : Hid (lo ≤ md ∧ md < hi) := by show _ ∧ _; omega
      have hmI : ((lo : Int) + (hi : Int)) / 2 = (md : Int) := by omega
      have hc := HF.out md wr (by have := HMD.out; have := HH.out; omega) HB.out
      have hmdI : (md : Int) < (hi : Int) := by have := HMD.out; omega
      have hmdI0 : (0 : Int) ≤ (md : Int) := by omega
      clear hlt hmd
      rcases Nat.lt_or_ge md k with hmk | hmk
      · rw [HP.out.1 md hmk] at hc
        have HMK : Hid (md < k) := hmk
        clear hmk
        rw [← hmI] at hc
        have HMI : Hid (((lo : Int) + (hi : Int)) / 2 = (md : Int)) := hmI
        clear hmI hmdI hmdI0
        go_wp2_with fail
        refine hc.mono ?_
        rintro e w2 ⟨rfl, hb2⟩
        have HB2 : Hid (Below w.heap.size w w2) := below_bt HB.out hb2
        clear hb2 hc
        go_wp2
        go_roundw
        case rel => exact ⟨md + 1, hi, by rw [HMI.out]; go_num, rfl, HMK.out, HH.out.2.1, HH.out.2.2, HB2.out⟩
        case measure => have := HMD.out; have := HMI.out; simp [intOf]; omega
      · rw [HP.out.2 md hmk (by have := HMD.out; have := HH.out; omega)] at hc
        have HMK : Hid (k ≤ md) := hmk
        clear hmk
        rw [← hmI] at hc
        have HMI : Hid (((lo : Int) + (hi : Int)) / 2 = (md : Int)) := hmI
        clear hmI hmdI hmdI0
        go_wp2_with fail
        refine hc.mono ?_
        rintro e w2 ⟨rfl, hb2⟩
        have HB2 : Hid (Below w.heap.size w w2) := below_bt HB.out hb2
        clear hb2 hc
        go_wp2
        go_roundw
        case rel => exact ⟨lo, md, rfl, by rw [HMI.out], HH.out.1, HMK.out, by have := HMD.out; have := HH.out; omega, HB2.out⟩
        case measure => have := HMD.out; have := HMI.out; simp [intOf]; omega
    · have hltI : (hi : Int) ≤ (lo : Int) := by omega
      have HE : Hid (lo = k) := by have := HH.out; show _ = _; omega
      clear hlt
      go_wp2
      go_ret
      exact ⟨by rw [HE.out]; rfl, HB.out⟩
set_option maxHeartbeats 2000000 in
theorem newest_any (C R S seq : Int) (p1 p2 p3 p4 q : Option Addr) (n1 n2 n3 n4 n c1 c2 c3 c4 c : Nat) (l : List Mg.EntV) (key : ByteArray) (k : Nat) (w : World) (h : Mg.EntsL w q n l) (hn : n ≤ 5000) (hk : k < n) (hlo : ∀ t, t < k → Mg.lessE (l.getD t Mg.zeroE) ⟨key, ByteArray.empty, seq, false⟩ = true) (hhi : ∀ t, k ≤ t → t < n → Mg.lessE (l.getD t Mg.zeroE) ⟨key, ByteArray.empty, seq, false⟩ = false) (x : Mg.EntV) (hx : l.getD k Mg.zeroE = x) (hkey : x.key = key) :
    Calls Tryz.prog 23 #[.agg #[.int .i64 C, .slice p1 n1 c1, .slice p2 n2 c2, .slice p3 n3 c3, .int .i64 R, .slice p4 n4 c4, .slice q n c, .int .i64 S], .string key, .int .i64 seq] w fun e w' => e = .returned (.tuple #[Mg.entV x, .bool true]) ∧ Below w.heap.size w w' := by
  obtain ⟨W, hW⟩ : ∃ W, (((w.alloc (.cells #[.int .i64 C, .slice p1 n1 c1, .slice p2 n2 c2, .slice p3 n3 c3, .int .i64 R, .slice p4 n4 c4, .slice q n c, .int .i64 S] 60)).alloc (.cells #[.string ⟨#[]⟩, .string ⟨#[]⟩, .int .i64 0, .bool false] 66)).alloc (.cells #[.string key, .string ⟨#[]⟩, .int .i64 seq, .bool false] 66)) = W := ⟨_, rfl⟩
  have hb1 := below_alloc w (.cells #[.int .i64 C, .slice p1 n1 c1, .slice p2 n2 c2, .slice p3 n3 c3, .int .i64 R, .slice p4 n4 c4, .slice q n c, .int .i64 S] 60)
  have hb2 := below_alloc (w.alloc (.cells #[.int .i64 C, .slice p1 n1 c1, .slice p2 n2 c2, .slice p3 n3 c3, .int .i64 R, .slice p4 n4 c4, .slice q n c, .int .i64 S] 60)) (.cells #[.string ⟨#[]⟩, .string ⟨#[]⟩, .int .i64 0, .bool false] 66)
  have hb3 := below_alloc ((w.alloc (.cells #[.int .i64 C, .slice p1 n1 c1, .slice p2 n2 c2, .slice p3 n3 c3, .int .i64 R, .slice p4 n4 c4, .slice q n c, .int .i64 S] 60)).alloc (.cells #[.string ⟨#[]⟩, .string ⟨#[]⟩, .int .i64 0, .bool false] 66)) (.cells #[.string key, .string ⟨#[]⟩, .int .i64 seq, .bool false] 66)
  have hbW : Below w.heap.size w W := by rw [← hW]; exact below_bt hb1 (below_bt hb2 hb3)
  have g0 : W.heap[w.heap.size]? = some (.cells #[.int .i64 C, .slice p1 n1 c1, .slice p2 n2 c2, .slice p3 n3 c3, .int .i64 R, .slice p4 n4 c4, .slice q n c, .int .i64 S] 60 (0, 0)) := by
    rw [← hW]; exact ((below_bt hb2 hb3).block _ (by simp)).trans (heap_alloc_new w _)
  have g1 : W.heap[w.heap.size + 1]? = some (.cells #[.string ⟨#[]⟩, .string ⟨#[]⟩, .int .i64 0, .bool false] 66 (0, 0)) := by
    rw [← hW]; exact (hb3.block _ (by simp)).trans (by have := heap_alloc_new (w.alloc (.cells #[.int .i64 C, .slice p1 n1 c1, .slice p2 n2 c2, .slice p3 n3 c3, .int .i64 R, .slice p4 n4 c4, .slice q n c, .int .i64 S] 60)) (.cells #[.string ⟨#[]⟩, .string ⟨#[]⟩, .int .i64 0, .bool false] 66); simpa using this)
  have g2 : W.heap[w.heap.size + 1 + 1]? = some (.cells #[.string key, .string ⟨#[]⟩, .int .i64 seq, .bool false] 66 (0, 0)) := by
    rw [← hW]; have := heap_alloc_new ((w.alloc (.cells #[.int .i64 C, .slice p1 n1 c1, .slice p2 n2 c2, .slice p3 n3 c3, .int .i64 R, .slice p4 n4 c4, .slice q n c, .int .i64 S] 60)).alloc (.cells #[.string ⟨#[]⟩, .string ⟨#[]⟩, .int .i64 0, .bool false] 66)) (.cells #[.string key, .string ⟨#[]⟩, .int .i64 seq, .bool false] 66); simpa using this
  have hS := searchN_any n k (fun t => !Mg.lessE (l.getD t Mg.zeroE) ⟨key, ByteArray.empty, seq, false⟩) (.pointer (some ⟨w.heap.size, 0, none⟩)) (.pointer (some ⟨w.heap.size + 1 + 1, 0, none⟩)) W hn (by omega) (fun t ht => by show (!_) = _; rw [hlo t ht]; rfl) (fun t h1 h2 => by show (!_) = _; rw [hhi t h1 h2]; rfl)
    (fun i w' hi hb => newest1_any w.heap.size (w.heap.size + 1 + 1) q n c l ⟨key, ByteArray.empty, seq, false⟩ i w' (h.below (below_bt hbW hb)) (by have := h.n; omega) _ _ _ _ _ _ _ ((hb.block _ (lt_heap g0)).trans g0) ((hb.block _ (lt_heap g2)).trans g2) hn _ (by simp))
  obtain ⟨b, o, rfl⟩ := h.lies.addr (by have := h.n; omega)
  have HY : Hid (∀ w', Below w.heap.size w w' → w'.cell? ⟨b, o + k * 4, none⟩ = some (.string x.key) ∧ w'.cell? ⟨b, o + k * 4 + 1, none⟩ = some (.string x.val) ∧ w'.cell? ⟨b, o + k * 4 + 2, none⟩ = some (.int .i64 x.seq) ∧ w'.cell? ⟨b, o + k * 4 + 3, none⟩ = some (.bool x.gone)) := fun w' hb => by
    have := (h.below hb).lies.at (k := k) (by have := h.n; omega)
    rw [hx] at this
    exact this
  have HG0 : Hid (W.heap[w.heap.size]? = some (.cells #[.int .i64 C, .slice p1 n1 c1, .slice p2 n2 c2, .slice p3 n3 c3, .int .i64 R, .slice p4 n4 c4, .slice (some ⟨b, o, none⟩) n c, .int .i64 S] 60 (0, 0))) := g0
  have HG1 : Hid (W.heap[w.heap.size + 1]? = some (.cells #[.string ⟨#[]⟩, .string ⟨#[]⟩, .int .i64 0, .bool false] 66 (0, 0))) := g1
  have HBW : Hid (Below w.heap.size w W) := hbW
  have HK : Hid (x.key = key) := hkey
  have hmf : ∀ (fn : Fn) (first cap : Array Value) (w : World), (Instr.makeFunc fn first cap).run Tryz.prog w = .ok (.func fn first cap) w := fun _ _ _ _ => rfl
  have hkI : (k : Int) < (n : Int) := by omega
  have hkI0 : (0 : Int) ≤ (k : Int) := by omega
  have HSN : Hid _ := hS
  have HWE : Hid _ := hW
  obtain ⟨xk, xv, xs, xg⟩ := x
  have hkey' : xk = key := HK.out
  subst hkey'
  clear h hlo hhi hx hkey hb1 hb2 hb3 hbW g0 g1 g2 hn hk hS hW HK
  go_enter Tryz.func23, Tryz.ntmps23
  go_wp2_with fail
  rw [HWE.out]
  refine Calls.mono HSN.out ?_
  rintro e w2 ⟨rfl, hb2⟩
  have HB2 : Hid (Below w.heap.size w w2) := below_bt HBW.out hb2
  have HG02 : Hid (w2.heap[w.heap.size]? = _) := (hb2.block _ (lt_heap HG0.out)).trans HG0.out
  have HG12 : Hid (w2.heap[w.heap.size + 1]? = _) := (hb2.block _ (lt_heap HG1.out)).trans HG1.out
  have c6 : w2.cell? ⟨w.heap.size, 6, none⟩ = some (.slice (some ⟨b, o, none⟩) n c) := Lib.cell_of_heap HG02.out 6
  obtain ⟨y0, y1, y2, y3⟩ := HY.out w2 HB2.out
  obtain ⟨r0, r1, r2, r3⟩ := Mg.four_cells HG12.out
  have f0 : w2.frozen? ⟨w.heap.size + 1, 0, none⟩ = false := Lib.frozen_of_heap HG12.out 0
  have f1 : w2.frozen? ⟨w.heap.size + 1, 1, none⟩ = false := Lib.frozen_of_heap HG12.out 1
  have f2 : w2.frozen? ⟨w.heap.size + 1, 2, none⟩ = false := Lib.frozen_of_heap HG12.out 2
  have f3 : w2.frozen? ⟨w.heap.size + 1, 3, none⟩ = false := Lib.frozen_of_heap HG12.out 3
  have hkn : ((k : Int) == (n : Int)) = false := by simp; omega
  clear hb2 HSN HWE
  go_wp2
  (try simp only [Exit.inBlock, Exit.then])
  refine bodyPost_ret (v := .tuple #[.agg #[.string xk, .string xv, .int .i64 xs, .bool xg], .bool true]) ?_ rfl ?_
  · rw [results_cell_tmp rfl]
    go_simp
  · exact ⟨rfl, ((((HB2.out.setCell (Nat.le_succ _) _).setCell (Nat.le_succ _) _).setCell (Nat.le_succ _) _).setCell (Nat.le_succ _) _)⟩
end Go.Proofs.YtghcmllmbpoidaaGreatDoor
