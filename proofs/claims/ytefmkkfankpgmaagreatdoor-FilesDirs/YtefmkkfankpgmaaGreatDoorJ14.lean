/-
  The tied card of FilesDirs holds: the law for whatever directory and bytes are handed in, its four package-level variables tied to the program's text.
-/
import Derived.Test.YtefmkkfankpgmaaGreatDoorJ13
import Derived.Test.YtefmkkfankpgmaaGreatDoorRows
import Derived.Test.YtefmkkfankpgmaaGreatDoorJ07
import Derived.LaidSub
import Derived.LaidHandle
import Derived.LaidLaws
import Derived.RowKitTokens
import Derived.Lib.LaidTab
import Derived.Test.YtefmkkfankpgmaaGreatDoorChecked
import Derived.ChangeSame
import Derived.ChangeVars
import Derived.JoinedOf
import Derived.RowKit
import Derived.Stop.Joined
import Derived.WalkKit
import Derived.ProofKit
import Derived.OpenShut
import Derived.ShutString
import Derived.ChangeOld
import Derived.Below
import Derived.Test.YtefmkkfankpgmaaGreatDoorTie
import Derived.Test.YtefmkkfankpgmaaGreatDoorCards
import Derived.SevenTiedAt
namespace Go.Proofs.YtefmkkfankpgmaaGreatDoor
open Go.RowKit Go.WideShapes Rm

/-- What the two readings come to: one directory, or none. -/
theorem readD_both {wa wb wa' wb' : World} {xs : List Nat} {ea eb : Ending} (h1 : ReadD wa xs ea wa') (h2 : ReadD wb xs eb wb') :
    (∃ x ls lv ms mv, IsDir ltS x xs ∧ ls.map Prod.fst = x.files ∧ ms.map Prod.fst = x.files ∧ ea = .returned (.tuple #[.agg #[.int .i64 x.gen, lv], .int .i64 0]) ∧ eb = .returned (.tuple #[.agg #[.int .i64 x.gen, mv], .int .i64 0]) ∧ FOwn wa' wa.heap.size lv ls ∧ FOwn wb' wb.heap.size mv ms ∧ Below wa.heap.size wa wa' ∧ Below wb.heap.size wb wb')
    ∨ (ea = .returned (.tuple #[.agg #[.int .i64 0, .slice none 0 0], .int .i64 8]) ∧ eb = .returned (.tuple #[.agg #[.int .i64 0, .slice none 0 0], .int .i64 8]) ∧ Below wa.heap.size wa wa' ∧ Below wb.heap.size wb wb') := by
  rcases h1 with ⟨x, ls, lv, hx, hl, e1, f1, b1⟩ | ⟨n1, e1, b1⟩
  · rcases h2 with ⟨y, ms, mv, hy, hm, e2, f2, b2⟩ | ⟨n2, e2, b2⟩
    · have e := isDir_only hx hy
      subst e
      exact .inl ⟨x, ls, lv, ms, mv, hx, hl, hm, e1, e2, f1, f2, b1, b2⟩
    · exact absurd hx (n2 x)
  · rcases h2 with ⟨y, ms, mv, hy, hm, e2, f2, b2⟩ | ⟨n2, e2, b2⟩
    · exact absurd hy (n1 y)
    · exact .inr ⟨e1, e2, b1, b2⟩
theorem ReadD.bel {w w' : World} {xs : List Nat} {e : Ending} (h : ReadD w xs e w') : Below w.heap.size w w' := by
  rcases h with ⟨_, _, _, _, _, _, _, b⟩ | ⟨_, _, b⟩ <;> exact b
theorem FOwn.dir {w : World} {base : Nat} {v : Value} {ls : FPs} {x : DirV} (h : FOwn w base v ls) (hm : May ltS x) (hl : ls.map Prod.fst = x.files) : DirIn w (.agg #[.int .i64 x.gen, v]) x := by
  have hf := hm.fin
  have := h.fin (fun y hy => (hf _ (by rw [← hl]; exact List.mem_map_of_mem hy)).2) (fun y hy => (hf _ (by rw [← hl]; exact List.mem_map_of_mem hy)).1)
  rw [hl] at this
  exact ⟨⟨v, rfl, this⟩, ⟨by have := hm.lo; omega, by have := hm.hi; omega⟩⟩
/-- The pieces of what was read are written over, one by one. -/
structure ZS (w4 : World) (Y : Nat) (gen : Int) (lv : Value) (ls : FPs) (wr : World) : Prop where
  bel : Below w4.heap.size w4 wr
  y : wr.heap[Y]? = some (.cells #[.int .i64 gen, lv] 31 (0, 0))
  row : wr.ownsRow w4.heap.size 51 3 lv ls.length (cellsF ls)
  pcs : ∀ x ∈ ls, ∃ l', l'.length = x.1.pcs.length ∧ POwn wr w4.heap.size x.2 l'
theorem ZS.over {w4 wr : World} {Y : Nat} {gen : Int} {lv : Value} {ls : FPs} (h : ZS w4 Y gen lv ls wr) {g i : Nat} {C : Array Value} {fr : Nat × Nat} (hg : wr.heap[g]? = some (.cells C 53 fr)) (hb : w4.heap.size ≤ g) (z : Int) :
    ZS w4 Y gen lv ls (wr.setCell ⟨g, i, none⟩ (.int .i64 z)) ∧ ∃ C', (wr.setCell ⟨g, i, none⟩ (.int .i64 z)).heap[g]? = some (.cells C' 53 fr) := by
  have hY : Y ≠ g := by
    rintro rfl
    have := h.y
    rw [hg] at this
    simp only [Option.some.injEq, Obj.cells.injEq] at this
    exact absurd this.2.1 (by decide)
  refine ⟨⟨h.bel.setCell hb _, (Below.heap_setCell _ _ _ _ hY).trans h.y, ?_, fun x hx => ?_⟩, ?_⟩
  · refine ⟨h.row.1, ?_⟩
    rcases h.row.2 with h' | ⟨g', cap, cur, h1, h2, h3, h4⟩
    · exact .inl h'
    · refine .inr ⟨g', cap, cur, h1, h2, (Below.heap_setCell _ _ _ _ ?_).trans h3, h4⟩
      rintro rfl
      rw [hg] at h3
      simp only [Option.some.injEq, Obj.cells.injEq] at h3
      exact absurd h3.2.1 (by decide)
  · obtain ⟨l', e1, e2⟩ := h.pcs x hx
    obtain ⟨l2, e3, e4⟩ := pown_over (g := g) (i := i) e2 z
    exact ⟨l2, e3.trans e1, e4⟩
  · simp only [World.setCell, Array.getElem?_modify, hg, if_true]
    exact ⟨_, rfl⟩
def SmallF (f : FileV) : Prop := f.pcs.length ≤ 5000 ∧ f.name.size ≤ 1000
set_option maxRecDepth 20000 in
set_option maxHeartbeats 2000000 in
theorem law_dirs (v : Value) (x : DirV) (p : Option Addr) (c : Nat) (xs : List Nat) (w : World) (hL : Laid w) (hx : DirIn w v x) (hb : BIn w p xs) (hc : xs.length ≤ c) (hcm : c ≤ maxLen) (hpn : p = none → c = 0) :
    Calls Tryz.prog 4 #[v, .slice p xs.length c] w fun e w' => e = .returned (.bool true) ∧ Below w.heap.size w w' := by
  obtain ⟨fv, rfl, hf⟩ := hx.lies
  have HX : Hid (DirIn w (.agg #[.int .i64 x.gen, fv]) x) := hx
  have HL : Hid (Laid w) := hL
  have HB : Hid (BIn w p xs) := hb
  have HCM : Hid (c ≤ maxLen) := hcm
  obtain ⟨gen, l⟩ := x
  obtain ⟨q, cf, rfl, hq, hlc, hcf, _⟩ := hf.lies
  have HQ : Hid (FilesIn w q l) := hq
  unfold maxLen at hcf hcm
  simp only at hlc
  clear hx hf hq hL hb
  by_cases h1 : l.length ≤ 100
  · by_cases h2 : xs.length ≤ 5000
    · go_enter Tryz.func4, Tryz.ntmps4
      go_wp2
      go_loop [5] (fun i => ∃ k : Nat, k ≤ l.length ∧ i = .int .i64 k ∧ ∀ j, j < k → SmallF (l.getD j zeroF)) (fun i => l.length - (intOf i).toNat)
      case atStart => exact ⟨0, by omega, rfl, fun j hj => absurd hj (by omega)⟩
      case round =>
        obtain ⟨k, hk, rfl, hsm⟩ := hrel
        have HSM : Hid (∀ j, j < k → SmallF (l.getD j zeroF)) := hsm
        clear hsm
        by_cases hkl : k < l.length
        · obtain ⟨b, o, rfl⟩ := HQ.out.addr (by omega)
          obtain ⟨e0, e1, pv, e2, hp⟩ := (HQ.out.below (below_alloc w (.cells #[.int .i64 gen, .slice (some ⟨b, o, none⟩) l.length cf] 31))).at hkl
          obtain ⟨qp, cp, rfl, _⟩ := hp.lies
          have HST : Hid (SmallF (l.getD k zeroF) → ∀ j, j < k + 1 → SmallF (l.getD j zeroF)) := fun h j hj => by
            rcases Nat.lt_or_ge j k with h' | h'
            · exact HSM.out j h'
            · obtain rfl : j = k := by omega
              exact h
          clear HSM hp
          generalize l.getD k zeroF = y at *
          obtain ⟨nm, sz, pl⟩ := y
          simp only at e0 e1 e2
          by_cases g1 : pl.length ≤ 5000
          · by_cases g2 : nm.size ≤ 1000
            · have H3 : Hid _ := HST.out ⟨g1, g2⟩
              clear HST
              go_wp2
              go_round
              case rel => exact ⟨k + 1, by omega, by go_num, H3.out⟩
              case measure => simp [intOf]; omega
            · clear HST
              go_wp2
              go_ret
              exact ⟨rfl, below_alloc _ _⟩
          · clear HST
            go_wp2
            go_ret
            exact ⟨rfl, below_alloc _ _⟩
        · obtain rfl : k = l.length := by omega
          have hall : ∀ f ∈ l, SmallF f := by
            intro f hf
            obtain ⟨i, hi, rfl⟩ := List.getElem_of_mem hf
            have := HSM.out i hi
            rwa [getD_eq hi] at this
          have hsum : (allPcs l).length ≤ 1000000 := by have := allPcs_le (l := l) (c := 5000) (fun f hf => (hall f hf).1); omega
          have hnm : ∀ f ∈ l, (f.name.size : Int) ≤ 9223372036854775807 := fun f hf => by have := (hall f hf).2; omega
          have HNM : Hid (∀ f ∈ l, (f.name.size : Int) ≤ 9223372036854775807) := hnm
          have HSU : Hid ((allPcs l).length ≤ 1000000) := hsum
          have HH2 : Hid (xs.length ≤ 5000) := h2
          clear HSM hall hsum hnm
          go_wp2_with (at_builtin; refine wpList_append_bytes _ rfl _ _ rfl (w.heap.size + 1) _ [] xs p _ c rfl rfl rfl (World.ownsRow_nil _ _ _ _) (BIn.below HB.out (below_alloc w (.cells #[.int .i64 gen, .slice q l.length cf] 31))) hpn (by have := HH2.out; simp; omega) (by simp) ?_; intro v2 w2 ho2 hg2; have hb2 : Below (w.heap.size + 1) (w.alloc (.cells #[.int .i64 gen, .slice q l.length cf] 31)) w2 := (Below.refl _ _).grown hg2 (by simp) (fun k hk => by cases hk); have d0 := (box2 hb2).1; have d1 := (box2 hb2).2)
          have hbW2 : Below w.heap.size w w2 := box_below hb2
          rw [List.nil_append] at ho2
          obtain ⟨q2, m2, rfl, hm2a, hm2b, _⟩ := own_form ho2
          have HO2 : Hid (w2.ownsRow (w.heap.size + 1) 5 1 (.slice q2 xs.length m2) xs.length (Bs xs)) := ho2
          have hw := Write_any _ ⟨gen, l⟩ w2 (HL.out.below hbW2) (HX.out.below hbW2) HNM.out HSU.out
          have HB2 : Hid (Below w.heap.size w w2) := hbW2
          have hs2 := hb2.size
          simp at hs2
          clear hbW2 hb2 hg2 ho2
          refine hw.mono ?_
          rintro e w3 ⟨rp, n3, b3, rfl, hw3, ho3, hb3⟩
          have hs3 := hb3.size
          have d0' : w3.cell? ⟨w.heap.size, 0, none⟩ = some (.int .i64 gen) := (hb3.cell (by simp; omega)).trans d0
          have d1' : w3.cell? ⟨w.heap.size, 1, none⟩ = some (.slice q l.length cf) := (hb3.cell (by simp; omega)).trans d1
          have HB3 : Hid (Below w.heap.size w w3) := HB2.out.trans (hb3.mono (by omega))
          have hrw := rWrite_any _ ⟨gen, l⟩ w3 (HX.out.below HB3.out) HNM.out HSU.out
          obtain ⟨q3, m3, rfl, _⟩ := own_form ho3
          clear hw d0 d1
          go_wp2_with fail
          refine hrw.mono ?_
          rintro e w4 ⟨rq, n4, b4, rfl, hw4, ho4, hb4⟩
          obtain ⟨rfl, rfl⟩ := hw3.only hw4
          have hs4 := hb4.size
          have HB4 : Hid (Below w.heap.size w w4) := HB3.out.trans (hb4.mono (by omega))
          have HBY : Hid (∀ c ∈ b3, c < 256) := wrote_bytes hw3
          have HO4a : Hid (w4.ownsRow w2.heap.size 5 1 (.slice q3 b3.length m3) b3.length (Bs b3)) := own_below ho3 hb4
          obtain ⟨q4, m4, rfl, _⟩ := own_form ho4
          have HO4b : Hid (w4.ownsRow w3.heap.size 5 1 (.slice q4 b3.length m4) b3.length (Bs b3)) := ho4
          have HIN4 : Hid (BIn w4 q2 xs) := (BIn.below (own_in HO2.out HB.out.2) hb3).below hb4
          have hrd := Read_any q2 m2 xs w4 (HL.out.below HB4.out) HIN4.out hm2a hm2b
          clear hrw hw3 hw4 ho3 ho4 hb3 hb4 d0' d1'
          go_wp2_with fail
          refine hrd.mono ?_
          rintro e5 w5 hr5
          clear hrd
          rcases hr5 with ⟨x5, ls, lv, hx5, hl5, rfl, hf5, hb5⟩ | ⟨hno, rfl, hb5⟩
          · obtain ⟨ql, ml, rfl, _⟩ := hf5.form
            have hs5 := hb5.size
            have hb6 : Below w.heap.size w (w5.alloc (.cells #[.int .i64 x5.gen, .slice ql ls.length ml] 31)) := (HB4.out.trans (hb5.mono (by omega))).alloc (by have := HB4.out.size; omega) _
            have hrr := rRead_any p c xs _ (HB.out.below hb6) hc HCM.out
            have HB6 : Hid _ := hb6
            clear hb6
            go_wp2_with fail
            refine hrr.mono ?_
            rintro e7 w7 hr7
            clear hrr
            rcases hr7 with ⟨y7, ms, mv, hy7, hm7, rfl, hf7, hb7⟩ | ⟨hno, rfl, hb7⟩
            · have he := isDir_only hx5 hy7
              subst he
              obtain ⟨qm, mm, rfl, _⟩ := hf7.form
              have hs7 := hb7.size
              simp at hs7
              have hY7 : w7.heap[w5.heap.size]? = some (.cells #[.int .i64 x5.gen, .slice ql ls.length ml] 31 (0, 0)) := (hb7.block _ (by simp)).trans (heap_alloc_new w5 _)
              have hY8 : (w7.alloc (.cells #[.int .i64 x5.gen, .slice qm ms.length mm] 31)).heap[w5.heap.size]? = some (.cells #[.int .i64 x5.gen, .slice ql ls.length ml] 31 (0, 0)) := (Below.heap_alloc _ _ _ (by omega)).trans hY7
              have y0 : (w7.alloc (.cells #[.int .i64 x5.gen, .slice qm ms.length mm] 31)).cell? ⟨w5.heap.size, 0, none⟩ = some (.int .i64 x5.gen) := cell_of_row _ _ _ _ _ _ hY8
              have y1 : (w7.alloc (.cells #[.int .i64 x5.gen, .slice qm ms.length mm] 31)).cell? ⟨w5.heap.size, 1, none⟩ = some (.slice ql ls.length ml) := cell_of_row _ _ _ _ _ _ hY8
              have hb48 : Below w4.heap.size w4 (w7.alloc (.cells #[.int .i64 x5.gen, .slice qm ms.length mm] 31)) := ((hb5.alloc (by omega) _).trans (hb7.mono (by simp; omega))).alloc (by omega) _
              have hf8 : FOwn (w7.alloc (.cells #[.int .i64 x5.gen, .slice qm ms.length mm] 31)) w4.heap.size (.slice ql ls.length ml) ls := ((hf5.below (below_alloc w5 _)).below hb7).below (below_alloc w7 _)
              have hg8 := hf7.below (below_alloc w7 (.cells #[.int .i64 x5.gen, .slice qm ms.length mm] 31))
              have k1 := conv_at (c := m3) (BIn.below (own_in HO4a.out HBY.out) hb48) rfl
              have k2 := conv_at (c := m4) (BIn.below (own_in HO4b.out HBY.out) hb48) rfl
              have hsd := sameDir_yes _ _ x5 (w7.alloc (.cells #[.int .i64 x5.gen, .slice qm ms.length mm] 31)) (hf8.dir hx5.1 hl5) (hg8.dir hx5.1 hm7)
              have HF8 : Hid (FOwn (w7.alloc (.cells #[.int .i64 x5.gen, .slice qm ms.length mm] 31)) w4.heap.size (.slice ql ls.length ml) ls) := hf8
              have HY8 : Hid ((w7.alloc (.cells #[.int .i64 x5.gen, .slice qm ms.length mm] 31)).heap[w5.heap.size]? = some (.cells #[.int .i64 x5.gen, .slice ql ls.length ml] 31 (0, 0))) := hY8
              have HB48 : Hid (Below w4.heap.size w4 (w7.alloc (.cells #[.int .i64 x5.gen, .slice qm ms.length mm] 31))) := hb48
              clear hf8 hg8 hb48 hY8 hY7 hf5 hf7 hx5 hy7 hl5 hm7 hb5 hb7
              go_wp2_with fail
              refine hsd.mono ?_
              rintro e w9 ⟨rfl, hb9⟩
              have HZ9 : Hid (ZS w4 w5.heap.size x5.gen (.slice ql ls.length ml) ls w9) := by
                have hfo9 := HF8.out.below hb9
                exact ⟨HB48.out.trans (hb9.mono (by simp; omega)), (hb9.block _ (lt_heap HY8.out)).trans HY8.out, hfo9.row, fun y hy => ⟨y.1.pcs, rfl, hfo9.pcs y hy⟩⟩
              clear hb9 hsd k1 k2 y0 y1
              go_wp2
              go_loopw [15] (fun i wr => ∃ k : Nat, k ≤ ls.length ∧ i = .int .i64 k ∧ ZS w4 w5.heap.size x5.gen (.slice ql ls.length ml) ls wr) (fun i _ => ls.length - (intOf i).toNat)
              case atStart => exact ⟨0, by omega, rfl, HZ9.out⟩
              case round =>
                obtain ⟨k, hk, rfl, hz⟩ := hrel
                clear HZ9
                have y1 : wr.cell? ⟨w5.heap.size, 1, none⟩ = some (.slice ql ls.length ml) := cell_of_row _ _ _ _ _ _ hz.y
                by_cases hkl : k < ls.length
                · have HZ : Hid (ZS w4 w5.heap.size x5.gen (.slice ql ls.length ml) ls wr) := hz
                  obtain ⟨yk, hyk⟩ : ∃ yk, ls[k]? = some yk := ⟨ls[k], List.getElem?_eq_getElem hkl⟩
                  have hmem : yk ∈ ls := List.mem_of_getElem? hyk
                  obtain ⟨f, xv⟩ := yk
                  obtain ⟨l0, hl0, hp0⟩ := hz.pcs _ hmem
                  obtain ⟨qx, mx, rfl, _, hmxm, _⟩ := hp0.form
                  obtain ⟨gl, hgl⟩ : ∃ gl, ql = some ⟨gl, 0, none⟩ := by
                    rcases hz.row.2 with ⟨_, h0⟩ | ⟨g, cap, cur, hv, _⟩
                    · omega
                    · simp only [Value.slice.injEq] at hv
                      exact ⟨g, hv.1⟩
                  subst hgl
                  have HCF : Hid _ := cellsF_at ls k _ hyk
                  have HML : Hid (ls.length ≤ ml ∧ ml ≤ maxLen) := by obtain ⟨_, _, e, h3, h4, _⟩ := own_form hz.row; simp only [Value.slice.injEq] at e; obtain ⟨_, _, rfl⟩ := e; exact ⟨h3, h4⟩
                  have hml := HML.out
                  unfold maxLen at hml hmxm
                  simp only at hl0
                  have hNN : l0.length ≤ 9223372036854775807 := by omega
                  clear hz hp0
                  go_wp2
                  go_loopw [16] (fun i wn => ∃ j : Nat, j ≤ l0.length ∧ i = .int .i64 j ∧ ZS w4 w5.heap.size x5.gen (.slice (some ⟨gl, 0, none⟩) ls.length ml) ls wn) (fun i _ => l0.length - (intOf i).toNat)
                  case atStart => exact ⟨0, by omega, rfl, HZ.out⟩
                  case round =>
                    obtain ⟨j, hj, rfl, hz⟩ := hrel
                    clear HZ
                    have y1 : wr.cell? ⟨w5.heap.size, 1, none⟩ = some (.slice (some ⟨gl, 0, none⟩) ls.length ml) := cell_of_row _ _ _ _ _ _ hz.y
                    have x2 : wr.cell? ⟨gl, k * 3 + 2, none⟩ = some (.slice qx l0.length mx) := (World.ownsRow.cellAt hz.row _ (by omega)).trans HCF.out.2.2
                    have HZ : Hid (ZS w4 w5.heap.size x5.gen (.slice (some ⟨gl, 0, none⟩) ls.length ml) ls wr) := hz
                    by_cases hjl : j < l0.length
                    · obtain ⟨l1, hl1, hp1⟩ := hz.pcs _ hmem
                      simp only at hl1 hp1
                      obtain ⟨g, cur, hqx, hbg, hgg, hcs, _⟩ := POwn.blk hp1 (by omega)
                      subst hqx
                      obtain ⟨u0, c0⟩ := cell_some (i := j * 2) hgg (by omega)
                      obtain ⟨u1, c1⟩ := cell_some (i := j * 2 + 1) hgg (by omega)
                      have f0 := frozen_row (i := j * 2) hgg
                      have f1 := frozen_row (i := j * 2 + 1) hgg
                      obtain ⟨z1, C1, hC1⟩ := hz.over hgg hbg (i := j * 2) 0
                      obtain ⟨z2, _, _⟩ := z1.over hC1 hbg (i := j * 2 + 1) 0
                      have HZ2 : Hid _ := z2
                      clear hz z1 z2 hp1 hC1 hgg
                      go_wp2
                      go_roundw
                      case rel => exact ⟨j + 1, by omega, by go_num, HZ2.out⟩
                      case measure => simp [intOf]; omega
                    · obtain rfl : j = l0.length := by omega
                      clear hz
                      go_wp2
                      refine ⟨⟨k + 1, by omega, by go_num, HZ.out⟩, by simp [intOf]; omega⟩
                · obtain rfl : k = ls.length := by omega
                  have HBE : Hid (Below w.heap.size w wr) := HB4.out.trans (hz.bel.mono (HB4.out.size))
                  have k1 := conv_at (c := m2) (HIN4.out.below hz.bel) rfl
                  have k2 := conv_at (c := c) (HB.out.below HBE.out) rfl
                  clear hz
                  go_wp2
                  go_ret
                  exact ⟨by simp, HBE.out⟩
            · exact absurd hx5 (hno x5)
          · have hs5 := hb5.size
            have hb6 : Below w.heap.size w (w5.alloc (.cells #[.int .i64 0, .slice none 0 0] 31)) := (HB4.out.trans (hb5.mono (by omega))).alloc (by have := HB4.out.size; omega) _
            have hrr := rRead_any p c xs _ (HB.out.below hb6) hc HCM.out
            clear hb6
            go_wp2_with fail
            refine hrr.mono ?_
            rintro e7 w7 hr7
            clear hrr
            rcases hr7 with ⟨y7, ms, mv, hy7, hm7, rfl, hf7, hb7⟩ | ⟨hno7, rfl, hb7⟩
            · exact absurd hy7 (hno y7)
            · have hs7 := hb7.size
              simp at hs7
              have hY7 : w7.heap[w5.heap.size]? = some (.cells #[.int .i64 0, .slice none 0 0] 31 (0, 0)) := (hb7.block _ (by simp)).trans (heap_alloc_new w5 _)
              have hY8 : (w7.alloc (.cells #[.int .i64 0, .slice none 0 0] 31)).heap[w5.heap.size]? = some (.cells #[.int .i64 0, .slice none 0 0] 31 (0, 0)) := (Below.heap_alloc _ _ _ (by omega)).trans hY7
              have y0 : (w7.alloc (.cells #[.int .i64 0, .slice none 0 0] 31)).cell? ⟨w5.heap.size, 0, none⟩ = some (.int .i64 0) := cell_of_row _ _ _ _ _ _ hY8
              have y1 : (w7.alloc (.cells #[.int .i64 0, .slice none 0 0] 31)).cell? ⟨w5.heap.size, 1, none⟩ = some (.slice none 0 0) := cell_of_row _ _ _ _ _ _ hY8
              have hb48 : Below w4.heap.size w4 (w7.alloc (.cells #[.int .i64 0, .slice none 0 0] 31)) := ((hb5.alloc (by omega) _).trans (hb7.mono (by simp; omega))).alloc (by omega) _
              have k1 := conv_at (c := m3) (BIn.below (own_in HO4a.out HBY.out) hb48) rfl
              have k2 := conv_at (c := m4) (BIn.below (own_in HO4b.out HBY.out) hb48) rfl
              have hzd : DirIn (w7.alloc (.cells #[.int .i64 0, .slice none 0 0] 31)) (.agg #[.int .i64 0, .slice none 0 0]) zeroDir := ⟨⟨.slice none 0 0, rfl, ⟨⟨none, 0, rfl, fun h => absurd h (by simp [zeroDir]), by simp [zeroDir], by unfold maxLen; omega, fun _ => rfl⟩, by simp [zeroDir]⟩⟩, by unfold wf64 zeroDir; simp⟩
              have hsd := sameDir_yes _ _ zeroDir (w7.alloc (.cells #[.int .i64 0, .slice none 0 0] 31)) hzd hzd
              have HY8 : Hid ((w7.alloc (.cells #[.int .i64 0, .slice none 0 0] 31)).heap[w5.heap.size]? = some (.cells #[.int .i64 0, .slice none 0 0] 31 (0, 0))) := hY8
              have HB48 : Hid (Below w4.heap.size w4 (w7.alloc (.cells #[.int .i64 0, .slice none 0 0] 31))) := hb48
              clear hb48 hY8 hY7 hb5 hb7 hzd
              go_wp2_with fail
              refine hsd.mono ?_
              rintro e w9 ⟨rfl, hb9⟩
              have y9 : w9.cell? ⟨w5.heap.size, 1, none⟩ = some (.slice none 0 0) := cell_of_row _ _ _ _ _ _ ((hb9.block _ (lt_heap HY8.out)).trans HY8.out)
              have hb49 : Below w4.heap.size w4 w9 := HB48.out.trans (hb9.mono (by simp; omega))
              have HBE : Hid (Below w.heap.size w w9) := HB4.out.trans (hb49.mono HB4.out.size)
              have k5 := conv_at (c := m2) (HIN4.out.below hb49) rfl
              have k6 := conv_at (c := c) (HB.out.below HBE.out) rfl
              clear hb9 hsd k1 k2 y0 y1 hb49
              go_wp2
              go_loopw [15] (fun i wr => i = .int .i64 0 ∧ wr = w9) (fun _ _ => 0)
              case atStart => exact ⟨rfl, rfl⟩
              case round =>
                obtain ⟨rfl, rfl⟩ := hrel
                go_wp2
                go_ret
                exact ⟨by simp, HBE.out⟩
    · go_enter Tryz.func4, Tryz.ntmps4
      go_wp2
      go_ret
      exact ⟨rfl, below_alloc _ _⟩
  · go_enter Tryz.func4, Tryz.ntmps4
    go_wp2
    go_ret
    exact ⟨rfl, below_alloc _ _⟩
end Go.Proofs.YtefmkkfankpgmaaGreatDoor
namespace Go.Proofs.YtefmkkfankpgmaaGreatDoor
open Go.RowKit Go.WideShapes Rm

theorem lh.rt : (Tryz.prog.cutTypes.find? (·.1 == "internal/reflectlite.rtype")).map (·.2) = some 221 := by kernel_rfl
theorem lh.et : Tryz.prog.globalNamed "errors.errorType" = some 0 := by kernel_rfl
theorem lh.size : Tryz.prog.types.size = 322 := by kernel_rfl
theorem lh.oneRow : ((List.range 322).filter fun t => Tryz.prog.rowNamed t [101, 114, 114, 111, 114]) = [93] := by kernel_rfl
theorem lh.handle : typeHandle Tryz.prog 93 = .pointer (some ⟨5, 93, none⟩) := by kernel_rfl
def laidL : List (String × DataW Unit) := [("math/bits.deBruijn32tab", Rows.laid_math_bits_deBruijn32tab), ("math/bits.deBruijn64tab", Rows.laid_math_bits_deBruijn64tab), ("internal/strconv.uint64pow10", Rows.laid_internal_strconv_uint64pow10), ("errors.errorType", Rows.laid_errors_errorType)]
theorem errT_of {W : World} (h : handlesMet Tryz.prog [("errors.errorType", Rows.laid_errors_errorType)] W) : ErrT W := by
  obtain ⟨name, u, ty, e1, e2, e3, e4, e5⟩ := h _ (List.mem_singleton.2 rfl)
  have en : name = [101, 114, 114, 111, 114] := (Option.some.inj e1).symm
  subst en
  obtain rfl := Option.some.inj (lh.rt.symm.trans e2)
  have hm : ty ∈ (List.range 322).filter fun t => Tryz.prog.rowNamed t [101, 114, 114, 111, 114] := List.mem_filter.2 ⟨List.mem_range.2 (by rw [← lh.size]; exact e3), e4⟩
  rw [lh.oneRow] at hm
  obtain rfl := List.mem_singleton.1 hm
  rw [lh.handle] at e5
  simpa [ErrT] using World.var?_cell lh.et e5 0
theorem tab_of {W : World} (h : laidMet Tryz.prog [("internal/strconv.uint64pow10", Rows.laid_internal_strconv_uint64pow10)] W) : Lib.TabIs Tryz.prog W "internal/strconv.uint64pow10" .u64 Lib.pow10Tab :=
  Lib.tabIs_of_head (rest := []) g_pow (t := 286) (e := 116) (n := 20) (by kernel_rfl) Tryz.underlying286 Tryz.underlying116 (by kernel_rfl) (by kernel_rfl) h
theorem laid_of {W : World} (h : laidMetH Tryz.prog laidL W) : Laid W := by
  obtain ⟨h1, h2⟩ := laidMetH_iff.1 h
  refine ⟨errT_of fun x hx => h2 x ?_, tab_of ?_⟩
  · rw [List.mem_singleton.1 hx]
    exact List.mem_filter.2 ⟨by simp [laidL], by rfl⟩
  · have h3 := h1.filter (fun x => x.1 == "internal/strconv.uint64pow10")
    exact h3
end Go.Proofs.YtefmkkfankpgmaaGreatDoor
namespace Go.Proofs.YtefmkkfankpgmaaGreatDoor
open Go.RowKit

noncomputable def tabCells : DataW Unit → Array Value
  | .agg l => (l.map fun | .lit (.int k z) => .int k z | _ => .nilIface).toArray
  | _ => #[]
noncomputable def layCells (cs : Array Value) : Obj → Obj
  | .cells _ t frozen => .cells cs t frozen
  | o => o
noncomputable def gIx (s : String) : Nat := (Tryz.prog.globalNamed s).getD 0
noncomputable def laidWorld (os : Os) : World :=
  let w0 := World.holding Tryz.prog os ⟨#[], #[], []⟩
  { w0 with heap := ((((w0.heap.modify (gIx "math/bits.deBruijn32tab") (layCells (tabCells Rows.laid_math_bits_deBruijn32tab))).modify (gIx "math/bits.deBruijn64tab") (layCells (tabCells Rows.laid_math_bits_deBruijn64tab))).modify (gIx "internal/strconv.uint64pow10") (layCells (tabCells Rows.laid_internal_strconv_uint64pow10))).modify (gIx "errors.errorType") (layCells #[.iface 221 (.agg #[.pointer (some ⟨5, 93, none⟩)])])) }
def laidLs : List (String × DataW Unit) := [("math/bits.deBruijn32tab", Rows.laid_math_bits_deBruijn32tab), ("math/bits.deBruijn64tab", Rows.laid_math_bits_deBruijn64tab), ("internal/strconv.uint64pow10", Rows.laid_internal_strconv_uint64pow10), ("errors.errorType", Rows.laid_errors_errorType)]
theorem laidWorld_met (os : Os) (args : Array Value) : laidMetH Tryz.prog laidLs ((laidWorld os).forCall (fun _ _ => 0) ⟨#[], args, []⟩).memory :=
  laidMetH_of_parts (laidMet_of_run' 8 (by kernel_rfl) (by kernel_rfl)) (by kernel_rfl)
end Go.Proofs.YtefmkkfankpgmaaGreatDoor
namespace Go.Proofs.YtefmkkfankpgmaaGreatDoor.filesDirs
open Go.ChangeShapes Go.WideShapes Go.ChangeAt Go.RowKit Go.Deep Go.Joins Rm
set_option linter.unusedVariables false

theorem own : ownKnob Tryz.prog.godebug = none := by kernel_rfl
theorem laidOut : laidOutB Tryz.prog = true := by kernel_rfl
open Go.Joins

theorem open_dir {P : Program} {w : World} {H : Type} {enc : TypeId × Value → H} {r : Reach} {b0 : Nat} {t : TypeId} {g0 g1 : Field} {v : Value} {d : DataW H} {p : List MemPlace} {tf e tp ep : TypeId} {f0 f1 f2 p0 p1 : Field}
    (hs : P.underlying t = some (.struct #[g0, g1])) (hone : oneCellFields P #[g0, g1] = true) (hC : P.cellsOf t = 2) (kg0 : P.underlying g0.type = some (.int .i64)) (kg1 : g1.type = tf)
    (ht : P.underlying tf = some (.slice e)) (he : P.underlying e = some (.struct #[f0, f1, f2])) (ce : P.cellsOf e = 3)
    (o0 : f0.offset = 0) (o1 : f1.offset = 1) (o2 : f2.offset = 2) (c0 : P.cellsOf f0.type = 1) (c1 : P.cellsOf f1.type = 1) (c2 : P.cellsOf f2.type = 1) (k0 : P.underlying f0.type = some .string) (k1 : P.underlying f1.type = some (.int .i64)) (k2 : f2.type = tp)
    (htp : P.underlying tp = some (.slice ep)) (hep : P.underlying ep = some (.struct #[p0, p1])) (cep : P.cellsOf ep = 2) (q0 : p0.offset = 0) (q1 : p1.offset = 1) (d0 : P.cellsOf p0.type = 1) (d1 : P.cellsOf p1.type = 1) (m0 : P.underlying p0.type = some (.int .i64)) (m1 : P.underlying p1.type = some (.int .i64))
    (hv : Value.okWide P w r b0 t v) (h : DataW.Trod enc P w 0 (fun _ => true) true t v d p) : ∃ x, DirIn w v x := by
  obtain ⟨v0, v1, y0, y1, n, rfl, rfl, _, h0, h1⟩ := open_agg2 hs hone hC hv h
  obtain ⟨z, hz, _, wz⟩ := DataW.trod_int kg0 h0
  simp only [List.cons.injEq, and_true] at hz
  subst hz
  rw [kg1] at h1
  obtain ⟨l, hl, _⟩ := open_files ht he ce o0 o1 o2 c0 c1 c2 k0 k1 k2 htp hep cep q0 q1 d0 d1 m0 m1 h1
  exact ⟨⟨z, l⟩, ⟨⟨v1, rfl, hl⟩, bounds_i64 wz⟩⟩

set_option maxHeartbeats 4000000 in
set_option maxRecDepth 100000 in
theorem lifted (os : Os) (started : os.Started) (H : Type) (enc : TypeId × Value → H) :
    ReturnsInHanded {} Tryz.checked os 4 .any (fun w args => (Rows.filesDirsSpec.pre enc Tryz.prog Tryz.f4 [] false w args ∧ laidMetH Tryz.prog laidLs w) ∧ sizedMet enc Tryz.prog Tryz.f4 (OpenSpec.ofChange Rows.filesDirsSpec) false w args)
      (Rows.filesDirsSpec.post enc Tryz.prog Tryz.f4 false true false false) := by
  refine returnsInHanded_of_change_and (C := Tryz.checked) (X := fun w _ => laidMetH Tryz.prog laidLs w) (fun _ _ _ hh h => h.of_heap hh) own started (by kernel_rfl) Tryz.func4
    (ChangeSpec.witness_at (enc := enc) (C := Tryz.checked) (os := os) (X := fun w _ => laidMetH Tryz.prog laidLs w) false (laidWorld os) #[.agg #[.int .i64 0, .slice none 0 0], .slice none 0 0] 8 rfl (by kernel_rfl) (by kernel_rfl) (by kernel_rfl) (by kernel_rfl) (by kernel_rfl) (laidWorld_met os _)) ?_
  intro W base args ds gs before hval0 hW _ _ hL _
  have hval : ∀ (j : Nat) t v, Tryz.f4.params[j]? = some t → args[j]? = some v → Value.okWide Tryz.prog W .any base t v := hval0
  have hW' := hW
  obtain ⟨p, q, hA0, hV, rfl, hfz, hnd⟩ := hW
  have hA : DataW.TrodAll enc Tryz.prog W 0 (fun _ => true) true Tryz.f4.params.toList args.toList ds p := hA0
  rw [Tryz.params4] at hA hval
  obtain ⟨v0, vs0, d0, ds0, p0, q0, hargs, rfl, rfl, h0, r0⟩ := trodAll_cons hA
  obtain ⟨v1, vs1, d1, ds1, p1, q1, rfl, rfl, rfl, h1, r1⟩ := trodAll_cons r0
  obtain ⟨rfl, rfl, rfl⟩ := trodAll_nil r1
  obtain rfl : args = #[v0, v1] := by cases args; simp_all
  obtain ⟨rfl, rfl⟩ := trodVars_none hV
  have k0 := h0
  have lt0 : ∀ x ∈ p0, x.block < W.heap.size := by obtain ⟨m, hm⟩ := k0; exact DataW.trod_lt m _ _ _ hm
  have k1 := h1
  have lt1 : ∀ x ∈ p1, x.block < W.heap.size := by obtain ⟨m, hm⟩ := k1; exact DataW.trod_lt m _ _ _ hm
  obtain ⟨x0, w0⟩ := open_dir (t := 31) (tf := 29) (e := 51) (tp := 49) (ep := 53) Tryz.underlying31 (by kernel_rfl) (by kernel_rfl) Tryz.underlying3 rfl Tryz.underlying29 Tryz.underlying51 (by kernel_rfl) rfl rfl rfl (by kernel_rfl) (by kernel_rfl) (by kernel_rfl) Tryz.underlying9 Tryz.underlying3 rfl Tryz.underlying49 Tryz.underlying53 (by kernel_rfl) rfl rfl (by kernel_rfl) (by kernel_rfl) Tryz.underlying3 Tryz.underlying3 (hval 0 31 v0 rfl rfl) h0
  obtain ⟨qa1, la1, ca1, rfl⟩ := okWide_slice Tryz.underlying22 (hval 1 22 v1 rfl rfl)
  obtain ⟨fu1, hf1⟩ := h1
  obtain ⟨xs1, q1, c1, ev1, b1, hc1, hm1, hn1⟩ := open_bytes Tryz.underlying22 Tryz.underlying5 (by kernel_rfl) hf1
  clear hA0 hval0
  simp only [Value.slice.injEq] at ev1
  obtain ⟨rfl, rfl, rfl⟩ := ev1
  refine (law_dirs v0 x0 qa1 ca1 xs1 W (laid_of hL) w0 b1 hc1 hm1 hn1).mono fun e W' ⟨he, bel⟩ => ?_
  subst he
  exact ⟨_, rfl, _, _, _, [], _, [], hW', trodAll_mk1 (shut_bool Tryz.underlying4 _), (trodAll_cons_mk (Below.trod laidOut (by kernel_rfl) (of_decide_eq_true (by kernel_rfl)) k0 bel lt0) (trodAll_cons_mk (Below.trod laidOut (by kernel_rfl) (of_decide_eq_true (by kernel_rfl)) k1 bel lt1) trodAll_mk0)), rfl, bel.frame _, fun h => by cases h⟩

theorem over : Rows.FilesDirsSaid :=
  OpenClaim.holds_of_wide 4 Tryz.f4 rfl rfl rfl rfl rfl rfl rfl ⟨rfl, rfl, rfl, rfl, rfl⟩ rfl rfl rfl rfl rfl (by kernel_rfl) Tryz.func4 (by kernel_rfl)
    (of_decide_eq_true (by kernel_rfl)) (by unfold Func.isWrapper; first | (rw [if_pos (by decide +kernel)]; kernel_rfl) | (rw [if_neg (by decide +kernel)]; exact ⟨rfl, rfl⟩))
    (fun os started H enc _ => lifted os started H enc)
end Go.Proofs.YtefmkkfankpgmaaGreatDoor.filesDirs
namespace Go.Proofs.YtefmkkfankpgmaaGreatDoor
open Go

theorem filesDirs_card : Rows.FilesDirsCardSaid :=
  Claim7.holds_tied_plain_at .later [] [.data, .data, .data, .handle] true (true, "9b28a05ef4b325f428465c486aee340e6fee36d71384aeeba7425e8bc17b6a1c") true
    filesDirs.over (fun _ h => by cases h) (by kernel_rfl) (fun _ h => by cases h) filesDirs_row_tie rfl ⟨rfl, rfl⟩ (by kernel_rfl) rfl
    (fun f fn hf hfn => by
      obtain rfl : f = 4 := Option.some.inj ((show Tryz.prog.funcNamed "docket/docketlaw04.FilesDirs" = some 4 by kernel_rfl).symm.trans hf) |>.symm
      obtain rfl : fn = Tryz.f4 := (Option.some.inj (Tryz.func4.symm.trans hfn)).symm
      exact ⟨by kernel_rfl, fun j t ht => by
        rw [Tryz.params4] at ht
        have h3 : t = 31 ∨ t = 22 := by
          rcases j with _ | _ | j
          · exact .inl (by simpa using ht.symm)
          · exact .inr (by simpa using ht.symm)
          · simp at ht
        rcases h3 with rfl | rfl
        · exact (show Tryz.prog.wantsStandIn 31 = false by kernel_rfl)
        · exact (show Tryz.prog.wantsStandIn 22 = false by kernel_rfl)⟩)
    (by kernel_rfl)
#print axioms filesDirs_card
end Go.Proofs.YtefmkkfankpgmaaGreatDoor
