/-
  Contract of the call settle: on a disk of the caller's own, behind a pointer, the writes that wait are made sure, in order.
-/
import Derived.Test.YteabacpalnamdaaDWaits
namespace Go.Proofs.Yteabacpalnamdaa
open Go.RowKit Go.WideShapes
attribute [local go_sem ↓] Go.wp_at_zero Go.wp_at_succ

theorem grown_trans {a b c : World} {r : Option Nat} (h : a.grownBy b r) (k : b.grownBy c r) : a.grownBy c r :=
  ⟨k.os.trans h.os, k.tape.trans h.tape, k.output.trans h.output, Nat.le_trans h.size k.size, fun x hx hr => (k.block x (Nat.lt_of_lt_of_le hx h.size) hr).trans (h.block x hx hr)⟩
theorem grown_of_below {a b : World} (r : Option Nat) (h : Below a.heap.size a b) : a.grownBy b r := ⟨h.os, h.tape, h.output, h.size, fun x hx _ => h.block x hx⟩
theorem below_of_grown {a b : World} {g base : Nat} (h : a.grownBy b (some g)) (hs : base ≤ a.heap.size) (hg : base ≤ g) : Below base a b :=
  (Below.refl _ _).grown h hs (fun k hk => by cases hk; exact hg)
theorem grown_drew (a : World) (r : Option Nat) : a.grownBy a.drew r := ⟨rfl, rfl, rfl, Nat.le_refl _, fun _ _ _ => rfl⟩
theorem grown_setRow (w : World) (g : Nat) (cs : Array Value) : w.grownBy (w.setRow g cs) (some g) :=
  ⟨rfl, rfl, rfl, by simp, fun x _ hx => setRow_other w g x cs (fun e => hx (by rw [e]))⟩

/-- copy into a row that is known whole: that row alone turns. -/
theorem step_copy_grown {P : Program} {ops : Array Oper} {o : Oper} {a : Act} {w : World} {K : Act → World → Prop} {Q : Exit → Act → World → Prop} {E : Prop} (hgd : o.guard = none) (d s : Operand) (dT sT : TypeId)
    (ho : o.op = .call { callee := .builtin .copy, args := #[d, s], argTypes := #[dT, sT] }) (elem : TypeId) (hu : P.underlying dT = some (.slice elem)) (hsz : (P.info? elem).map (·.size) = some 1)
    (g off : Nat) (ad : Addr) (dLen dCap sLen sCap : Nat) (hd : a.eval d = .slice (some ⟨g, off, none⟩) dLen dCap) (hs : a.eval s = .slice (some ad) sLen sCap)
    (cur : List Value) (t : TypeId) (hg : w.heap[g]? = some (.cells cur.toArray t (0, 0))) (cs : List Value) (hn : cs.length = Nat.min sLen dLen)
    (hsrc : ∀ j v, cs[j]? = some v → w.cell? (ad.add j) = some v) (hfit : off + cs.length ≤ cur.length) (h1 : ∀ v ∈ cs, v.oneCell' = true)
    (h : ∀ w', Hid (w'.heap[g]? = some (.cells (splice cur off cs).toArray t (0, 0))) → w.grownBy w' (some g) → K (a.put o.dst (goInt cs.length)) w') :
    if Region.wanted o (yielded ops a.tmps) = true then Oper.wp P o a w K Q else E := by
  have hw : Region.wanted o (yielded ops a.tmps) = true := by simp [Region.wanted, hgd]
  rw [if_pos hw]
  have hrun := run_copy_row (P := P) w dT sT o.type elem g off dLen dCap ad sLen sCap cur.toArray t cs hu hsz hg hn hsrc (by simpa using hfit) h1
  unfold Oper.wp
  simp [execOp, ho, resolve, invoke, builtin, hd, hs, hrun, Result.andThen]
  exact h _ (show _ = _ by simpa [splice] using setRow_heap w g _ _ t _ hg) (by simpa using grown_setRow w g _)

/-- A disk of the call's own behind a pointer: the block B0 of its fields, the row gd of its sectors, its writes. -/
structure DiskOwn (w : World) (base B0 gd : Nat) (count : Int) (data : List Nat) (q : Option Addr) (m : Nat) (ws : Puts) (gs : List Nat) : Prop where
  box : w.heap[B0]? = some (.cells #[.int .i64 count, .slice (some ⟨gd, 0, none⟩) data.length data.length, .slice q ws.length m] 25 (0, 0))
  hB : base ≤ B0
  hgd : base ≤ gd
  drow : w.heap[gd]? = some (.cells (Bs data).toArray 5 (0, 0))
  puts : PutsOwn w base (.slice q ws.length m) ws gs
  apart : ∀ i, i < ws.length → gs.getD i 0 ≠ gd
  bytes : ∀ c ∈ data, c < 256
theorem DiskOwn.below {w w' : World} {base B0 gd : Nat} {count : Int} {data : List Nat} {q : Option Addr} {m : Nat} {ws : Puts} {gs : List Nat} (h : DiskOwn w base B0 gd count data q m ws gs) (hb : Below w.heap.size w w') : DiskOwn w' base B0 gd count data q m ws gs :=
  ⟨(hb.block _ (lt_heap h.box)).trans h.box, h.hB, h.hgd, (hb.block _ (lt_heap h.drow)).trans h.drow, h.puts.below hb, h.apart, h.bytes⟩
theorem PutsOwn.grown {w w' : World} {base gd : Nat} {v : Value} {ws : Puts} {gs : List Nat} {cs : Array Value} (h : PutsOwn w base v ws gs) (hd : w.heap[gd]? = some (.cells cs 5 (0, 0))) (ha : ∀ i, i < ws.length → gs.getD i 0 ≠ gd) (hg : w.grownBy w' (some gd)) : PutsOwn w' base v ws gs := by
  refine h.keep (fun g cur _ e => hg.block g (lt_heap e) ?_) (fun i hi => hg.block _ (lt_heap (h.rows i hi).2) ?_)
  · intro e'
    simp only [Option.some.injEq] at e'
    subst e'
    rw [hd] at e
    simp at e
  · intro e'
    simp only [Option.some.injEq] at e'
    exact ha i hi e'
theorem DiskOwn.cells {w : World} {base B0 gd : Nat} {count : Int} {data : List Nat} {q : Option Addr} {m : Nat} {ws : Puts} {gs : List Nat} (h : DiskOwn w base B0 gd count data q m ws gs) :
    w.cell? ⟨B0, 0, none⟩ = some (.int .i64 count) ∧ w.cell? ⟨B0, 1, none⟩ = some (.slice (some ⟨gd, 0, none⟩) data.length data.length) ∧ w.cell? ⟨B0, 2, none⟩ = some (.slice q ws.length m) :=
  ⟨cell_of_row _ _ _ _ _ _ h.box, cell_of_row _ _ _ _ _ _ h.box, cell_of_row _ _ _ _ _ _ h.box⟩
theorem putS_bytes {data : List Nat} {y : Int × List Nat} (hd : ∀ c ∈ data, c < 256) (hy : ∀ c ∈ y.2, c < 256) : ∀ c ∈ putS data y, c < 256 := by
  intro c hc
  simp only [putS, splice, List.mem_append] at hc
  rcases hc with h | h | h
  · exact hd c (List.mem_of_mem_take h)
  · exact hy c h
  · exact hd c (List.mem_of_mem_drop h)
theorem settleK_bytes {data : List Nat} {ws : Puts} (hd : ∀ c ∈ data, c < 256) (hy : ∀ y ∈ ws, ∀ c ∈ y.2, c < 256) : ∀ k, k ≤ ws.length → ∀ c ∈ settleK data ws k, c < 256
  | 0, _ => hd
  | k + 1, hk => putS_bytes (settleK_bytes hd hy k (by omega)) (hy _ (getD_mem hk))
theorem crashK_bytes {data : List Nat} {ws : Puts} {keep : List Bool} (hd : ∀ c ∈ data, c < 256) (hy : ∀ y ∈ ws, ∀ c ∈ y.2, c < 256) : ∀ k, k ≤ ws.length → ∀ c ∈ crashK data ws keep k, c < 256
  | 0, _ => hd
  | k + 1, hk => by
    rw [crashK]
    split
    · exact putS_bytes (crashK_bytes hd hy k (by omega)) (hy _ (getD_mem hk))
    · exact crashK_bytes hd hy k (by omega)
theorem DiskOwn.ne {w : World} {base B0 gd : Nat} {count : Int} {data : List Nat} {q : Option Addr} {m : Nat} {ws : Puts} {gs : List Nat} (h : DiskOwn w base B0 gd count data q m ws gs) : B0 ≠ gd := by
  intro e
  have h1 := h.box
  rw [e, h.drow] at h1
  simp at h1

set_option maxHeartbeats 2000000 in
theorem settle_any (base B0 gd : Nat) (count : Int) (data : List Nat) (q : Option Addr) (m : Nat) (ws : Puts) (gs : List Nat) (w : World) (hd : DiskOwn w base B0 gd count data q m ws gs) (ho : Okay count data ws) (hbs : base ≤ w.heap.size) :
    Calls Try.prog 44 #[.pointer (some ⟨B0, 0, none⟩)] w fun e w' => e = .returned (.tuple #[]) ∧ DiskOwn w' base B0 gd count (settleN data ws) none 0 [] [] ∧ Below base w w' := by
  obtain ⟨hc0, hc1, hc2⟩ := hd.cells
  have hfew := ho.few
  have hhi := ho.hi
  have hlen := ho.len
  go_enter Try.func44, Try.ntmps44
  go_wp2
  go_loopw [9] (fun i wr => ∃ k : Nat, k ≤ ws.length ∧ i = .int .i64 k ∧ Hid (wr.heap[gd]? = some (.cells (Bs (settleK data ws k)).toArray 5 (0, 0))) ∧ w.grownBy wr (some gd)) (fun i _ => ws.length - (intOf i).toNat)
  case atStart => exact ⟨0, by omega, rfl, hd.drow, grown_of_below _ (Below.refl _ _)⟩
  case round =>
    obtain ⟨k, hk, rfl, hrow, hgr⟩ := hrel
    have hne := hd.ne
    have hn1 : some B0 ≠ some gd := fun e => hne (by simpa using e)
    have r0 := hgr.cell hc0 hn1
    have r1 := hgr.cell hc1 hn1
    have r2 := hgr.cell hc2 hn1
    by_cases hkl : k < ws.length
    · have hp := hd.puts.grown hd.drow hd.apart hgr
      have hq := hp.lies.2.1
      obtain ⟨b, o, rfl⟩ := hq.addr (by omega)
      obtain ⟨e1, pk, ck, e2, hbk⟩ := hq.at2 hkl
      have hw := ho.wait hkl
      have HS : Hid (settleK data ws (k + 1) = putS (settleK data ws k) (ws.getD k (0, []))) := rfl
      have HL : Hid ((settleK data ws k).length = data.length) := settleK_len ho k hk
      rw [hw.2.2] at e2
      have hlt := lt_heap hrow.out
      clear hq hp ho
      generalize ws.getD k (0, []) = y at *
      obtain ⟨s, xs⟩ := y
      simp only at e1 e2 hbk hw
      obtain ⟨hw1, hw2, hw3⟩ := hw
      obtain ⟨n, rfl⟩ := Int.eq_ofNat_of_zero_le hw1
      have HX : Hid (xs.length = 128) := hw3
      have hnl : (n + 1) * 128 ≤ data.length := by omega
      obtain ⟨b', o', rfl⟩ := hbk.addr (by omega)
      have HW : Hid (∀ j v, (Bs xs)[j]? = some v → (wr.alloc (.cells #[.int .i64 n, .slice (some ⟨b', o', none⟩) 128 ck] 51)).drew.cell? ((⟨b', o', none⟩ : Addr).add j) = some v) := bin_news (hbk.alloc _)
      have HC : Hid ((wr.alloc (.cells #[.int .i64 n, .slice (some ⟨b', o', none⟩) 128 ck] 51)).cell? ⟨wr.heap.size, 0, none⟩ = some (.int .i64 n) ∧ (wr.alloc (.cells #[.int .i64 n, .slice (some ⟨b', o', none⟩) 128 ck] 51)).cell? ⟨wr.heap.size, 1, none⟩ = some (.slice (some ⟨b', o', none⟩) 128 ck)) := put_cells (Below.refl _ _)
      have HR : Hid ((wr.alloc (.cells #[.int .i64 n, .slice (some ⟨b', o', none⟩) 128 ck] 51)).drew.heap[gd]? = some (.cells (Bs (settleK data ws k)).toArray 5 (0, 0))) := ((below_alloc wr _).block gd hlt).trans hrow.out
      have hg1 : w.grownBy (wr.alloc (.cells #[.int .i64 n, .slice (some ⟨b', o', none⟩) 128 ck] 51)) (some gd) := grown_trans hgr (grown_of_below _ (below_alloc wr _))
      have r1' : Hid ((wr.alloc (.cells #[.int .i64 n, .slice (some ⟨b', o', none⟩) 128 ck] 51)).cell? ⟨B0, 1, none⟩ = some (.slice (some ⟨gd, 0, none⟩) data.length data.length)) := hg1.cell hc1 hn1
      have hl : Hid ((Bs xs).length = Nat.min 128 128) := by show _ = _; rw [Bs_len, HX.out]; rfl
      have hf : Hid (n * 128 + (Bs xs).length ≤ (Bs (settleK data ws k)).length) := by show _ ≤ _; rw [Bs_len, Bs_len, HX.out, HL.out]; omega
      have hs2 : Hid (splice (Bs (settleK data ws k)) (n * 128) (Bs xs) = Bs (settleK data ws (k + 1))) := by show _ = _; rw [Bs_splice, HS.out]; rfl
      have hn2 : Hid (some wr.heap.size ≠ some gd) := by show _ ≠ _; intro e; simp only [Option.some.injEq] at e; omega
      have hn1' : Hid (some B0 ≠ some gd) := hn1
      clear hn1 hne hw3 HL HS hbk
      go_wp2
      clear e1 e2 r0 r1 r2
      obtain ⟨w1, hw1⟩ : ∃ w1, w1 = wr.alloc (.cells #[.int .i64 n, .slice (some ⟨b', o', none⟩) 128 ck] 51) := ⟨_, rfl⟩
      rw [← hw1] at HW HC HR hg1 r1' ⊢
      clear hw1
      have HC' := HC
      replace HC := HC.out
      have r1 := r1'.out
      go_region_held3 (fun w' => (w'.cell? ⟨wr.heap.size, 0, none⟩ = some (.int .i64 n) ∧ w'.cell? ⟨wr.heap.size, 1, none⟩ = some (.slice (some ⟨b', o', none⟩) 128 ck)) ∧ w'.cell? ⟨B0, 1, none⟩ = some (.slice (some ⟨gd, 0, none⟩) data.length data.length)) (first | go_keep | exact ⟨c2_grown HC'.out (grown_trans (grown_drew _ _) hg2) hn2.out, (grown_trans (grown_drew _ _) hg2).cell r1'.out hn1'.out⟩)
        (first
          | (go_at_call 34; refine (sector_any gd 0 data.length data.length n _ (by omega) hnl (by omega)).mono ?_; rintro e w1 ⟨rfl, rfl⟩)
          | (refine step_copy_grown (by rfl) (.tmp 19) (.tmp 21) 22 22 (by rfl) 5 Try.underlying22 size_u8 gd (n * 128) ⟨b', o', none⟩ 128 (data.length - n * 128) 128 ck (by simp [Act.eval]) (by simp [Act.eval]) (Bs (settleK data ws k)) 5 HR.out (Bs xs) hl.out HW.out hf.out (Bs_oneCell _) ?_; intro w2 hrow2 hg2)
          | fail)
      have hrow3 : Hid (w2.heap[gd]? = some (.cells (Bs (settleK data ws (k + 1))).toArray 5 (0, 0))) := by show _ = _; rw [← hs2.out]; exact hrow2.out
      have hg3 : w.grownBy w2 (some gd) := grown_trans hg1 (grown_trans (grown_drew _ _) hg2)
      clear hrow2 hg2 HR HW
      go_wp2
      go_roundw
      case rel => exact ⟨k + 1, by omega, by go_num, hrow3, hg3⟩
      case measure => simp [intOf]; omega
    · obtain rfl : k = ws.length := by omega
      have hbox : wr.heap[B0]? = some (.cells #[.int .i64 count, .slice (some ⟨gd, 0, none⟩) data.length data.length, .slice q ws.length m] 25 (0, 0)) := (hgr.block _ (lt_heap hd.box) hn1).trans hd.box
      have hfr := frozen_of_row wr B0 2 _ _ hbox
      have HB : Hid _ := heap_setCell_same wr B0 2 _ _ (.slice none 0 0) hbox
      have HD : Hid ((wr.setCell ⟨B0, 2, none⟩ (.slice none 0 0)).heap[gd]? = some (.cells (Bs (settleN data ws)).toArray 5 (0, 0))) := (heap_setCell_other wr ⟨B0, 2, none⟩ gd _ (fun e => hne e.symm)).trans hrow.out
      have HL : Hid ((settleN data ws).length = data.length) := settleK_len ho _ (Nat.le_refl _)
      have hbel : Below base w (wr.setCell ⟨B0, 2, none⟩ (.slice none 0 0)) := (below_of_grown hgr hbs hd.hgd).setCell hd.hB _
      have HF : Hid (DiskOwn (wr.setCell ⟨B0, 2, none⟩ (.slice none 0 0)) base B0 gd count (settleN data ws) none 0 [] []) := by
        refine ⟨?_, hd.hB, hd.hgd, HD.out, putsOwn_nil _ _, fun i hi => absurd hi (by simp), settleK_bytes hd.bytes (fun y hy => (hd.puts.full y hy).2) _ (Nat.le_refl _)⟩
        rw [HL.out]
        exact HB.out
      clear hbox HB HD HL hrow
      go_wp2
      go_end0
      exact ⟨rfl, HF.out, hbel⟩
end Go.Proofs.Yteabacpalnamdaa
