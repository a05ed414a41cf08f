import Derived.Test.YtghcmllmbpoidaaGreatDoorJ16
import Derived.Lib.BufferWrite
import Derived.Laws.MakeOwn
import Derived.Laws.CopyOwn
import Derived.Laws.Concat
import Derived.Shelf.SlGeneric
import Derived.Ground.SlgcProg
import Derived.Ground.SlsfProg
import Derived.Shelf.SlicesG.Cmp
import Derived.Shelf.SlSortCmp.WholeK
import Derived.Shelf.SlSortCmp.NoneTotal
import Derived.Test.YtghcmllmbpoidaaGreatDoorProg
import Derived.Lib.Bytealg
import Derived.Lib.Strings
import Derived.Lib.Walk
import Derived.Test.YtghcmllmbpoidaaGreatDoorJ07
import Derived.Test.YtghcmllmbpoidaaGreatDoorJ15
import Derived.Test.YtghcmllmbpoidaaGreatDoorJ14
import Derived.Deep.QuietTactic
import Derived.BigQuiet
namespace Go.Proofs.YtghcmllmbpoidaaGreatDoor
open Go.RowKit Go.WideShapes Rm
def secsA (o : Nat) (xs : List Nat) (k : Nat) : Acts := (List.range k).map fun i => (false, ((o + i : Nat) : Int), secAt xs i)
theorem secsA_snoc (o : Nat) (xs : List Nat) (k : Nat) : secsA o xs (k + 1) = secsA o xs k ++ [(false, ((o + k : Nat) : Int), secAt xs k)] := by
  unfold secsA; rw [List.range_succ, List.map_append]; rfl
set_option maxRecDepth 8000 in
set_option maxHeartbeats 2000000 in
theorem slotActs_any (a : Nat) (p : Option Addr) (c : Nat) (xs : List Nat) (w : World) (ha : a ≤ 5000) (hb : BIn w p xs) (hlen : xs.length = 1024) (hc : 1024 ≤ c) (hcm : c ≤ maxLen) :
    Calls Tryz.prog 63 #[.int .i64 (a : Int), .slice p 1024 c] w fun e w' => ∃ v l, e = .returned v ∧ OnA w v l w' ∧ l.map Prod.fst = secsA a xs 8 ++ [flA] := by
  obtain ⟨b, o, rfl, _⟩ := hb.1 (by omega)
  have HB : Hid (BIn w (some ⟨b, o, none⟩) xs) := hb
  have HLN : Hid (xs.length = 1024) := hlen
  unfold maxLen at hcm
  have haI : (a : Int) ≤ 5000 := by omega
  clear hb hlen
  go_enter Tryz.func63, Tryz.ntmps63
  go_wp2
  go_loopw [5, 8] (fun v i wr => ∃ (k : Nat) (l : List ActF), k ≤ 8 ∧ i = .int .i64 (k : Int) ∧ l.map Prod.fst = secsA a xs k ∧ OnA w v l wr) (fun _ i _ => 8 - (intOf i).toNat)
  case atStart => exact ⟨0, [], by omega, rfl, rfl, aown_nil _ _, Below.refl _ _⟩
  case round =>
    obtain ⟨k, l, hk, rfl, hml, hz⟩ := hrel
    obtain ⟨vq, vm, rfl, _, _, _⟩ := hz.own.form
    have HZ : Hid (OnA w (.slice vq l.length vm) l wr) := hz
    have HML : Hid (l.map Prod.fst = secsA a xs k) := hml
    have HLK : Hid (l.length = k) := by have := congrArg List.length hml; unfold secsA at this; show _ = _; simpa using this
    obtain ⟨lp, hlp⟩ : ∃ lp, l.length = lp := ⟨_, rfl⟩
    have HLP : Hid (l.length = lp) := hlp
    rw [hlp] at HZ ⊢
    clear hz hml hlp
    by_cases hk8 : k < 8
    · have hsl : (secAt xs k).length = 128 := secAt_len HLN.out hk8
      have hsb : BIn wr (some ⟨b, o + k * 128, none⟩) (secAt xs k) := bin_part4 (HB.out.below HZ.out.bel) (k * 128) 128 (by have := HLN.out; omega)
      have hcl := cloneB_some b (o + k * 128) ((k + 1) * 128 - k * 128) (c - k * 128) (secAt xs k) wr (by omega) (by omega) hsb
      have HS : Hid (secsA a xs (k + 1) = secsA a xs k ++ [(false, ((a + k : Nat) : Int), secAt xs k)]) := secsA_snoc a xs k
      have HK : Hid (k < 8) := hk8
      clear hsb hsl
      generalize secAt xs k = S at *
      go_wp2_with fail
      refine hcl.mono ?_
      rintro e w2 ⟨dv, rfl, hdo, hb2⟩
      obtain ⟨dq, dm, rfl, _, _, _⟩ := own_form hdo.own
      have HD : Hid (DataO w2 w.heap.size (.slice dq S.length dm) S) := hdo.mono HZ.out.bel.size
      have H2 : Hid (OnA w (.slice vq lp vm) l w2) := HZ.out.next hb2
      obtain ⟨ds, hds⟩ : ∃ ds, S.length = ds := ⟨_, rfl⟩
      rw [hds] at HD ⊢
      clear hcl hdo hb2 hds HZ
      have HI : Hid ((a : Int) + (k : Int) = ((a + k : Nat) : Int)) := by show _ = _; omega
      have H3 : Hid (OnA w (.slice vq lp vm) l (w2.alloc (.cells #[.bool false, .int .i64 ((a : Int) + (k : Int)), .slice dq ds dm] 90))) := H2.out.next (below_alloc _ _)
      have HD3 : Hid (∀ y ∈ [((false, (a : Int) + (k : Int), S), Value.slice dq ds dm)], DataO (w2.alloc (.cells #[.bool false, .int .i64 ((a : Int) + (k : Int)), .slice dq ds dm] 90)) w.heap.size y.2 y.1.2.2) := by
        intro y hy
        rw [List.mem_singleton.1 hy]
        exact HD.out.below (below_alloc _ _)
      have HC : Hid (∀ j u, (cellsT [((false, (a : Int) + (k : Int), S), Value.slice dq ds dm)])[j]? = some u → (w2.alloc (.cells #[.bool false, .int .i64 ((a : Int) + (k : Int)), .slice dq ds dm] 90)).cell? ((⟨w2.heap.size, 0, none⟩ : Addr).add j) = some u) := one_act _ _ _ _ _ _ rfl
      go_wp2_with (at_builtin; go_loud ((refine wpList_append_acts _ rfl _ _ rfl w.heap.size (.slice vq lp vm) l [((false, (a : Int) + (k : Int), S), .slice dq ds dm)] ⟨w2.heap.size, 0, none⟩ 1 1 rfl rfl rfl H3.out.own HD3.out HC.out (by have := HLK.out; have := HK.out; simp only [List.length_cons, List.length_nil]; omega) H3.out.bel.size ?_); intro v5 w5 ho5 hg5; have H5 : Hid (OnA w v5 (l ++ [((false, (a : Int) + (k : Int), S), .slice dq ds dm)]) w5) := H3.out.app hg5 ho5; clear ho5 hg5))
      go_roundw
      case rel => exact ⟨k + 1, _, HK.out, by go_num, by rw [List.map_append, HML.out, HS.out, HI.out]; rfl, H5.out⟩
      case measure => have := HK.out; simp [intOf]; omega
    · obtain rfl : k = 8 := by omega
      clear hk8 hk
      have H3 : Hid (OnA w (.slice vq lp vm) l (wr.alloc (.cells #[.bool true, .int .i64 0, .slice none 0 0] 90))) := HZ.out.next (below_alloc _ _)
      have HD3 : Hid (∀ y ∈ [((true, (0 : Int), ([] : List Nat)), Value.slice none 0 0)], DataO (wr.alloc (.cells #[.bool true, .int .i64 0, .slice none 0 0] 90)) w.heap.size y.2 y.1.2.2) := by
        intro y hy
        rw [List.mem_singleton.1 hy]
        exact ⟨World.ownsRow_nil _ _ _ _, fun c hc => by cases hc⟩
      have HC : Hid (∀ j u, (cellsT [((true, (0 : Int), ([] : List Nat)), Value.slice none 0 0)])[j]? = some u → (wr.alloc (.cells #[.bool true, .int .i64 0, .slice none 0 0] 90)).cell? ((⟨wr.heap.size, 0, none⟩ : Addr).add j) = some u) := one_act _ _ _ _ _ _ rfl
      go_wp2_with (at_builtin; go_loud ((refine wpList_append_acts _ rfl _ _ rfl w.heap.size (.slice vq lp vm) l [((true, (0 : Int), ([] : List Nat)), .slice none 0 0)] ⟨wr.heap.size, 0, none⟩ 1 1 rfl rfl rfl H3.out.own HD3.out HC.out (by have := HLK.out; simp only [List.length_cons, List.length_nil]; omega) H3.out.bel.size ?_); intro v5 w5 ho5 hg5; have H5 : Hid (OnA w v5 (l ++ [((true, (0 : Int), ([] : List Nat)), .slice none 0 0)]) w5) := H3.out.app hg5 ho5; clear ho5 hg5))
      go_ret
      exact ⟨_, _, rfl, H5.out, by rw [List.map_append, HML.out]; rfl⟩
theorem below_drC {w w' : World} (h : Below w.drew.heap.size w.drew w') : Below w.heap.size w w' := ((Below.refl _ _).drew).trans h
def emptyD : DirV := ⟨1, []⟩
theorem empty_may : May ltS emptyD := ⟨by decide, by decide, by simp [emptyD], by simp [emptyD, Rises], by decide +kernel, by simp [emptyD]⟩
theorem empty_dir : IsDir ltS emptyD (bytesN emptyD) := ⟨empty_may, by decide +kernel, rfl⟩
def FmtIs (n : Nat) (D : List Nat) : Prop := doN (n : Int) (List.replicate (n * 128) 0, []) (turnA [] 0 emptyD) = .ok (D, [])
theorem zeros_okay {n : Nat} (h1 : 96 ≤ n) (h2 : n ≤ 4096) : Okay (n : Int) (List.replicate (n * 128) 0) [] := by
  refine ⟨by omega, by omega, by simp, by simp, by simp⟩
theorem fmt_ex {n : Nat} (h1 : 96 ≤ n) (h2 : n ≤ 4096) : ∃ D, FmtIs n D := by
  have hl : (turnA [] 0 emptyD).length ≤ 9 := by decide +kernel
  obtain ⟨D, W, h⟩ := can_do (count := (n : Int)) (B := turnA [] 0 emptyD) (data := List.replicate (n * 128) 0) (ws := []) (by
    intro a ha
    rcases List.mem_append.1 ha with h | h
    · simp at h
    · rcases List.mem_append.1 h with h | h
      · obtain ⟨i, hi, rfl⟩ := List.mem_map.1 h
        rw [List.mem_range] at hi
        exact .inr ⟨by simp only; omega, by simp only; omega, (sec_bytes empty_dir hi).1⟩
      · rw [List.mem_singleton.1 h]
        exact .inl rfl) (by simp; omega)
  have := turn_sure h
  subst this
  exact ⟨D, h⟩
theorem fmt_okay {n : Nat} {D : List Nat} (h1 : 96 ≤ n) (h2 : n ≤ 4096) (h : FmtIs n D) : Okay (n : Int) D [] := okay_do _ (s := (List.replicate (n * 128) 0, [])) (s' := (D, [])) (zeros_okay h1 h2) h
theorem fmt_slots {n : Nat} {D : List Nat} (h1 : 96 ≤ n) (h2 : n ≤ 4096) (h : FmtIs n D) : slotK D [] 0 8 = bytesN emptyD ∧ ∀ i, i < 8 → nowN D [] ((8 + i : Nat) : Int) = nowN (List.replicate (n * 128) 0) [] ((8 + i : Nat) : Int) := by
  have ho := zeros_okay h1 h2
  constructor
  · rw [← eight_secs (bytes_len empty_dir)]
    refine flat_congr fun i hi => now_put (by omega) ho h (fun X hX => ?_) ?_
    · rcases turnA_mem hX with h | ⟨j, hj, e1, e2⟩
      · cases h
      · obtain rfl : i = j := by omega
        exact e2
    · unfold turnA
      exact List.mem_append.2 (.inr (List.mem_append.2 (.inl (List.mem_map.2 ⟨i, List.mem_range.2 hi, rfl⟩))))
  · intro i hi
    refine now_keep (by omega) ho h fun X hX => ?_
    rcases turnA_mem hX with h | ⟨j, hj, e1, _⟩
    · cases h
    · omega
theorem zero_now {n : Nat} (s : Nat) (h2 : s < n) : nowN (List.replicate (n * 128) 0) [] (s : Int) = List.replicate 128 0 := by
  show secN _ _ = _
  unfold secN
  rw [List.drop_replicate, List.take_replicate, show ((s : Int)).toNat = s from rfl]
  congr 1
  omega
theorem zeros_slot : (List.range 8).flatMap (fun _ => List.replicate 128 0) = List.replicate 1024 0 := by decide +kernel
theorem fmt_other {n : Nat} {D : List Nat} (h1 : 96 ≤ n) (h2 : n ≤ 4096) (h : FmtIs n D) : slotK D [] 8 8 = List.replicate 1024 0 := by
  rw [← zeros_slot]
  refine flat_congr fun i hi => ?_
  rw [(fmt_slots h1 h2 h).2 i hi, zero_now (8 + i) (by omega)]
theorem zeros_none : ∀ x, ¬ IsDir ltS x (List.replicate 1024 0) := by
  intro x hx
  have hb : IsDir ltS x (bytesN x) := ⟨hx.1, hx.2.1, rfl⟩
  have h := (sec_bytes hb (i := 0) (by decide)).2
  rw [← hx.2.2, show beg8 (secAt (List.replicate 1024 0) 0) = 0 by decide +kernel] at h
  have := hx.1.lo
  omega
theorem fmt_mount {n : Nat} {D : List Nat} (h1 : 96 ≤ n) (h2 : n ≤ 4096) (h : FmtIs n D) : MountIs (n : Int) D [] (some (emptyD, 0)) 0 := by
  obtain ⟨a, b⟩ := fmt_slots h1 h2 h
  refine .inr (.inr ⟨fmt_okay h1 h2 h, by omega, some emptyD, none, ?_, ?_, rfl, rfl⟩)
  · rw [a]
    exact ⟨empty_dir, (errK_fits empty_may.pcs ⟨by omega, by omega⟩).2 (fun p hp => by cases hp)⟩
  · rw [fmt_other h1 h2 h]
    intro x hx
    exact absurd hx (zeros_none x)
end Go.Proofs.YtghcmllmbpoidaaGreatDoor
namespace Go.Proofs.YtghcmllmbpoidaaGreatDoor
set_option maxRecDepth 8000
open Go.RowKit Go.WideShapes
noncomputable def doAny (count : Int) (data : List Nat) (ws : Puts) (l : Acts) : Except Int (List Nat × Puts) := if errC count data ws = 0 then doN count (data, ws) l else .error 20
theorem doAny_ok {count : Int} {data : List Nat} {ws : Puts} (l : Acts) (h : Okay count data ws) : doAny count data ws l = doN count (data, ws) l := by simp [doAny, errC_ok h]
theorem doAny_bad {count : Int} {data : List Nat} {ws : Puts} (l : Acts) (h : ¬ Okay count data ws) : doAny count data ws l = .error 20 := by simp [doAny, errC_bad h]
def resE : Except Int (List Nat × Puts) → Int
  | .ok _ => 0
  | .error c => c
def resC (count : Int) : Except Int (List Nat × Puts) → Int
  | .ok _ => count
  | .error _ => 0
def resD : Except Int (List Nat × Puts) → List Nat
  | .ok s => s.1
  | .error _ => []
def resW : Except Int (List Nat × Puts) → Puts
  | .ok s => s.2
  | .error _ => []
theorem doAny_okay {count : Int} {data : List Nat} {ws : Puts} {l : Acts} {s : List Nat × Puts} (h : doAny count data ws l = .ok s) : Okay count s.1 s.2 := by
  by_cases ho : Okay count data ws
  · rw [doAny_ok l ho] at h; exact okay_do l (s := (data, ws)) ho h
  · rw [doAny_bad l ho] at h; cases h
theorem zero_in (w : World) : DiskIn w zeroDisk 0 [] [] :=
  ⟨⟨_, none, 0, rfl, ⟨none, 0, rfl, ⟨fun h => absurd h (by simp), by simp⟩, by simp, by unfold maxLen; omega, fun _ => rfl⟩, fun h => absurd h (by simp), by simp, by unfold maxLen; omega, fun _ => rfl⟩, by decide, by simp⟩
def DiskF (base : Nat) (w : World) (v : Value) (count : Int) (data : List Nat) (ws : Puts) : Prop := ∀ w2 : World, (∀ k : Nat, base ≤ k → k < w.heap.size → w2.heap[k]? = w.heap[k]?) → DiskIn w2 v count data ws
theorem DiskF.self {base : Nat} {w : World} {v : Value} {count : Int} {data : List Nat} {ws : Puts} (h : DiskF base w v count data ws) : DiskIn w v count data ws := h w (fun _ _ _ => rfl)
theorem DiskF.below {base : Nat} {w w' : World} {v : Value} {count : Int} {data : List Nat} {ws : Puts} (h : DiskF base w v count data ws) (hb : Below w.heap.size w w') : DiskIn w' v count data ws := h w' (fun k _ hk => hb.block k hk)
theorem DiskF.set3 {base B : Nat} {w : World} {v : Value} {count : Int} {data : List Nat} {ws : Puts} (h : DiskF base w v count data ws) (hB : B < base) (a b c : Value) : DiskIn (((w.setCell ⟨B, 0, none⟩ a).setCell ⟨B, 1, none⟩ b).setCell ⟨B, 2, none⟩ c) v count data ws :=
  h _ (fun k hk _ => set3_other w B k a b c (by omega))
theorem PutsOwn.keepB {w w' : World} {base : Nat} {v : Value} {ws : Puts} {gs : List Nat} (h : PutsOwn w base v ws gs) (hk : ∀ k, base ≤ k → k < w.heap.size → w'.heap[k]? = w.heap[k]?) : PutsOwn w' base v ws gs :=
  h.keep (fun g _ hv e => hk g (h.row.lt g hv).1 (lt_heap e)) (fun i hi => hk _ (h.rows i hi).1 (lt_heap (h.rows i hi).2))
theorem DiskNew.fresh {w : World} {base : Nat} {v : Value} {count : Int} {data : List Nat} {ws : Puts} (h : DiskNew w base v count data ws) (ho : Okay count data ws) : DiskF base w v count data ws := by
  intro w2 hk
  obtain ⟨gd, q, m, gs, h1, h2, h3, h4, h5⟩ := h.lies
  have : DiskNew w2 base v count data ws := ⟨⟨gd, q, m, gs, h1, h2, (hk gd h2 (lt_heap h3)).trans h3, h4.keepB hk, h5⟩, h.bytes⟩
  exact this.toIn ho
theorem do_all (v : Value) (count : Int) (data : List Nat) (ws : Puts) (w : World) (hd : DiskIn w v count data ws) (q : Option Addr) (n m : Nat) (l : Acts) (hn : n = l.length) (hl : ActsIn w q l) (hll : l.length ≤ 9223372036854775807) (r : Except Int (List Nat × Puts)) (hr : doAny count data ws l = r) :
    Calls Tryz.prog 18 #[v, .slice q n m] w fun e w' => (∃ v', e = .returned (.tuple #[v', .int .i64 (resE r)]) ∧ DiskF w.heap.size w' v' (resC count r) (resD r) (resW r)) ∧ Below w.heap.size w w' := by
  subst hn
  subst hr
  by_cases ho : Okay count data ws
  · rw [doAny_ok l ho]
    refine (do_ok v count data ws w hd ho q m l hl hll).mono ?_
    rintro e w' ⟨hp, hb⟩
    refine ⟨?_, hb⟩
    generalize hr : doN count (data, ws) l = r at *
    cases hp with
    | err c => exact ⟨_, rfl, fun w2 _ => zero_in w2⟩
    | ok d2 w2 v2 _ hnew => exact ⟨_, rfl, hnew.fresh (okay_do l (s := (data, ws)) (s' := (d2, w2)) ho hr)⟩
  · rw [doAny_bad l ho]
    refine (do_bad v _ count data ws w hd ho).mono ?_
    rintro e w' ⟨rfl, hb⟩
    exact ⟨⟨_, rfl, fun w2 _ => zero_in w2⟩, hb⟩
end Go.Proofs.YtghcmllmbpoidaaGreatDoor
namespace Go.Proofs.YtghcmllmbpoidaaGreatDoor
open Go.RowKit Go.WideShapes Rm
theorem DiskF.to {base base' : Nat} {w w' : World} {v : Value} {count : Int} {data : List Nat} {ws : Puts} (h : DiskF base w v count data ws) (hb : base' ≤ base) (hs : w'.heap.size = w.heap.size) (hk : ∀ k : Nat, base ≤ k → k < w.heap.size → w'.heap[k]? = w.heap[k]?) : DiskF base' w' v count data ws :=
  fun w2 h2 => h w2 (fun k k1 k2 => (h2 k (by omega) (by omega)).trans (hk k k1 k2))
theorem below_setR {base B : Nat} {w0 w : World} (i : Nat) (v : Value) (h : Below base w0 w) (hB : base ≤ B) : Below base w0 (w.setCell ⟨B, i, none⟩ v) := h.setCell (p := ⟨B, i, none⟩) hB v
theorem set_keep {w : World} {B i k : Nat} {v : Value} (h : k ≠ B) : (w.setCell ⟨B, i, none⟩ v).heap[k]? = w.heap[k]? := heap_setCell_other _ ⟨B, i, none⟩ k _ h
theorem cells3f {w : World} {g : Nat} {a b c : Value} {t : TypeId} (h : w.heap[g]? = some (.cells #[a, b, c] t (0, 0))) : (w.cell? ⟨g, 0, none⟩ = some a ∧ w.cell? ⟨g, 1, none⟩ = some b ∧ w.cell? ⟨g, 2, none⟩ = some c) ∧ w.frozen? ⟨g, 0, none⟩ = false ∧ w.frozen? ⟨g, 1, none⟩ = false ∧ w.frozen? ⟨g, 2, none⟩ = false :=
  ⟨three_cells h, by simp only [World.frozen?, h]; rfl, by simp only [World.frozen?, h]; rfl, by simp only [World.frozen?, h]; rfl⟩
end Go.Proofs.YtghcmllmbpoidaaGreatDoor
