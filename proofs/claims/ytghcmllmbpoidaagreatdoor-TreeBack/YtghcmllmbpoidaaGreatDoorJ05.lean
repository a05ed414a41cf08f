import Derived.Test.YtghcmllmbpoidaaGreatDoorJ04
import Derived.Test.YtghcmllmbpoidaaGreatDoorJ03
import Derived.Laws.StructEq
import Derived.Laws.AppendOwnNone
namespace Go.Proofs.YtghcmllmbpoidaaGreatDoor.Tr
open Go.RowKit Go.WideShapes
def Fresh (w : World) (v : Value) : Prop := ∀ a n m, v = .slice (some a) n m → w.heap.size ≤ a.block
theorem own_fresh {w w' : World} {n : Nat} {v : Value} {xs : List Value} (h : w'.ownsRow w.heap.size 5 1 v n xs) : Fresh w v := by
  intro a n' m e
  subst e
  rcases h.2 with ⟨hv, _⟩ | ⟨g, cap, cur, hv, hg, _⟩
  · cases hv
  · simp only [Value.slice.injEq, Option.some.injEq] at hv
    obtain ⟨rfl, _⟩ := hv
    exact hg
theorem own_row {w : World} {base : Nat} {v : Value} {xs : List Nat} (h : w.ownsRow base 5 1 v xs.length (Bs xs)) (hx : ∀ c ∈ xs, c < 256) : Row w v xs := by
  obtain ⟨q, m, rfl, h1, h2, h3⟩ := own_form h
  exact ⟨⟨q, m, rfl, own_in h hx, h1, h2, h3⟩⟩
theorem cutT_none (v : Value) (xs : List Nat) (w : World) (hv : Row w v xs) (hl : xs.length ≤ 100000) (h : cutT xs = none) :
    Calls Tryz.prog 89 #[v] w fun e w' => e = .returned (.tuple #[.string ⟨#[]⟩, .slice none 0 0, .int .i64 8]) ∧ w' = w := by
  obtain ⟨p, c, rfl, hb, hc, hm, hp⟩ := hv.lies
  unfold cutT at h
  split at h
  · rename_i n k hr
    split at h
    · cases h
    · exact cut_long p c xs w hb (by unfold maxLen; omega) n k hr (by omega)
  · rename_i hr
    exact cut_none p c xs w hb (by unfold maxLen; omega) hr
theorem cutT_some (v : Value) (xs : List Nat) (w : World) (hv : Row w v xs) (hl : xs.length ≤ 100000) (s : ByteArray) (rest : List Nat) (h : cutT xs = some (s, rest)) :
    Calls Tryz.prog 89 #[v] w fun e w' => ∃ v', e = .returned (.tuple #[.string s, v', .int .i64 0]) ∧ Row w' v' rest ∧ Below w.heap.size w w' ∧ Fresh w v' := by
  obtain ⟨p, c, rfl, hb, hc, hm, hp⟩ := hv.lies
  unfold cutT at h
  split at h
  · rename_i n k hr
    split at h
    · simp only [Option.some.injEq, Prod.mk.injEq] at h
      obtain ⟨rfl, rfl⟩ := h
      refine (cut_ok p c xs w hb hl hc n k hr (by omega)).mono ?_
      rintro e w' ⟨v', rfl, ho, hbl⟩
      exact ⟨v', rfl, own_row ho (fun c hc => hb.2 c (List.mem_of_mem_drop hc)), hbl, own_fresh ho⟩
    · cases h
  · cases h
set_option maxRecDepth 8000 in
set_option maxHeartbeats 2000000 in
theorem cutNumber_none (v : Value) (lim : Nat) (xs : List Nat) (w : World) (hv : Row w v xs) (hl : xs.length ≤ 100000) (hlim : lim ≤ 2147483647) (h : cutNum xs lim = none) :
    Calls Tryz.prog 59 #[v, .int .i64 (lim : Int)] w fun e w' => e = .returned (.tuple #[.int .i64 0, .slice none 0 0, .bool false]) ∧ w' = w := by
  obtain ⟨p, c, rfl, hb, hc, hm, hp⟩ := hv.lies
  have hw2 : IntKind.u64.wrap (lim : Int) = (lim : Int) := by rw [IntKind.wrap_u64]; omega
  unfold cutNum at h
  split at h
  · rename_i n k hr
    have hrd := read_some p xs.length c xs w n k rfl hb (by unfold maxLen; omega) hr
    have hn : ¬ n ≤ lim := fun h1 => by rw [if_pos h1] at h; cases h
    have hnI : (lim : Int) < (n : Int) := by omega
    clear h hn hr
    go_enter Tryz.func59, Tryz.ntmps59
    go_wp2_with (go_at_call 88; refine hrd.mono ?_; rintro e w1 ⟨rfl, rfl⟩)
    go_ret3
    exact ⟨rfl, rfl⟩
  · rename_i hr
    have hrd := read_none p xs.length c xs w rfl hb (by unfold maxLen; omega) hr
    clear h hr
    go_enter Tryz.func59, Tryz.ntmps59
    go_wp2_with (go_at_call 88; refine hrd.mono ?_; rintro e w1 ⟨rfl, rfl⟩)
    go_ret3
    exact ⟨rfl, rfl⟩
set_option maxRecDepth 8000 in
set_option maxHeartbeats 2000000 in
theorem cutNumber_some (v : Value) (lim : Nat) (xs : List Nat) (w : World) (hv : Row w v xs) (hl : xs.length ≤ 100000) (hlim : lim ≤ 2147483647) (n : Nat) (rest : List Nat) (h : cutNum xs lim = some (n, rest)) :
    Calls Tryz.prog 59 #[v, .int .i64 (lim : Int)] w fun e w' => ∃ v', e = .returned (.tuple #[.int .i64 (n : Int), v', .bool true]) ∧ Row w' v' rest ∧ Below w.heap.size w w' := by
  obtain ⟨p, c, rfl, hb, hc, hm, hp⟩ := hv.lies
  unfold cutNum at h
  split at h
  · rename_i n' k hr
    split at h
    · rename_i hn
      simp only [Option.some.injEq, Prod.mk.injEq] at h
      obtain ⟨rfl, rfl⟩ := h
      obtain ⟨k1, k2, k3, k4⟩ := readN_some hr
      have hrd := read_some p xs.length c xs w n' k rfl hb (by unfold maxLen; omega) hr
      have hnI : (n' : Int) ≤ (lim : Int) := by omega
      have hnI2 : (n' : Int) ≤ 2147483647 := by omega
      obtain ⟨p', hsl, hbin, hp', _⟩ := cut_from p xs.length c k xs rfl hc k2 hp
      have HR : Hid (BIn w p' (xs.drop k) ∧ (xs.drop k).length = xs.length - k ∧ xs.length - k ≤ c - k ∧ c - k ≤ maxLen ∧ (p' = none → c - k = 0)) := ⟨hbin w hb, List.length_drop, by omega, by omega, hp'⟩
      have hw : IntKind.i64.wrap (n' : Int) = (n' : Int) := by rw [IntKind.wrap_i64]; omega
      have hw2 : IntKind.u64.wrap (lim : Int) = (lim : Int) := by rw [IntKind.wrap_u64]; omega
      obtain ⟨nl, hnl⟩ : ∃ m, xs.length - k = m := ⟨_, rfl⟩
      obtain ⟨cl, hcl⟩ : ∃ m, c - k = m := ⟨_, rfl⟩
      obtain ⟨xl, hxl⟩ : ∃ m, xs.length = m := ⟨_, rfl⟩
      have hkI : (k : Int) ≤ (xl : Int) := by omega
      have hkI2 : (k : Int) ≤ (c : Int) := by omega
      have hkI3 : (xl : Int) ≤ (c : Int) := by omega
      rw [hnl, hcl] at HR hsl
      rw [hxl] at hrd hsl ⊢
      clear hr hb hc hm hp hbin hp' hn k1 k2 k3 k4 hnl hcl hxl hv hl
      go_enter Tryz.func59, Tryz.ntmps59
      go_wp2_with (go_at_call 88; refine hrd.mono ?_; rintro e w1 ⟨rfl, rfl⟩)
      go_quiet (fail)
      go_wp2
      go_ret3
      exact ⟨_, rfl, ⟨⟨p', cl, by rw [HR.out.2.1]; rfl, HR.out.1.below (below_drewN (Below.refl _ _) _), by rw [HR.out.2.1]; exact HR.out.2.2.1, HR.out.2.2.2.1, HR.out.2.2.2.2⟩⟩, below_drewN (Below.refl _ _) _⟩
    · cases h
  · cases h
theorem grown_set (w : World) (g i : Nat) (v : Value) : w.grownBy (w.setCell ⟨g, i, none⟩ v) (some g) :=
  ⟨rfl, rfl, rfl, by simp, fun k _ hn => Below.heap_setCell w ⟨g, i, none⟩ v k (fun e => hn (by rw [e]))⟩
theorem grown_trans {a b c : World} {r : Option Nat} (h1 : a.grownBy b r) (h2 : b.grownBy c r) : a.grownBy c r :=
  ⟨h2.os.trans h1.os, h2.tape.trans h1.tape, h2.output.trans h1.output, Nat.le_trans h1.size h2.size, fun k hk hn => (h2.block k (Nat.lt_of_lt_of_le hk h1.size) hn).trans (h1.block k hk hn)⟩
def noU8 (C : Array Value) : Prop := ∀ (i : Nat) (z : Int), C[i]? ≠ some (.int .u8 z)
theorem bin_grownC {w w' : World} {g : Nat} {C : Array Value} {t : TypeId} {fr : Nat × Nat} {p : Option Addr} {xs : List Nat} (hb : w.heap[g]? = some (.cells C t fr)) (hC : noU8 C) (h : BIn w p xs) (hg : w.grownBy w' (some g)) : BIn w' p xs := by
  refine ⟨fun hp => ?_, h.2⟩
  obtain ⟨b', o, rfl, hc⟩ := h.1 hp
  refine ⟨b', o, rfl, fun i hi => ?_⟩
  have e := hc i hi
  have hne : b' ≠ g := by
    intro e'
    subst e'
    rw [cell_of_row w b' (o + i) _ _ _ hb] at e
    exact hC _ _ e
  have hlt := World.block_lt_of_cell? _ _ e
  have hbk : w'.heap[b']? = w.heap[b']? := hg.block b' hlt (fun e => hne (Option.some.inj e))
  rw [← e]
  unfold World.cell?
  simp only [hbk]
theorem below_setR {base B : Nat} {w0 w : World} (i : Nat) (v : Value) (h : Below base w0 w) (hB : base ≤ B) : Below base w0 (w.setCell ⟨B, i, none⟩ v) := h.setCell (p := ⟨B, i, none⟩) hB v
theorem noU8_3 (a b : ByteArray) (g : Bool) : noU8 #[.string a, .string b, .bool g] := by
  intro i z
  rcases i with _ | _ | _ | i <;> simp
def set3 (w : World) (B : Nat) (a b c : Value) : World := ((w.setCell ⟨B, 0, none⟩ a).setCell ⟨B, 1, none⟩ b).setCell ⟨B, 2, none⟩ c
theorem set3_grown (w : World) (B : Nat) (a b c : Value) : w.grownBy (set3 w B a b c) (some B) := grown_trans (grown_trans (grown_set _ _ _ _) (grown_set _ _ _ _)) (grown_set _ _ _ _)
theorem set3_below {base B : Nat} {w0 w : World} (h : Below base w0 w) (hB : base ≤ B) (a b c : Value) : Below base w0 (set3 w B a b c) :=
  ((h.setCell (p := ⟨B, 0, none⟩) hB a).setCell (p := ⟨B, 1, none⟩) hB b).setCell (p := ⟨B, 2, none⟩) hB c
theorem row_grown {w w' : World} {B : Nat} {a b : ByteArray} {g : Bool} {t : TypeId} {fr : Nat × Nat} {v : Value} {xs : List Nat} (hb : w.heap[B]? = some (.cells #[.string a, .string b, .bool g] t fr)) (h : Row w v xs) (hg : w.grownBy w' (some B)) : Row w' v xs := by
  obtain ⟨p, c, e, h1, h2⟩ := h.lies
  exact ⟨⟨p, c, e, bin_grownC hb (noU8_3 _ _ _) h1 hg, h2⟩⟩
theorem cellsF {w : World} {g : Nat} {a b c : Value} {t : TypeId} (h : w.heap[g]? = some (.cells #[a, b, c] t (0, 0))) : (w.cell? ⟨g, 0, none⟩ = some a ∧ w.cell? ⟨g, 1, none⟩ = some b ∧ w.cell? ⟨g, 2, none⟩ = some c) ∧ w.frozen? ⟨g, 0, none⟩ = false ∧ w.frozen? ⟨g, 1, none⟩ = false ∧ w.frozen? ⟨g, 2, none⟩ = false :=
  ⟨three_cells h, by simp only [World.frozen?, h]; rfl, by simp only [World.frozen?, h]; rfl, by simp only [World.frozen?, h]; rfl⟩
structure CutP (w : World) (o : Option (CV × List Nat)) (e : Ending) (w' : World) : Prop where
  ex : ∃ (a b : ByteArray) (g ok : Bool) (q : Option Addr) (n m : Nat), e = .returned (.tuple #[.agg #[.string a, .string b, .bool g], .slice q n m, .bool ok]) ∧ Below w.heap.size w w' ∧ ((o = none ∧ ok = false) ∨ (ok = true ∧ ∃ rest, o = some (⟨a, b, g⟩, rest) ∧ Row w' (.slice q n m) rest ∧ Fresh w (.slice q n m)))
theorem cut_first {g : Nat → Bool} {xs : List Nat} (h : cutT xs = none) : cutCh g xs = none := by unfold cutCh; rw [h]
theorem cut_empty {g : Nat → Bool} {xs : List Nat} {s : ByteArray} (h : cutT xs = some (s, [])) : cutCh g xs = none := by unfold cutCh; rw [h]
theorem cut_gone {g : Nat → Bool} {xs rest : List Nat} {s : ByteArray} {c : Nat} (h : cutT xs = some (s, c :: rest)) (hc : g c = true) : cutCh g xs = some (⟨s, ByteArray.empty, true⟩, rest) := by unfold cutCh; rw [h]; simp [hc]
theorem cut_lost {g : Nat → Bool} {xs rest : List Nat} {s : ByteArray} {c : Nat} (h : cutT xs = some (s, c :: rest)) (hc : g c = false) (h2 : cutT rest = none) : cutCh g xs = none := by unfold cutCh; rw [h]; simp [hc, h2]
theorem cut_stay {g : Nat → Bool} {xs rest r2 : List Nat} {s v : ByteArray} {c : Nat} (h : cutT xs = some (s, c :: rest)) (hc : g c = false) (h2 : cutT rest = some (v, r2)) : cutCh g xs = some (⟨s, v, false⟩, r2) := by unfold cutCh; rw [h]; simp [hc, h2]
set_option maxRecDepth 8000 in
set_option maxHeartbeats 4000000 in
theorem cutChange_any (v : Value) (xs : List Nat) (w : World) (hv : Row w v xs) (hl : xs.length ≤ 100000) (o : Option (CV × List Nat)) (ho : cutCh gP xs = o) :
    Calls Tryz.prog 60 #[v] w fun e w' => CutP w o e w' := by
  have HV : Hid (Row (w.alloc (.cells #[.string ⟨#[]⟩, .string ⟨#[]⟩, .bool false] 40)) v xs) := hv.below (below_alloc _ _)
  have HR : Hid ((w.alloc (.cells #[.string ⟨#[]⟩, .string ⟨#[]⟩, .bool false] 40)).heap[w.heap.size]? = some (.cells #[.string ⟨#[]⟩, .string ⟨#[]⟩, .bool false] 40 (0, 0))) := heap_alloc_new _ _
  have HB : Hid (Below w.heap.size w (w.alloc (.cells #[.string ⟨#[]⟩, .string ⟨#[]⟩, .bool false] 40))) := below_alloc _ _
  obtain ⟨p, c0, rfl, _⟩ := hv.lies
  cases h1 : cutT xs with
  | none =>
    have hc := cutT_none _ xs (w.alloc (.cells #[.string ⟨#[]⟩, .string ⟨#[]⟩, .bool false] 40)) HV.out hl h1
    have HO : Hid (o = none) := by show o = none; rw [← ho]; exact cut_first h1
    obtain ⟨⟨c0, c1, c2⟩, f0, f1, f2⟩ := cellsF HR.out
    clear hv ho h1
    go_enter Tryz.func60, Tryz.ntmps60
    go_wp2_with (go_at_call 89; refine hc.mono ?_; rintro e w1 ⟨rfl, rfl⟩)
    (try simp only [Exit.inBlock, Exit.then])
    refine bodyPost_ret (v := .tuple #[.agg #[.string ⟨#[]⟩, .string ⟨#[]⟩, .bool false], .slice none 0 0, .bool false]) ?_ rfl ?_
    · rw [results_cell_tmp2 rfl]
      go_simp
    · exact ⟨⟨_, _, _, _, _, _, _, rfl, by first | exact HB.out | exact set3_below HB.out (Nat.le_refl _) _ _ _, .inl ⟨HO.out, rfl⟩⟩⟩
  | some sr =>
    obtain ⟨s, rest⟩ := sr
    have hc := cutT_some _ xs (w.alloc (.cells #[.string ⟨#[]⟩, .string ⟨#[]⟩, .bool false] 40)) HV.out hl s rest h1
    have hrl := cutT_len h1
    cases rest with
    | nil =>
      have HO : Hid (o = none) := by show o = none; rw [← ho]; exact cut_empty h1
      clear hv ho h1 hrl
      go_enter Tryz.func60, Tryz.ntmps60
      go_wp2_with fail
      refine hc.mono ?_
      rintro e w1 ⟨v1, rfl, hrow, hb1, hfr1⟩
      obtain ⟨q1, m1, rfl, _⟩ := hrow.lies
      have HR1 := (hb1.block _ (lt_heap HR.out)).trans HR.out
      obtain ⟨⟨c0, c1, c2⟩, f0, f1, f2⟩ := cellsF HR1
      have HB1 : Hid (Below w.heap.size w w1) := below_bt HB.out hb1
      simp only [List.length_nil]
      clear hc hrow hb1 HR1 hfr1
      go_wp2
      (try simp only [Exit.inBlock, Exit.then])
      refine bodyPost_ret (v := .tuple #[.agg #[.string ⟨#[]⟩, .string ⟨#[]⟩, .bool false], .slice none 0 0, .bool false]) ?_ rfl ?_
      · rw [results_cell_tmp2 rfl]
        go_simp
      · exact ⟨⟨_, _, _, _, _, _, _, rfl, by first | exact HB1.out | exact set3_below HB1.out (Nat.le_refl _) _ _ _, .inl ⟨HO.out, rfl⟩⟩⟩
    | cons c rest =>
      have HO : Hid (cutCh gP xs = o) := ho
      have H1 : Hid (cutT xs = some (s, c :: rest)) := h1
      have HLR : Hid (rest.length + 1 ≤ xs.length ∧ xs.length ≤ 100000) := ⟨by simpa using hrl, hl⟩
      clear hv ho h1 hrl hl
      go_enter Tryz.func60, Tryz.ntmps60
      go_wp2_with fail
      refine hc.mono ?_
      rintro e w1 ⟨v1, rfl, hrow, hb1, hfr1⟩
      obtain ⟨q1, m1, rfl, hbin, hle, hmx, hqn⟩ := hrow.lies
      obtain ⟨b, off, rfl, hcell⟩ := hbin.1 (by simp)
      have hby : c < 256 := hbin.2 c (by simp)
      have z0 : w1.cell? ⟨b, off, none⟩ = some (.int .u8 (c : Int)) := by have := hcell 0 (by simp); simpa using this
      obtain ⟨p', hsl, hbn, hp', hpb⟩ := cut_from (some ⟨b, off, none⟩) (rest.length + 1) m1 1 (c :: rest) rfl (by simpa using hle) (by omega) hqn
      obtain ⟨RL, hRL⟩ : ∃ m, rest.length = m := ⟨_, rfl⟩
      obtain ⟨L1, hL1⟩ : ∃ m, rest.length + 1 = m := ⟨_, rfl⟩
      obtain ⟨cl, hcl⟩ : ∃ m, m1 - 1 = m := ⟨_, rfl⟩
      have hsl1 : ∀ w, (Instr.slice 32 (.slice (some ⟨b, off, none⟩) L1 m1) (some (.int .i64 1)) none none).run Tryz.prog w = .ok (.slice p' RL cl) w := fun w => by
        have h := hsl w
        rw [hcl, hL1, show L1 - 1 = RL by omega] at h
        exact h
      have HW : Hid (Row w1 (.slice p' RL cl) rest) := ⟨⟨p', cl, by rw [hRL], by have := hbn w1 hbin; simpa using this, by simp at hle; omega, by omega, fun h => by have := hp' h; omega⟩⟩
      have HR1 : Hid (w1.heap[w.heap.size]? = some (.cells #[.string ⟨#[]⟩, .string ⟨#[]⟩, .bool false] 40 (0, 0))) := (hb1.block _ (lt_heap HR.out)).trans HR.out
      have HB1 : Hid (Below w.heap.size w w1) := below_bt HB.out hb1
      have HFR : Hid (Fresh w (.slice p' RL cl)) := by
        intro a n m e
        simp only [Value.slice.injEq] at e
        obtain ⟨a0, e0, e1⟩ := hpb a e.1
        have h := hfr1 a0 _ _ (by rw [← e0])
        simp at h
        rw [e1]
        omega
      have hLI : (1 : Int) ≤ (L1 : Int) := by omega
      have hLe : ((L1 : Int) == 0) = false := by simp; omega
      have hLm : (L1 : Int) ≤ (m1 : Int) := by simp at hle; omega
      simp only [List.length_cons]
      rw [hL1]
      have HM : Hid (rest.length = RL ∧ rest.length ≤ 100000) := ⟨hRL, by have := HLR.out; omega⟩
      have HRlt := lt_heap HR1.out
      have hne : w.heap.size ≠ w1.heap.size := by omega
      clear hc hrow hb1 hbin hle hmx hqn hcell hbn hp' hRL hcl hsl hL1 HR HB HV HRlt hpb hfr1
      by_cases hg : c = 0
      · subst hg
        have HR2 : Hid ((w1.alloc (.cells #[.string s, .string ⟨#[]⟩, .bool false] 40)).heap[w.heap.size]? = some (.cells #[.string ⟨#[]⟩, .string ⟨#[]⟩, .bool false] 40 (0, 0))) := ((below_alloc w1 _).block _ (lt_heap HR1.out)).trans HR1.out
        have HC2 : Hid ((w1.alloc (.cells #[.string s, .string ⟨#[]⟩, .bool false] 40)).heap[w1.heap.size]? = some (.cells #[.string s, .string ⟨#[]⟩, .bool false] 40 (0, 0))) := heap_alloc_new _ _
        have HW2 : Hid (Row (w1.alloc (.cells #[.string s, .string ⟨#[]⟩, .bool false] 40)) (.slice p' RL cl) rest) := HW.out.below (below_alloc _ _)
        have HB2 : Hid (Below w.heap.size w (w1.alloc (.cells #[.string s, .string ⟨#[]⟩, .bool false] 40))) := below_bt HB1.out (below_alloc _ _)
        cases h2 : cutT rest with
        | none =>
          have HN : Hid (o = none) := by show o = none; rw [← HO.out]; exact cut_lost H1.out rfl h2
          have hc := cutT_none _ rest (w1.alloc (.cells #[.string s, .string ⟨#[]⟩, .bool false] 40)) HW2.out HM.out.2 h2
          obtain ⟨⟨c0, c1, c2⟩, f0, f1, f2⟩ := cellsF HR2.out
          obtain ⟨⟨d0, d1, d2⟩, g0, g1, g2⟩ := cellsF HC2.out
          clear h2
          go_wp2_with (go_at_call 89; refine hc.mono ?_; rintro e w9 ⟨rfl, rfl⟩)
          (try simp only [Exit.inBlock, Exit.then])
          refine bodyPost_ret (v := .tuple #[.agg #[.string s, .string ⟨#[]⟩, .bool false], .slice none 0 0, .bool false]) ?_ rfl ?_
          · rw [results_cell_tmp2 rfl]
            go_simp
          · refine ⟨⟨_, _, _, _, _, _, _, rfl, ?_, .inl ⟨HN.out, rfl⟩⟩⟩
            repeat' first
              | exact HB2.out
              | refine below_setR _ _ ?_ (Nat.le_refl w.heap.size)
              | refine below_setR _ _ ?_ HB1.out.size
        | some vr =>
          obtain ⟨val, r2⟩ := vr
          have HN : Hid (o = some (⟨s, val, false⟩, r2)) := by show o = _; rw [← HO.out]; exact cut_stay H1.out rfl h2
          have hc := cutT_some _ rest (w1.alloc (.cells #[.string s, .string ⟨#[]⟩, .bool false] 40)) HW2.out HM.out.2 val r2 h2
          clear h2
          go_wp2_with fail
          refine hc.mono ?_
          rintro e w3 ⟨v3, rfl, hrow3, hb3, hfr3⟩
          have HR3 : Hid (w3.heap[w.heap.size]? = some (.cells #[.string ⟨#[]⟩, .string ⟨#[]⟩, .bool false] 40 (0, 0))) := (hb3.block _ (lt_heap HR2.out)).trans HR2.out
          have HC3 : Hid (w3.heap[w1.heap.size]? = some (.cells #[.string s, .string ⟨#[]⟩, .bool false] 40 (0, 0))) := (hb3.block _ (lt_heap HC2.out)).trans HC2.out
          have HW3 : Hid (Row w3 v3 r2) := hrow3
          have HB3 : Hid (Below w.heap.size w w3) := below_bt HB2.out hb3
          have HF3 : Hid (Fresh w v3) := fun a n m e => by have h := hfr3 a n m e; have h2 := HB2.out.size; omega
          obtain ⟨q3, m3, rfl, _⟩ := hrow3.lies
          obtain ⟨l3, hl3⟩ : ∃ m, r2.length = m := ⟨_, rfl⟩
          rw [hl3] at HW3 HF3 ⊢
          obtain ⟨⟨c0, c1, c2⟩, f0, f1, f2⟩ := cellsF HR3.out
          obtain ⟨⟨d0, d1, d2⟩, g0, g1, g2⟩ := cellsF HC3.out
          clear hc hrow3 hb3 hl3 hfr3
          go_wp2
          (try simp only [Exit.inBlock, Exit.then])
          refine bodyPost_ret (v := .tuple #[.agg #[.string s, .string val, .bool false], .slice q3 l3 m3, .bool true]) ?_ rfl ?_
          · rw [results_cell_tmp2 rfl]
            go_simp
          · have hC1 : (w3.setCell ⟨w1.heap.size, 1, none⟩ (.string val)).heap[w.heap.size]? = some (.cells #[.string ⟨#[]⟩, .string ⟨#[]⟩, .bool false] 40 (0, 0)) := by
              rw [(grown_set w3 w1.heap.size 1 (.string val)).block _ (lt_heap HR3.out) (by simpa using hne)]
              exact HR3.out
            have hrw := row_grown HC3.out HW3.out (grown_set w3 w1.heap.size 1 (.string val))
            refine ⟨⟨_, _, _, _, _, _, _, rfl, ?_, .inr ⟨rfl, r2, HN.out, row_grown hC1 hrw ?_, HF3.out⟩⟩⟩
            · repeat' first
                | exact HB3.out
                | refine below_setR _ _ ?_ (Nat.le_refl w.heap.size)
                | refine below_setR _ _ ?_ HB1.out.size
            · repeat' first
                | exact grown_set _ _ _ _
                | refine grown_trans ?_ (grown_set _ _ _ _)
      · have hcb : ((c : Int) == 0) = false := by simpa using hg
        have HN : Hid (o = some (⟨s, ByteArray.empty, true⟩, rest)) := by show o = _; rw [← HO.out]; exact cut_gone H1.out (by unfold gP; simpa using hg)
        have HR2 : Hid ((w1.alloc (.cells #[.string s, .string ⟨#[]⟩, .bool true] 40)).heap[w.heap.size]? = some (.cells #[.string ⟨#[]⟩, .string ⟨#[]⟩, .bool false] 40 (0, 0))) := ((below_alloc w1 _).block _ (lt_heap HR1.out)).trans HR1.out
        have HB2 : Hid (Below w.heap.size w (w1.alloc (.cells #[.string s, .string ⟨#[]⟩, .bool true] 40))) := below_bt HB1.out (below_alloc _ _)
        have HW2 : Hid (Row (w1.alloc (.cells #[.string s, .string ⟨#[]⟩, .bool true] 40)) (.slice p' RL cl) rest) := HW.out.below (below_alloc _ _)
        obtain ⟨⟨c0, c1, c2⟩, f0, f1, f2⟩ := cellsF HR2.out
        clear hg
        go_wp2
        (try simp only [Exit.inBlock, Exit.then])
        refine bodyPost_ret (v := .tuple #[.agg #[.string s, .string ⟨#[]⟩, .bool true], .slice p' RL cl, .bool true]) ?_ rfl ?_
        · rw [results_cell_tmp2 rfl]
          go_simp
        · refine ⟨⟨_, _, _, _, _, _, _, rfl, ?_, .inr ⟨rfl, rest, HN.out, row_grown HR2.out HW2.out ?_, HFR.out⟩⟩⟩
          · repeat' first
              | exact HB2.out
              | refine below_setR _ _ ?_ (Nat.le_refl w.heap.size)
          · repeat' first
              | exact grown_set _ _ _ _
              | refine grown_trans ?_ (grown_set _ _ _ _)
theorem row_apart {w w' : World} {v : Value} {xs : List Nat} {r : Option Nat} (h : Row w v xs) (hg : w.grownBy w' r) (hne : ∀ a n m, v = .slice (some a) n m → r ≠ some a.block) : Row w' v xs := by
  obtain ⟨p, c, e, h1, h2⟩ := h.lies
  refine ⟨⟨p, c, e, ⟨fun hp => ?_, h1.2⟩, h2⟩⟩
  obtain ⟨b', o, rfl, hc⟩ := h1.1 hp
  refine ⟨b', o, rfl, fun i hi => ?_⟩
  have e1 := hc i hi
  have hlt := World.block_lt_of_cell? _ _ e1
  have hbk : w'.heap[b']? = w.heap[b']? := hg.block b' hlt (fun e2 => hne _ _ _ e (by rw [e2]))
  rw [← e1]
  unfold World.cell?
  simp only [hbk]
structure RecP (w : World) (o : Option (List CV × Nat)) (e : Ending) (w' : World) : Prop where
  ex : Below w.heap.size w w' ∧ ((o = none ∧ e = .returned (.tuple #[.slice none 0 0, .int .i64 0, .bool false])) ∨ ∃ l seq v, o = some (l, seq) ∧ e = .returned (.tuple #[v, .int .i64 (seq : Nat), .bool true]) ∧ COwn w' w.heap.size v l)
theorem rec_none1 {g : Nat → Bool} {xs : List Nat} (h : cutNum xs 2147483647 = none) : cutRec g xs = none := by unfold cutRec; rw [h]
theorem rec_none2 {g : Nat → Bool} {xs ys : List Nat} {s : Nat} (h : cutNum xs 2147483647 = some (s, ys)) (h2 : cutNum ys 64 = none) : cutRec g xs = none := by unfold cutRec; rw [h]; simp only; rw [h2]
theorem rec_none3 {g : Nat → Bool} {xs ys zs : List Nat} {s n : Nat} (h : cutNum xs 2147483647 = some (s, ys)) (h2 : cutNum ys 64 = some (n, zs)) (h3 : cutChs g n zs = none) : cutRec g xs = none := by unfold cutRec; rw [h]; simp only; rw [h2]; simp only; rw [h3]
theorem rec_some {g : Nat → Bool} {xs ys zs us : List Nat} {s n : Nat} {l : List CV} (h : cutNum xs 2147483647 = some (s, ys)) (h2 : cutNum ys 64 = some (n, zs)) (h3 : cutChs g n zs = some (l, us)) : cutRec g xs = some (l, s) := by unfold cutRec; rw [h]; simp only; rw [h2]; simp only; rw [h3]
theorem cutNum_le {xs rest : List Nat} {lim n : Nat} (h : cutNum xs lim = some (n, rest)) : n ≤ lim ∧ rest.length ≤ xs.length := by
  unfold cutNum at h
  split at h
  · split at h
    · simp only [Option.some.injEq, Prod.mk.injEq] at h
      obtain ⟨rfl, rfl⟩ := h
      exact ⟨by assumption, by rw [List.length_drop]; omega⟩
    · cases h
  · cases h
set_option maxRecDepth 8000 in
set_option maxHeartbeats 4000000 in
theorem cutRecord_any (v : Value) (xs : List Nat) (w : World) (hv : Row w v xs) (hl : xs.length ≤ 100000) (o : Option (List CV × Nat)) (ho : cutRec gP xs = o) :
    Calls Tryz.prog 30 #[v] w fun e w' => RecP w o e w' := by
  have HO : Hid (cutRec gP xs = o) := ho
  have HL : Hid (xs.length ≤ 100000) := hl
  cases h1 : cutNum xs 2147483647 with
  | none =>
    have hc := cutNumber_none v 2147483647 xs w hv hl (Nat.le_refl _) h1
    have HN : Hid (o = none) := by show o = none; rw [← HO.out]; exact rec_none1 h1
    obtain ⟨p, c0, rfl, _⟩ := hv.lies
    clear hv ho h1 hl
    go_enter Tryz.func30, Tryz.ntmps30
    go_wp2_with (go_at_call 59; refine hc.mono ?_; rintro e w1 ⟨rfl, rfl⟩)
    go_ret3
    exact ⟨Below.refl _ _, .inl ⟨HN.out, rfl⟩⟩
  | some sy =>
    obtain ⟨S, ys⟩ := sy
    have hc := cutNumber_some v 2147483647 xs w hv hl (Nat.le_refl _) S ys h1
    have hyl := cutNum_le h1
    obtain ⟨p, c0, rfl, _⟩ := hv.lies
    have H1 : Hid (cutNum xs 2147483647 = some (S, ys) ∧ ys.length ≤ 100000) := ⟨h1, by omega⟩
    clear hv ho h1 hl hyl
    cases h2 : cutNum ys 64 with
    | none =>
      have HN : Hid (o = none) := by show o = none; rw [← HO.out]; exact rec_none2 H1.out.1 h2
      have HC2 : Hid (∀ w' v', Row w' v' ys → Calls Tryz.prog 59 #[v', .int .i64 64] w' fun e w'' => e = .returned (.tuple #[.int .i64 0, .slice none 0 0, .bool false]) ∧ w'' = w') := fun w' v' h => cutNumber_none v' 64 ys w' h H1.out.2 (by omega) h2
      clear h2
      go_enter Tryz.func30, Tryz.ntmps30
      go_wp2_with fail
      refine hc.mono ?_
      rintro e w1 ⟨v1, rfl, hr1, hb1⟩
      have hc2 := HC2.out w1 v1 hr1
      have HB1 : Hid (Below w.heap.size w w1) := hb1
      obtain ⟨q1, m1, rfl, _⟩ := hr1.lies
      clear hc hb1 hr1 HC2
      go_wp2_with fail
      refine hc2.mono ?_
      rintro e w2 ⟨rfl, rfl⟩
      go_wp2
      go_ret3
      exact ⟨HB1.out, .inl ⟨HN.out, rfl⟩⟩
    | some nz =>
      obtain ⟨M, zs⟩ := nz
      have hzl := cutNum_le h2
      have HC2 : Hid (∀ w' v', Row w' v' ys → Calls Tryz.prog 59 #[v', .int .i64 64] w' fun e w'' => ∃ v'', e = .returned (.tuple #[.int .i64 (M : Int), v'', .bool true]) ∧ Row w'' v'' zs ∧ Below w'.heap.size w' w'') := fun w' v' h => cutNumber_some v' 64 ys w' h H1.out.2 (by omega) M zs h2
      have H2 : Hid (cutNum ys 64 = some (M, zs) ∧ zs.length ≤ 100000 ∧ M ≤ 64) := ⟨h2, by have := H1.out.2; omega, hzl.1⟩
      have hMI : (M : Int) ≤ 64 := by omega
      clear h2 hzl
      go_enter Tryz.func30, Tryz.ntmps30
      go_wp2_with fail
      refine hc.mono ?_
      rintro e w1 ⟨v1, rfl, hr1, hb1⟩
      have hc2 := HC2.out w1 v1 hr1
      have HB1 : Hid (Below w.heap.size w w1) := hb1
      obtain ⟨q1, m1, rfl, _⟩ := hr1.lies
      clear hc hb1 hr1 HC2
      go_wp2_with fail
      refine hc2.mono ?_
      rintro e w2 ⟨v2, rfl, hr2, hb2⟩
      have HB2 : Hid (Below w.heap.size w w2) := below_bt HB1.out hb2
      have HR2 : Hid (Row w2 v2 zs) := hr2
      obtain ⟨q2, m2, rfl, _⟩ := hr2.lies
      clear hc2 hb2 hr2 HB1
      go_wp2
      go_loopw [0, 6, 8, 27] (fun b k6 lv i wr => ∃ (k : Nat) (lk : List CV) (us : List Nat), k ≤ M ∧ i = .int .i64 (k : Int) ∧ k6 = .bool true ∧ cutChs gP k zs = some (lk, us) ∧ Row wr b us ∧ OnC w lv lk wr) (fun _ _ _ i _ => M - (intOf i).toNat)
      case atStart => exact ⟨0, [], zs, by omega, rfl, rfl, rfl, HR2.out, cown_nil _ _, HB2.out⟩
      case round =>
        obtain ⟨k, lk, us, hk, rfl, rfl, hcs, hrow, hon⟩ := hrel
        obtain ⟨bq, bm, rfl, _⟩ := hrow.lies
        obtain ⟨lq, lm, rfl, _⟩ := own_form hon.own
        have HCS : Hid (cutChs gP k zs = some (lk, us)) := hcs
        have hul := cutChs_len hcs
        have HUL : Hid (us.length ≤ 100000 ∧ lk.length = k ∧ k ≤ 64) := ⟨by have := H2.out.2; omega, hul.1, by have := H2.out.2; omega⟩
        obtain ⟨ul, hul2⟩ : ∃ m, us.length = m := ⟨_, rfl⟩
        obtain ⟨ll, hll2⟩ : ∃ m, lk.length = m := ⟨_, rfl⟩
        have HON : Hid (OnC w (.slice lq ll lm) lk wr) := by rw [hll2] at hon; exact hon
        have HRW : Hid (Row wr (.slice bq ul bm) us) := by rw [hul2] at hrow; exact hrow
        rw [hul2, hll2]
        clear HR2 hcs hul hul2 hll2 hrow hon
        by_cases hkn : k < M
        · have hkI : (k : Int) < (M : Int) := by omega
          have k0 : (0 : Int) ≤ (k : Int) := by omega
          have HKN : Hid (k < M) := hkn
          have hcc := cutChange_any (.slice bq ul bm) us (wr.alloc (.cells #[.string ⟨#[]⟩, .string ⟨#[]⟩, .bool false] 40)) (HRW.out.below (below_alloc _ _)) HUL.out.1 _ rfl
          have HBX : Hid ((wr.alloc (.cells #[.string ⟨#[]⟩, .string ⟨#[]⟩, .bool false] 40)).heap[wr.heap.size]? = some (.cells #[.string ⟨#[]⟩, .string ⟨#[]⟩, .bool false] 40 (0, 0))) := heap_alloc_new _ _
          have HO1 : Hid (OnC w (.slice lq ll lm) lk (wr.alloc (.cells #[.string ⟨#[]⟩, .string ⟨#[]⟩, .bool false] 40))) := HON.out.next (below_alloc _ _)
          clear hk hkn
          go_wp2_with fail
          refine hcc.mono ?_
          rintro e w3 ⟨ca, cb, cg, ok, q3, n3, m3, rfl, hb3, hcase⟩
          have HB3 : Hid (w3.heap[wr.heap.size]? = some (.cells #[.string ⟨#[]⟩, .string ⟨#[]⟩, .bool false] 40 (0, 0))) := (hb3.block _ (lt_heap HBX.out)).trans HBX.out
          have HO3 : Hid (OnC w (.slice lq ll lm) lk w3) := HO1.out.next hb3
          obtain ⟨⟨c0, c1, c2⟩, f0, f1, f2⟩ := cellsF HB3.out
          have HBW : Hid (Below w.heap.size w (set3 w3 wr.heap.size (.string ca) (.string cb) (.bool cg))) := set3_below HO3.out.bel HON.out.bel.size _ _ _
          rcases hcase with ⟨hno, rfl⟩ | ⟨rfl, rest, hyes, hrow3, hfr3⟩
          · have HN : Hid (o = none) := by
              show o = none
              rw [← HO.out]
              refine rec_none3 H1.out.1 H2.out.1 (cutChs_none (k := k + 1) ?_ M HKN.out)
              rw [cutChs, HCS.out]
              simp only
              rw [hno]
            clear hcc hb3 hno
            go_wp2
            go_ret3
            refine ⟨?_, .inl ⟨HN.out, rfl⟩⟩
            repeat' first
              | exact HO3.out.bel
              | refine below_setR _ _ ?_ HON.out.bel.size
          · have HNX : Hid (cutChs gP (k + 1) zs = some (lk ++ [⟨ca, cb, cg⟩], rest)) := by
              show _ = _
              rw [cutChs, HCS.out]
              simp only
              rw [hyes]
            have HR3 : Hid (Row w3 (.slice q3 n3 m3) rest ∧ Fresh wr (.slice q3 n3 m3)) := ⟨hrow3, fun a n m e => by have h := hfr3 a n m e; simp at h; omega⟩
            have HO4 : Hid (OnC w (.slice lq ll lm) lk ((set3 w3 wr.heap.size (.string ca) (.string cb) (.bool cg)).alloc (.cells #[.string ca, .string cb, .bool cg] 40))) := by
              refine OnC.next ⟨World.ownsRow.kept HO3.out.own (set3_grown _ _ _ _ _) ?_, HBW.out⟩ (below_alloc _ _)
              cases hq : (Value.slice lq ll lm).ownBlock with
              | none => exact .inl rfl
              | some kk =>
                have h := (World.ownsRow.lt HON.out.own kk hq).2
                exact .inr (fun e => by simp at e; omega)
            have HR4 : Hid (Row ((set3 w3 wr.heap.size (.string ca) (.string cb) (.bool cg)).alloc (.cells #[.string ca, .string cb, .bool cg] 40)) (.slice q3 n3 m3) rest) := (row_grown HB3.out HR3.out.1 (set3_grown _ _ _ _ _)).below (below_alloc _ _)
            have HC4 : Hid _ := new3 (set3 w3 wr.heap.size (.string ca) (.string cb) (.bool cg)) (.string ca) (.string cb) (.bool cg) 40 w3.heap.size (by simp [set3])
            have HAP : Hid (∀ a n m, (Value.slice q3 n3 m3) = .slice (some a) n m → (Value.slice lq ll lm).ownBlock ≠ some a.block) := by
              intro a n m e e2
              have h := (World.ownsRow.lt HON.out.own _ e2).2
              have h2 := HR3.out.2 a n m e
              omega
            clear hcc hb3 hyes hrow3 hfr3
            go_wp2_with (at_builtin; (refine wpList_append_change _ rfl _ _ rfl w.heap.size (.slice lq ll lm) lk ⟨ca, cb, cg⟩ ⟨w3.heap.size, 0, none⟩ 1 rfl rfl HO4.out.own HC4.out.1 HC4.out.2.1 HC4.out.2.2 (by have := HUL.out; omega) HO4.out.bel.size ?_); intro v5 w5 ho5 hg5; have H5 : Hid (OnC w v5 (lk ++ [⟨ca, cb, cg⟩]) w5) := HO4.out.app hg5 ho5; have HR5 : Hid (Row w5 (.slice q3 n3 m3) rest) := row_apart HR4.out hg5 HAP.out; clear ho5 hg5)
            go_roundw
            case rel => exact ⟨k + 1, _, rest, HKN.out, by go_num, rfl, HNX.out, HR5.out, H5.out⟩
            case measure => have := HKN.out; simp [intOf]; omega
        · have hkI : (M : Int) ≤ (k : Int) := by omega
          obtain rfl : k = M := by omega
          have HN : Hid (o = some (lk, S)) := by
            show o = _
            rw [← HO.out]
            exact rec_some H1.out.1 H2.out.1 HCS.out
          clear hk hkn
          go_wp2
          go_ret3
          exact ⟨HON.out.bel, .inr ⟨lk, S, _, HN.out, rfl, HON.out.own⟩⟩
theorem cutT_size {xs rest : List Nat} {s : ByteArray} (h : cutT xs = some (s, rest)) : s.size ≤ xs.length := by
  unfold cutT at h
  split at h
  · split at h
    · simp only [Option.some.injEq, Prod.mk.injEq] at h
      rw [← h.1, strOf_size, List.length_take, List.length_drop]
      omega
    · cases h
  · cases h
theorem cutCh_size {g : Nat → Bool} {xs rest : List Nat} {c : CV} (h : cutCh g xs = some (c, rest)) : c.key.size ≤ xs.length ∧ c.val.size ≤ xs.length := by
  unfold cutCh at h
  split at h
  · cases h
  · cases h
  · rename_i key b r hc
    have h1 := cutT_size hc
    have h2 := cutT_len hc
    simp only [List.length_cons] at h2
    split at h
    · simp only [Option.some.injEq, Prod.mk.injEq] at h
      rw [← h.1]
      exact ⟨h1, by show (ByteArray.empty).size ≤ _; rw [show (ByteArray.empty).size = 0 from rfl]; omega⟩
    · split at h
      · cases h
      · rename_i v r2 hv
        have h3 := cutT_size hv
        simp only [Option.some.injEq, Prod.mk.injEq] at h
        rw [← h.1]
        exact ⟨h1, by show v.size ≤ _; omega⟩
theorem cutChs_size {g : Nat → Bool} : ∀ {k : Nat} {xs rest : List Nat} {l : List CV}, cutChs g k xs = some (l, rest) → ∀ c ∈ l, c.key.size ≤ xs.length ∧ c.val.size ≤ xs.length
  | 0, xs, rest, l, h => by
    simp only [cutChs, Option.some.injEq, Prod.mk.injEq] at h
    obtain ⟨rfl, rfl⟩ := h
    intro c hc
    cases hc
  | k + 1, xs, rest, l, h => by
    rw [cutChs] at h
    split at h
    · cases h
    · rename_i l1 ys h1
      have ih := cutChs_size h1
      have hl := cutChs_len h1
      split at h
      · cases h
      · rename_i c zs h2
        have hc := cutCh_size h2
        simp only [Option.some.injEq, Prod.mk.injEq] at h
        obtain ⟨rfl, rfl⟩ := h
        intro x hx
        rcases List.mem_append.1 hx with hx | hx
        · exact ih x hx
        · rw [List.mem_singleton.1 hx]
          omega
theorem cutRec_facts {g : Nat → Bool} {xs : List Nat} {l : List CV} {s : Nat} (h : cutRec g xs = some (l, s)) : (∀ c ∈ l, c.key.size ≤ xs.length ∧ c.val.size ≤ xs.length) ∧ l.length ≤ 64 ∧ s ≤ 2147483647 := by
  unfold cutRec at h
  split at h
  · cases h
  · rename_i sq ys h1
    split at h
    · cases h
    · rename_i n zs h2
      split at h
      · cases h
      · rename_i l2 us h3
        simp only [Option.some.injEq, Prod.mk.injEq] at h
        obtain ⟨rfl, rfl⟩ := h
        have e1 := cutNum_le h1
        have e2 := cutNum_le h2
        have e3 := cutChs_len h3
        exact ⟨fun c hc => by have := cutChs_size h3 c hc; omega, by omega, e1.1⟩
theorem readE_no {g : Nat → Bool} {xs : List Nat} (h : cutRec g xs = none) : readE g xs = none := by unfold readE; rw [h]
theorem readE_yes {g : Nat → Bool} {xs : List Nat} {l : List CV} {s : Nat} (h : cutRec g xs = some (l, s)) : readE g xs = if writeE l (s : Int) = (0, xs) then some (l, s) else none := by unfold readE; rw [h]
theorem strOf_back {xs : List Nat} {s : ByteArray} (hx : ∀ c ∈ xs, c < 256) : strOf xs = s ↔ xs = numsOf s := by
  constructor
  · intro h
    have := (strOf_eq hx (numsOf_lt s)).1 (by rw [h, strOf_nums])
    exact this
  · intro h
    rw [h, strOf_nums]
theorem writeE_bytes (l : List CV) (seq : Int) : ∀ c ∈ (writeE l seq).2, c < 256 := by
  intro c hc
  unfold writeE at hc
  repeat' split at hc
  all_goals first | (simp at hc; done) | exact recN_bytes _ _ c hc
structure RdP (w : World) (o : Option (List CV × Nat)) (e : Ending) (w' : World) : Prop where
  ex : Below w.heap.size w w' ∧ ((o = none ∧ ∃ ev, e = .returned (.tuple #[.slice none 0 0, .int .i64 0, ev]) ∧ Faults ev 8) ∨ ∃ l seq v, o = some (l, seq) ∧ e = .returned (.tuple #[v, .int .i64 (seq : Nat), .nilIface]) ∧ COwn w' w.heap.size v l)
set_option maxRecDepth 8000 in
set_option maxHeartbeats 4000000 in
theorem read_t (s : ByteArray) (w : World) (hs : s.size ≤ 100000) (o : Option (List CV × Nat)) (ho : readE gP (numsOf s) = o) :
    Calls Tryz.prog 15 #[.string s] w fun e w' => RdP w o e w' := by
  by_cases hlong : 4096 < s.size
  · have hlI : (4096 : Int) < (s.size : Int) := by omega
    have HN : Hid (o = none) := by show o = none; rw [← ho]; exact readE_long (by rw [numsOf_len]; exact hlong)
    clear ho hlong
    go_enter Tryz.func15, Tryz.ntmps15
    go_wp2
    go_ret3
    exact ⟨Below.refl _ _, .inl ⟨HN.out, _, rfl, Faults.one _ _⟩⟩
  have hlI : (s.size : Int) ≤ 4096 := by omega
  obtain ⟨W, cap, hrun, hbW, hcr, hcm⟩ := conv_row s w hs
  have HNL : Hid ((numsOf s).length = s.size ∧ s.size ≤ 4096) := ⟨numsOf_len s, by omega⟩
  obtain ⟨q, hq⟩ : ∃ q, cutRec gP (numsOf s) = q := ⟨_, rfl⟩
  have hcr2 : Row W (.slice (some ⟨w.heap.size, 0, none⟩) s.size cap) (numsOf s) := by
    exact ⟨⟨_, cap, by rw [numsOf_len], hcr.bin, by rw [numsOf_len]; exact hcr.le, hcm, fun h => by cases h⟩⟩
  have hct := cutRecord_any _ (numsOf s) W hcr2 (by rw [numsOf_len]; omega) q hq
  have HQ : Hid (cutRec gP (numsOf s) = q ∧ readE gP (numsOf s) = o) := ⟨hq, ho⟩
  have HBW : Hid (Below w.heap.size w W) := hbW
  clear hcr hcr2 hlong ho hq hbW hcm
  go_enter Tryz.func15, Tryz.ntmps15
  go_wp2_with fail
  refine hct.mono ?_
  rintro e w1 ⟨hb1, hcase⟩
  have HB1 : Hid (Below w.heap.size w w1) := below_bt HBW.out hb1
  rcases hcase with ⟨hq0, rfl⟩ | ⟨l, S, lv, hq1, rfl, hown⟩
  · have HN : Hid (o = none) := by show o = none; rw [← HQ.out.2]; exact readE_no (HQ.out.1.trans hq0)
    clear hct hb1 hq0 hrun
    go_wp2
    go_ret3
    exact ⟨HB1.out, .inl ⟨HN.out, _, rfl, Faults.one _ _⟩⟩
  · have HC : Hid (cutRec gP (numsOf s) = some (l, S)) := HQ.out.1.trans hq1
    have hfc := cutRec_facts HC.out
    obtain ⟨lq, lm, rfl, hlm, _, _⟩ := own_form hown
    have HOW : Hid (COwn w1 w.heap.size (.slice lq l.length lm) l) := own_mono hown HBW.out.size
    have hwr := write_any lq l.length lm l (S : Int) w1 (COwn.cs hown) rfl hlm (by omega) (fun x hx => by have := hfc.1 x hx; have := HNL.out; omega) _ rfl
    have HWB : Hid (∀ c ∈ (writeE l (S : Int)).2, c < 256) := writeE_bytes l _
    have HRE : Hid (o = if writeE l (S : Int) = (0, numsOf s) then some (l, S) else none) := by show o = _; rw [← HQ.out.2]; exact readE_yes HC.out
    obtain ⟨r, hr⟩ : ∃ r, writeE l (S : Int) = r := ⟨_, rfl⟩
    rw [hr] at hwr HWB HRE
    obtain ⟨ll, hll⟩ : ∃ m, l.length = m := ⟨_, rfl⟩
    rw [hll] at HOW hwr ⊢
    clear hct hb1 hq1 hrun hown hfc hr hlm hll
    go_wp2_with fail
    refine hwr.mono ?_
    rintro e w2 ⟨ev, rfl, hev, hb2⟩
    have HB2 : Hid (Below w.heap.size w w2) := below_bt HB1.out hb2
    have HO2 : Hid (COwn w2 w.heap.size (.slice lq ll lm) l) := HOW.out.below hb2
    obtain ⟨re, rb⟩ := r
    rcases hev with ⟨h0, rfl⟩ | ⟨h0, hfa⟩
    · simp only at h0 HWB
      subst h0
      by_cases hst : strOf rb = s
      · have hb : ((strOf rb).toList == s.toList) = true := by rw [eq_strF]; simpa using hst
        have HN : Hid (o = some (l, S)) := HRE.out.trans (if_pos (by rw [(strOf_back HWB.out).1 hst]))
        clear hwr hb2 hst
        go_wp2
        go_ret3
        exact ⟨HB2.out, .inr ⟨l, S, _, HN.out, rfl, HO2.out⟩⟩
      · have hb : ((strOf rb).toList == s.toList) = false := by rw [eq_strF]; simpa using hst
        have HN : Hid (o = none) := HRE.out.trans (if_neg (fun h => hst ((strOf_back HWB.out).2 (by simpa using h))))
        clear hwr hb2 hst
        go_wp2
        go_ret3
        exact ⟨HB2.out, .inl ⟨HN.out, _, rfl, Faults.one _ _⟩⟩
    · have HN : Hid (o = none) := HRE.out.trans (if_neg (fun h => h0 (by simpa using congrArg Prod.fst h)))
      obtain ⟨T, vv, rfl⟩ := hfa.iface
      clear hwr hb2 h0 hfa
      go_wp2
      go_ret3
      exact ⟨HB2.out, .inl ⟨HN.out, _, rfl, Faults.one _ _⟩⟩
structure RdN (w : World) (o : Option (List CV × Nat)) (e : Ending) (w' : World) : Prop where
  ex : ∃ v, e = .returned (.tuple #[v, .int .i64 ((o.map Prod.snd).getD 0 : Nat), .int .i64 (if o.isSome = true then 0 else 8)]) ∧ COwn w' w.heap.size v ((o.map Prod.fst).getD []) ∧ Below w.heap.size w w'
set_option maxRecDepth 8000 in
set_option maxHeartbeats 4000000 in
theorem Read_t (s : ByteArray) (w : World) (hs : s.size ≤ 100000) (o : Option (List CV × Nat)) (ho : readE gP (numsOf s) = o) :
    Calls Tryz.prog 7 #[.string s] w fun e w' => RdN w o e w' := by
  have hr := read_t s w hs o ho
  clear ho
  go_enter Tryz.func7, Tryz.ntmps7
  go_wp2_with fail
  refine hr.mono ?_
  rintro e w1 ⟨hb1, hcase⟩
  have HB1 : Hid (Below w.heap.size w w1) := hb1
  rcases hcase with ⟨rfl, ev, rfl, hfa⟩ | ⟨l, S, lv, rfl, rfl, hown⟩
  · have hnum := numberOf_any ev 8 (.inr ⟨by decide, hfa⟩) (by decide) w1
    obtain ⟨T, vv, rfl⟩ := hfa.iface
    clear hr hb1 hfa
    go_wp2_with fail
    refine hnum.mono ?_
    rintro e w2 ⟨rfl, hb2⟩
    go_wp2
    go_ret3
    exact ⟨⟨_, rfl, cown_nil _ _, below_bt HB1.out hb2⟩⟩
  · have hnum := numberOf_any .nilIface 0 (.inl ⟨rfl, rfl⟩) (by decide) w1
    have HOW : Hid (COwn w1 w.heap.size lv l) := hown
    obtain ⟨lq, lm, rfl, _⟩ := own_form hown
    obtain ⟨ll, hll⟩ : ∃ m, l.length = m := ⟨_, rfl⟩
    rw [hll] at HOW ⊢
    clear hr hb1 hown hll
    go_wp2_with fail
    refine hnum.mono ?_
    rintro e w2 ⟨rfl, hb2⟩
    go_wp2
    go_ret3
    exact ⟨⟨_, rfl, HOW.out.below hb2, below_bt HB1.out hb2⟩⟩
structure HeavyP (w : World) (n : Nat) (e : Ending) (w' : World) : Prop where
  ex : ∃ r : Bool, e = .returned (.bool r) ∧ (r = false → n ≤ 200) ∧ Below w.heap.size w w'
set_option maxRecDepth 8000 in
set_option maxHeartbeats 1000000 in
theorem heavy_any (q : Option Addr) (n c : Nat) (l : List CV) (w : World) (hn0 : n = l.length) (hq : CsIn w q l) (hn : (n : Int) ≤ 9223372036854775807) :
    Calls Tryz.prog 5 #[.slice q n c] w fun e w' => HeavyP w n e w' := by
  have HN : Hid (n = l.length) := hn0
  have HQ : Hid (CsIn w q l) := hq
  clear hn0 hq
  go_enter Tryz.func5, Tryz.ntmps5
  go_wp2
  go_loopw [3, 4] (fun t i wr => ∃ k : Nat, ∃ z : Int, k ≤ n ∧ i = .int .i64 k ∧ t = .int .i64 z ∧ Below w.heap.size w wr) (fun _ i _ => n - (intOf i).toNat)
  case atStart => exact ⟨0, 0, by omega, rfl, rfl, Below.refl _ _⟩
  case round =>
    obtain ⟨k, z, hk, rfl, rfl, hbel⟩ := hrel
    have HBE : Hid (Below w.heap.size w wr) := hbel
    clear hbel
    by_cases hkn : k < n
    · have g1 : decide (k < n) = true := decide_eq_true hkn
      have hkI : (k : Int) < (n : Int) := by omega
      have hk0 : (0 : Int) ≤ (k : Int) := by omega
      obtain ⟨ba, oa, rfl⟩ := HQ.out.addr (by have := HN.out; omega)
      obtain ⟨x0, x1, _⟩ := (HQ.out.below HBE.out).at (k := k) (by have := HN.out; omega)
      generalize (l.getD k zeroCV).key = ke at *
      generalize (l.getD k zeroCV).val = ve at *
      go_wp2
      go_region
      go_wp2
      go_roundw
      case rel => exact ⟨k + 1, _, by omega, by go_num, rfl, HBE.out.drew⟩
      case measure => simp [intOf]; omega
    · have g1 : decide (k < n) = false := decide_eq_false hkn
      have hkI : (n : Int) ≤ (k : Int) := by omega
      by_cases h5 : n ≤ 200
      · have HR : Hid (n ≤ 200) := h5
        have q1 : decide ((200 : Int) < (n : Int)) = false := decide_eq_false (by omega)
        clear h5
        go_wp2
        go_ret
        exact ⟨⟨_, rfl, fun _ => HR.out, HBE.out⟩⟩
      · have q1 : decide ((200 : Int) < (n : Int)) = true := decide_eq_true (by omega)
        clear h5
        go_wp2
        go_ret
        exact ⟨⟨true, by simp, fun h => (by cases h), HBE.out⟩⟩
theorem neq_change (a b : ByteArray) (g : Bool) (w : World) : Sem.run Tryz.prog (binOp .neq 40 (.agg #[.string a, .string b, .bool g]) (.agg #[.string a, .string b, .bool g])) w = .ok (.bool false) w := by
  have u9 := Tryz.underlying9
  have a9 := Tryz.isAgg9
  have z9 := Tryz.sizeOf9
  have u4 := Tryz.underlying4
  have a4 := Tryz.isAgg4
  have z4 := Tryz.sizeOf4
  have hS : Tryz.prog.underlying 40 = some (.struct (Tryz.prog.fieldsOf 40)) := by kernel_rfl
  have hp : Tryz.prog.stoodInHeld 40 = false := by kernel_rfl
  rw [run_neq_struct, show (10000 : Nat) = 9999 + 1 from rfl, run_equalIn_agg w 9999 40 _ _ hS hp]
  simp only [Program.fieldsOf, Tryz.underlying40]
  go_simp
set_option maxRecDepth 8000 in
set_option maxHeartbeats 1000000 in
theorem same_yes12 (qa qb : Option Addr) (n m ca cb : Nat) (l : List CV) (w : World) (ha : CsIn w qa l) (hb : CsIn w qb l) (en : n = l.length) (em : m = l.length) (hnb : (l.length : Int) ≤ 1000000) :
    Calls Tryz.prog 8 #[.slice qa n ca, .slice qb m cb] w fun e w' => e = .returned (.bool true) ∧ Below w.heap.size w w' := by
  obtain rfl : n = m := by omega
  have hneq := neq_change
  have HA : Hid (CsIn w qa l ∧ CsIn w qb l ∧ n = l.length) := ⟨ha, hb, en⟩
  have hnI : (n : Int) ≤ 1000000 := by omega
  clear ha hb en em hnb
  go_enter Tryz.func8, Tryz.ntmps8
  go_wp2
  go_loopw [5] (fun i wr => ∃ k : Nat, k ≤ n ∧ i = .int .i64 k ∧ Below w.heap.size w wr) (fun i _ => n - (intOf i).toNat)
  case atStart => exact ⟨0, by omega, rfl, Below.refl _ _⟩
  case round =>
    obtain ⟨k, hk, rfl, hbel⟩ := hrel
    have HB : Hid (Below w.heap.size w wr) := hbel
    by_cases hkn : k < n
    · have hkI : (k : Int) < (n : Int) := by omega
      have k0 : (0 : Int) ≤ (k : Int) := by omega
      have HKN : Hid (k < n) := hkn
      have hkl : k < l.length := by have := HA.out.2.2; omega
      have h1 := HA.out.1.below hbel
      have h2 := HA.out.2.1.below hbel
      obtain ⟨ab, ao, rfl⟩ := h1.addr (by omega)
      obtain ⟨bb, bo, rfl⟩ := h2.addr (by omega)
      obtain ⟨x0, x1, x2⟩ := h1.at hkl
      obtain ⟨y0, y1, y2⟩ := h2.at hkl
      generalize l.getD k zeroCV = z at *
      obtain ⟨zk, zv, zg⟩ := z
      simp only at x0 x1 x2 y0 y1 y2
      clear h1 h2 hkl hbel hk hkn
      go_wp2
      go_quiet (fail)
      go_wp2
      go_roundw
      case rel => exact ⟨k + 1, HKN.out, by go_num, below_drewN HB.out _⟩
      case measure => have := HKN.out; simp [intOf]; omega
    · have hkI : (n : Int) ≤ (k : Int) := by omega
      clear hkn hk hbel
      go_wp2
      go_ret
      exact ⟨rfl, HB.out⟩
end Go.Proofs.YtghcmllmbpoidaaGreatDoor.Tr
