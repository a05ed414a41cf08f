/-
  Pass: the document's.
-/
import Derived.Test.YtoagaddciapmkaaDoorJ08
import Derived.Deep.RegionHeldLaw
import Derived.Deep.RegionHeld3
import Derived.Test.YtoagaddciapmkaaDoorJ11
import Derived.Lib.ConvBytes
import Derived.Test.YtoagaddciapmkaaDoorJ21
namespace Go.Proofs.YtoagaddciapmkaaDoor
open Go.RowKit Go.WideShapes

theorem step_append_b {ops : Array Oper} {o : Oper} {a : Act} {w : World} {K : Act → World → Prop} {Q : Exit → Act → World → Prop} {E : Prop} (hgd : o.guard = none) (s x : Operand)
    (ho : o.op = .call { callee := .builtin .append, args := #[s, x], argTypes := #[22, 22] }) (base : Nat) (v : Value) (xs ys : List Nat) (p : Option Addr) (m c : Nat) (hs : a.eval s = v) (hx : a.eval x = .slice p m c) (hm : m = ys.length)
    (hown : w.ownsRow base 5 1 v xs.length (Bs xs)) (hin : BIn w p ys) (hp : p = none → c = 0) (hlen : xs.length + ys.length ≤ 140737488355328) (hbase : base ≤ w.heap.size)
    (h : ∀ v' w', w'.ownsRow base 5 1 v' (xs ++ ys).length (Bs (xs ++ ys)) → w.grownBy w' v.ownBlock → K (a.put o.dst v') w') : if Region.wanted o (yielded ops a.tmps) = true then Oper.wp Tryd.prog o a w K Q else E := by
  subst hm
  have hw : Region.wanted o (yielded ops a.tmps) = true := by simp [Region.wanted, hgd]
  rw [if_pos hw]
  obtain ⟨i0, hi, hz0, hz1, hz2⟩ := info_parts info5u
  obtain ⟨v', w', hr, h2, h3⟩ := run_append_row (P := Tryd.prog) Tryd.underlying22 hi hz0 hz1 hz2 base o.type v xs ys p c hown hin hp hlen hbase
  unfold Oper.wp execOp
  simp only [ho, resolve, invoke, builtin, Sem.run_bind, Sem.run_pure, Result.andThen_ok, List.map_toArray, List.map_cons, List.map_nil, hs, hx, hr]
  exact h v' w' h2 h3
theorem bin_two (w : World) (a b : Nat) (ha : a < 256) (hb : b < 256) : BIn (w.alloc (.cells #[.int .u8 (a : Int), .int .u8 (b : Int)] 5)) (some ⟨w.heap.size, 0, none⟩) [a, b] := by
  refine ⟨fun _ => ⟨w.heap.size, 0, rfl, fun i hi => ?_⟩, ?_⟩
  · rw [Nat.zero_add, cell_of_row _ _ _ _ _ _ (_root_.Go.heap_alloc_new _ _)]
    match i, hi with
    | 0, _ => rfl
    | 1, _ => rfl
  · intro c hc
    simp only [List.mem_cons, List.not_mem_nil, or_false] at hc
    rcases hc with rfl | rfl <;> assumption
theorem own_binu {w : World} {B : Nat} {v : Value} {xs : List Nat} (h : w.ownsRow B 5 1 v xs.length (Bs xs)) (hx : ∀ x ∈ xs, x < 256) : ∃ p c, v = .slice p xs.length c ∧ BIn w p xs := by
  rcases h.2 with ⟨rfl, h0⟩ | ⟨g, cap, cur, rfl, hB, hg, hn, _, _, ht⟩
  · rw [h0]
    exact ⟨none, 0, rfl, ⟨fun hp => by omega, hx⟩⟩
  · refine ⟨some ⟨g, 0, none⟩, cap, rfl, ⟨fun _ => ⟨g, 0, rfl, fun i hi => ?_⟩, hx⟩⟩
    rw [Nat.zero_add, cell_of_row _ _ _ _ _ _ hg]
    have e1 : cur[i]? = (cur.toList.take (xs.length * 1))[i]? := by rw [List.getElem?_take_of_lt (by omega), Array.getElem?_toList]
    rw [e1, ht]
    simp [Bs, List.getD, List.getElem?_eq_getElem hi]
theorem cell_block' {w w' : World} {g : Nat} (h : w'.heap[g]? = w.heap[g]?) (i : Nat) : w'.cell? ⟨g, i, none⟩ = w.cell? ⟨g, i, none⟩ := by
  simp [World.cell?, h]
inductive RHexI (w : World) (xs : List Nat) (v t : Value) (wr : World) : Prop where
  | intro (k : Nat) (hk : k ≤ xs.length) (ht : t = .int .i64 (k : Int)) (ho : wr.ownsRow w.heap.size 5 1 v (hexN (xs.take k)).length (Bs (hexN (xs.take k)))) (hb : Below w.heap.size w wr)
set_option maxHeartbeats 2000000 in
set_option maxRecDepth 100000 in
theorem rhex_any (p : Option Addr) (c : Nat) (xs : List Nat) (w : World) (hb : BIn w p xs) (hsz : xs.length ≤ 1000000) :
    Calls Tryd.prog 40 #[.slice p xs.length c] w fun e w' => e = .returned (.string (strOf (hexN xs))) ∧ Below w.heap.size w w' := by
  go_enter Tryd.func40, Tryd.ntmps40
  go_wp2
  go_loopw [3, 4] (fun v t wr => RHexI w xs v t wr) (fun _ t _ => xs.length - (intOf t).toNat)
  case atStart => exact ⟨0, by omega, rfl, World.ownsRow_nil _ _ _ _, Below.refl _ _⟩
  case round =>
    obtain ⟨k, hk, rfl, hown, BW⟩ := hrel
    have hsw := BW.size
    by_cases hlt : k < xs.length
    · have hb2 := hb.below BW
      obtain ⟨b, o, rfl, hcell⟩ := hb2.1 (by omega)
      have hck := hcell k hlt
      obtain ⟨_, _, e0, hcell0⟩ := hb.1 (by omega)
      have hbl : b < w.heap.size := by
        simp only [Option.some.injEq, Addr.mk.injEq, and_true] at e0
        rw [e0.1]; exact block_lt_of_cell (hcell0 k hlt)
      have hx := getD_lt hb.2 k
      have HT : Hid _ := hexN_take xs k hlt
      have hlen : (hexN (xs.take k)).length ≤ 2000000 := by rw [hexN_len, List.length_take]; omega
      have hkI : (k : Int) < (xs.length : Int) := by omega
      generalize xs.getD k 0 = x at hck hx HT
      have s1 := six_at (x / 16) (by omega)
      have s2 := six_at (x % 16) (by omega)
      have c1 := hexC_byte (n := x / 16) (by omega)
      have c2 := hexC_byte (n := x % 16) (by omega)
      obtain ⟨xh, hxh⟩ : ∃ xh, x / 16 = xh := ⟨_, rfl⟩
      obtain ⟨xl, hxl⟩ : ∃ xl, x % 16 = xl := ⟨_, rfl⟩
      have q1 : (x : Int) / 16 = (xh : Int) := by omega
      have q2 : (x : Int) % 16 = (xl : Int) := by omega
      have q3 : (x : Int).tdiv 16 = (xh : Int) := by rw [Int.tdiv_eq_ediv_of_nonneg (by omega)]; omega
      have q4 : (x : Int).tmod 16 = (xl : Int) := by rw [Int.tmod_eq_emod_of_nonneg (by omega)]; omega
      have q5 : (xh : Int) % 256 = (xh : Int) := by omega
      have q6 : (xl : Int) % 256 = (xl : Int) := by omega
      have q7 : IntKind.u8.wrap (xh : Int) = (xh : Int) := by rw [IntKind.wrap_u8]; omega
      have q8 : IntKind.u8.wrap (xl : Int) = (xl : Int) := by rw [IntKind.wrap_u8]; omega
      have q9 : (xh : Int) < 16 := by omega
      have q10 : (xl : Int) < 16 := by omega
      rw [hxh] at s1 HT c1
      rw [hxl] at s2 HT c2
      unfold sixS at s1 s2
      generalize hexC xh = ch at s1 HT c1
      generalize hexC xl = cl at s2 HT c2
      generalize hexN (xs.take k) = ys at hown HT hlen
      have CK : Hid (∀ w' : World, Below w.heap.size wr w' → w'.cell? ⟨b, o + k, none⟩ = some (.int .u8 (x : Int))) := fun w' hw => by rw [cell_block' (hw.block b hbl)]; exact hck
      have OW : Hid ((wr.drew.alloc (.cells #[.int .u8 (ch : Int), .int .u8 (cl : Int)] 5)).ownsRow w.heap.size 5 1 u3 ys.length (Bs ys)) := (show wr.drew.ownsRow w.heap.size 5 1 u3 ys.length (Bs ys) from hown).alloc _
      have OB : Hid (∀ g, u3.ownBlock = some g → w.heap.size ≤ g) := fun g hg => (hown.lt g hg).1
      have B2 : Hid _ := bin_two wr.drew ch cl (by omega) (by omega)
      have Hb : Hid _ := hb
      clear hxh hxl hb hb2 hcell hcell0 e0 hown
      go_upto_region 5 with fail
      go_region_held3 (fun w' => w'.cell? ⟨b, o + k, none⟩ = some (.int .u8 (x : Int)))
        (first | exact hck | go_keep | exact CK.out _ (Below.refl _ _).drew | exact CK.out _ ((Below.refl _ _).drew.alloc hsw _) | exact CK.out _ (((Below.refl _ _).drew.alloc hsw _).grown hg6 (Nat.le_trans hsw (by simp)) (fun g hg => OB.out g hg)))
        (first
          | (refine step_append_b rfl _ _ rfl w.heap.size u3 ys [ch, cl] (some ⟨wr.heap.size, 0, none⟩) 2 2 rfl rfl rfl OW.out B2.out (by intro e; cases e) (by simp; omega) (Nat.le_trans hsw (by simp)) ?_; intro v6 w6 ho6 hg6)
          | fail)
      all_goals
        have B6 : Below w.heap.size w w6 := BW.trans (((Below.refl _ _).drew.alloc hsw _).grown hg6 (Nat.le_trans hsw (by simp)) (fun g hg => OB.out g hg))
        clear hg6 OW OB CK
        go_wp2
        go_roundw
        case rel =>
          refine ⟨k + 1, by omega, rfl, ?_, B6⟩
          rw [HT.out, List.append_assoc]
          exact ho6
        case measure => simp [intOf]; omega
    · obtain rfl : k = xs.length := by omega
      rw [List.take_length] at hown
      obtain ⟨p2, c2, rfl, hi2⟩ := own_binu hown (hexN_byte hb.2)
      have cv := conv_at (c := c2) hi2 rfl
      have Hb : Hid _ := hb
      clear hown hi2 hb
      go_wp2
      go_ret
      exact ⟨rfl, BW⟩
/-- A sixteen's worth: the document's. -/
theorem rhalf_any (c : Nat) (hc : c < 256) (w : World) : Calls Tryd.prog 82 #[.int .u8 (c : Int)] w fun e w' => e = .returned (.int .i64 (worthN c)) ∧ w' = w := by
  by_cases h1 : 48 ≤ c ∧ c ≤ 57
  · have e : worthN c = (c : Int) - 48 := by rw [worth_some (x := c - 48) (by unfold halfN; rw [if_pos h1])]; omega
    have a1 : (48 : Int) ≤ (c : Int) := by omega
    have a2 : (c : Int) ≤ 57 := by omega
    go_enter Tryd.func82, Tryd.ntmps82
    rw [e]
    clear e
    go_wp2
    go_ret
    exact ⟨rfl, rfl⟩
  · by_cases h2 : 97 ≤ c ∧ c ≤ 102
    · have e : worthN c = (c : Int) - 97 + 10 := by rw [worth_some (x := c - 87) (by unfold halfN; rw [if_neg h1, if_pos h2])]; omega
      have a1 : (97 : Int) ≤ (c : Int) := by omega
      have a2 : (c : Int) ≤ 102 := by omega
      have a3 : (48 : Int) ≤ (c : Int) := by omega
      have a4 : ¬ ((c : Int) ≤ 57) := by omega
      go_enter Tryd.func82, Tryd.ntmps82
      rw [e]
      clear e
      go_wp2
      go_ret
      exact ⟨rfl, rfl⟩
    · have e : worthN c = -1 := worth_none (by unfold halfN; rw [if_neg h1, if_neg h2])
      go_enter Tryd.func82, Tryd.ntmps82
      rw [e]
      clear e
      by_cases a3 : (48 : Int) ≤ (c : Int)
      · have a4 : ¬ ((c : Int) ≤ 57) := by omega
        by_cases a1 : (97 : Int) ≤ (c : Int)
        · have a2 : ¬ ((c : Int) ≤ 102) := by omega
          go_wp2
          go_ret
          exact ⟨rfl, rfl⟩
        · go_wp2
          go_ret
          exact ⟨rfl, rfl⟩
      · have a1 : ¬ ((97 : Int) ≤ (c : Int)) := by omega
        go_wp2
        go_ret
        exact ⟨rfl, rfl⟩

theorem conv_str (s : ByteArray) (w : World) : ∃ c w', (convert 9 22 (.string s)).run Tryd.prog w = .ok (.slice (some ⟨w.heap.size, 0, none⟩) s.size c) w' ∧ s.size ≤ c ∧ BIn w' (some ⟨w.heap.size, 0, none⟩) (numsOf s) ∧ Below w.heap.size w w' := by
  refine ⟨_, _, Lib.run_convert_string_bytes (P := Tryd.prog) w 9 22 5 s Tryd.underlying9 Tryd.underlying22 Tryd.underlying5, ?_, ?_, ?_⟩
  · exact grownCap_ge w s.size 0 5
  · refine ⟨fun _ => ⟨w.heap.size, 0, rfl, fun i hi => ?_⟩, numsOf_lt s⟩
    rw [numsOf_len] at hi
    rw [Nat.zero_add, Lib.bytesWorld_cell w 5 s i hi]
    unfold numsOf
    rw [List.getD_eq_getElem?_getD, List.getD_eq_getElem?_getD, List.getElem?_map, List.getElem?_eq_getElem (show i < s.data.toList.length by rw [Array.length_toList]; exact hi)]
    rfl
  · exact ⟨rfl, rfl, rfl, by rw [Lib.bytesWorld_size]; omega, fun k hk => Lib.bytesWorld_at_old w 5 s k hk⟩
theorem below_go2 {a b c : World} (h : Below a.heap.size a b) (k : Below b.heap.size b c) : Below a.heap.size a c :=
  h.trans ⟨k.os, k.tape, k.output, k.size, fun j hj => k.block j (Nat.lt_of_lt_of_le hj h.size)⟩
theorem passN_byte {s b : List Nat} (hb : ∀ x ∈ b, x < 256) : ∀ k, ∀ x ∈ passN s b k, x < 256
  | 0 => hb
  | _ + 1 => sealN_byte _ _
theorem passN_size {s b : List Nat} (hb : b.length ≤ 16384) : ∀ k, (passN s b k).length ≤ 16384
  | 0 => hb
  | k + 1 => by rw [passN_len]; omega
inductive PassI (W : World) (s b : List Nat) (n : Nat) (t v : Value) (wr : World) : Prop where
  | intro (k : Nat) (p : Option Addr) (c : Nat) (hk : k ≤ n) (ht : t = .int .i64 (k : Int)) (hv : v = .slice p (passN s b k).length c) (hc : (passN s b k).length ≤ c) (hb : BIn wr p (passN s b k)) (hB : Below W.heap.size W wr)
theorem pass_long (a b : ByteArray) (t : Int) (w : World) (h : 16384 < a.size ∨ 16384 < b.size) : Calls Tryd.prog 16 #[.string a, .string b, .int .i64 t] w fun e w' => e = .returned (.tuple #[.string ⟨#[]⟩, .int .i64 3]) ∧ w' = w := by
  go_enter Tryd.func16, Tryd.ntmps16
  by_cases h1 : 16384 < a.size
  · have hI : (16384 : Int) < (a.size : Int) := by omega
    go_wp2
    go_ret2
    exact ⟨rfl, rfl⟩
  · have hI : ¬ ((16384 : Int) < (a.size : Int)) := by omega
    have hJ : (16384 : Int) < (b.size : Int) := by omega
    go_wp2
    go_ret2
    exact ⟨rfl, rfl⟩
theorem pass_times (a b : ByteArray) (t : Int) (w : World) (h1 : a.size ≤ 16384) (h2 : b.size ≤ 16384) (h : t < 1 ∨ 64 < t) : Calls Tryd.prog 16 #[.string a, .string b, .int .i64 t] w fun e w' => e = .returned (.tuple #[.string ⟨#[]⟩, .int .i64 2]) ∧ w' = w := by
  go_enter Tryd.func16, Tryd.ntmps16
  have hI : ¬ ((16384 : Int) < (a.size : Int)) := by omega
  have hJ : ¬ ((16384 : Int) < (b.size : Int)) := by omega
  by_cases h3 : t < 1
  · go_wp2
    go_ret2
    exact ⟨rfl, rfl⟩
  · have h4 : (64 : Int) < t := by omega
    go_wp2
    go_ret2
    exact ⟨rfl, rfl⟩
set_option maxHeartbeats 2000000 in
set_option maxRecDepth 100000 in
theorem pass_ok (a b : ByteArray) (n : Nat) (w : World) (hk : KOn w) (h1 : a.size ≤ 16384) (h2 : b.size ≤ 16384) (hn1 : 1 ≤ n) (hn2 : n ≤ 64) :
    Calls Tryd.prog 16 #[.string a, .string b, .int .i64 (n : Int)] w fun e w' => e = .returned (.tuple #[.string (strOf (hexN (passN (numsOf a) (numsOf b) n))), .int .i64 0]) ∧ Below w.heap.size w w' := by
  have hI : ¬ ((16384 : Int) < (a.size : Int)) := by omega
  have hJ : ¬ ((16384 : Int) < (b.size : Int)) := by omega
  have hT1 : ¬ ((n : Int) < 1) := by omega
  have hT2 : ¬ ((64 : Int) < (n : Int)) := by omega
  obtain ⟨c1, w1, r1, hc1, i1, B1⟩ := conv_str a w
  obtain ⟨c2, w2, r2, hc2, i2, B2⟩ := conv_str b w1
  have BW := below_go2 B1 B2
  have hla := numsOf_len a
  have hlb := numsOf_len b
  have hbb := numsOf_lt b
  have i1' := i1.below B2
  go_enter Tryd.func16, Tryd.ntmps16
  go_wp2
  go_loopw [30, 9] (fun t v wr => PassI w2 (numsOf a) (numsOf b) n t v wr) (fun t _ _ => n - (intOf t).toNat)
  case atStart => exact ⟨0, _, c2, by omega, rfl, by show _ = Value.slice _ (numsOf b).length c2; rw [hlb], by show (numsOf b).length ≤ c2; rw [hlb]; exact hc2, i2, Below.refl _ _⟩
  case round =>
    obtain ⟨k, p, c, hkn, rfl, rfl, hc, hb, hB⟩ := hrel
    by_cases hlt : k < n
    · have hsz := passN_size (s := numsOf a) (b := numsOf b) (by omega) k
      have BWr := below_go2 BW hB
      have SE := sealed_any (some ⟨w.heap.size, 0, none⟩) p c1 c (numsOf a) (passN (numsOf a) (numsOf b) k) wr (hk.below BWr hk.pos) (i1'.below hB) (by rw [hla]; exact hc1) hb hc (by omega) (by omega)
      rw [← passN_more, hla] at SE
      have hSl := passN_len (numsOf a) (numsOf b) k
      have hSb := passN_byte (s := numsOf a) hbb (k + 1)
      obtain ⟨D, hD⟩ : ∃ D, passN (numsOf a) (numsOf b) (k + 1) = D := ⟨_, rfl⟩
      rw [hD] at SE hSl hSb
      have HD : Hid _ := hD
      have hDs : (Tryd.prog.info? 23).map (·.size) = some (Bs D).toArray.size := by rw [size_dig]; simp [Bs, hSl]
      have hkI : (k : Int) < (n : Int) := by omega
      have Hb : Hid _ := hb
      clear hD hb r1 r2
      go_wp2_with fail
      refine SE.mono ?_
      rintro e w3 ⟨rfl, hb3⟩
      simp only []
      go_step
      go_step
      go_step
      go_step
      refine wpList_store_row rfl 23 (.tmp 10) (.tmp 34) rfl w3.heap.size (Bs D).toArray (by rfl) (by rfl) 23 _ (_root_.Go.heap_alloc_new _ _) hDs (by simp [Bs, hSl]) (one_cell_bs _) ?_
      rw [World.setRow_alloc_new]
      have B4 : Below w2.heap.size w2 (w3.alloc (Obj.cells (Bs D).toArray 23)) := (below_go2 hB hb3).alloc (below_go2 hB hb3).size _
      have BD : BIn (w3.alloc (Obj.cells (Bs D).toArray 23)) (some ⟨w3.heap.size, 0, none⟩) D := bin_dig (_root_.Go.heap_alloc_new _ _) hSb
      have hsl := slice_dig w3.heap.size
      generalize w3.heap.size = g3 at BD hsl ⊢
      generalize w3.alloc (Obj.cells (Bs D).toArray 23) = W4 at BD B4 ⊢
      clear hb3 SE
      simp only [Act.put]
      go_wp2
      go_roundw
      case rel =>
        refine ⟨k + 1, some ⟨g3, 0, none⟩, 32, by omega, rfl, by rw [HD.out, hSl], by rw [HD.out, hSl]; exact Nat.le_refl _, by rw [HD.out]; exact BD, B4⟩
      case measure => simp [intOf]; omega
    · obtain rfl : k = n := by omega
      have HX := hex_any p c (passN (numsOf a) (numsOf b) k) wr hb (Nat.le_trans (passN_size (by omega) k) (by decide))
      have Hb : Hid _ := hb
      clear hb r1 r2
      obtain ⟨D, hD⟩ : ∃ D, passN (numsOf a) (numsOf b) k = D := ⟨_, rfl⟩
      have HD : Hid _ := hD
      rw [hD] at HX hc ⊢
      clear hD
      go_wp2_with (go_at_call 22; refine HX.mono ?_; rintro e w3 ⟨rfl, hb3⟩)
      go_ret2
      rw [HD.out]
      exact ⟨rfl, below_go2 (below_go2 BW hB) hb3⟩
end Go.Proofs.YtoagaddciapmkaaDoor
namespace Go.Proofs.YtoagaddciapmkaaDoor
open Go.RowKit Go.WideShapes Go.Maps

theorem rpass_long (a b : ByteArray) (t : Int) (w : World) (h : 16384 < a.size ∨ 16384 < b.size) : Calls Tryd.prog 17 #[.string a, .string b, .int .i64 t] w fun e w' => e = .returned (.tuple #[.string ⟨#[]⟩, .int .i64 3]) ∧ w' = w := by
  go_enter Tryd.func17, Tryd.ntmps17
  by_cases h1 : 16384 < a.size
  · have hI : (16384 : Int) < (a.size : Int) := by omega
    go_wp2
    go_ret2
    exact ⟨rfl, rfl⟩
  · have hI : ¬ ((16384 : Int) < (a.size : Int)) := by omega
    have hJ : (16384 : Int) < (b.size : Int) := by omega
    go_wp2
    go_ret2
    exact ⟨rfl, rfl⟩
theorem rpass_times (a b : ByteArray) (t : Int) (w : World) (h1 : a.size ≤ 16384) (h2 : b.size ≤ 16384) (h : t < 1 ∨ 64 < t) : Calls Tryd.prog 17 #[.string a, .string b, .int .i64 t] w fun e w' => e = .returned (.tuple #[.string ⟨#[]⟩, .int .i64 2]) ∧ w' = w := by
  go_enter Tryd.func17, Tryd.ntmps17
  have hI : ¬ ((16384 : Int) < (a.size : Int)) := by omega
  have hJ : ¬ ((16384 : Int) < (b.size : Int)) := by omega
  by_cases h3 : t < 1
  · go_wp2
    go_ret2
    exact ⟨rfl, rfl⟩
  · have h4 : (64 : Int) < t := by omega
    go_wp2
    go_ret2
    exact ⟨rfl, rfl⟩
inductive RPassI (w : World) (gd : Nat) (s b : List Nat) (n : Nat) (v t : Value) (wr : World) : Prop where
  | intro (k : Nat) (p : Option Addr) (c : Nat) (Z : List Nat) (hk : k ≤ n) (ht : t = .int .i64 (k : Int)) (hv : v = .slice p (passN s b k).length c) (hz : p = none → c = 0) (hb : BIn wr p (passN s b k)) (hZ : Z.length = 32) (hd : wr.heap[gd]? = some (.cells (Bs Z).toArray 23 (0, 0))) (hB : Below w.heap.size w wr)
inductive RPushI (w : World) (bx : List Box) (D : List Nat) (u t : Value) (wr : World) : Prop where
  | intro (k : Nat) (hk : k ≤ 32) (ht : t = .int .i64 (k : Int)) (h : Gw w bx wr u (D.take k))
theorem gw_slice {w wr : World} {bx : List Box} {u : Value} {D : List Nat} (h : Gw w bx wr u D) (hb : ∀ x ∈ D, x < 256) : ∃ p c, u = .slice p D.length c ∧ BIn wr p D ∧ (p = none → c = 0) := by
  obtain ⟨p5, c5, e5, hc5, hi5, hn5⟩ := owns_bin h.own hb
  subst e5
  refine ⟨p5, c5, rfl, hi5, fun e => ?_⟩
  rcases h.own.2 with ⟨hv, _⟩ | ⟨g, cap, cur, hv, _⟩
  · simp only [Value.slice.injEq] at hv; omega
  · simp only [Value.slice.injEq] at hv; rw [e] at hv; exact absurd hv.1 (by simp)
set_option maxHeartbeats 2000000 in
set_option maxRecDepth 100000 in
theorem rpass_ok (a b : ByteArray) (n : Nat) (w : World) (h1 : a.size ≤ 16384) (h2 : b.size ≤ 16384) (hn1 : 1 ≤ n) (hn2 : n ≤ 64) :
    Calls Tryd.prog 17 #[.string a, .string b, .int .i64 (n : Int)] w fun e w' => e = .returned (.tuple #[.string (strOf (hexN (passN (numsOf a) (numsOf b) n))), .int .i64 0]) ∧ Below w.heap.size w w' := by
  have hI : ¬ ((16384 : Int) < (a.size : Int)) := by omega
  have hJ : ¬ ((16384 : Int) < (b.size : Int)) := by omega
  have hT1 : ¬ ((n : Int) < 1) := by omega
  have hT2 : ¬ ((64 : Int) < (n : Int)) := by omega
  obtain ⟨c2, w2, r2, hc2, i2, B2⟩ := conv_str b w
  have hla := numsOf_len a
  have hlb := numsOf_len b
  have hbb := numsOf_lt b
  have N3 : (w2.alloc (.cells (Bs (List.replicate 32 0)).toArray 23)).heap[w2.heap.size]? = some (.cells (Bs (List.replicate 32 0)).toArray 23 (0, 0)) := _root_.Go.heap_alloc_new _ _
  have B3 : Below w.heap.size w (w2.alloc (.cells (Bs (List.replicate 32 0)).toArray 23)) := B2.alloc B2.size _
  have i3 : BIn (w2.alloc (.cells (Bs (List.replicate 32 0)).toArray 23)) (some ⟨w.heap.size, 0, none⟩) (numsOf b) := i2.alloc _
  have hs2 := B2.size
  go_enter Tryd.func17, Tryd.ntmps17
  go_upto_region 7 with fail
  change Code.wp _ _ _ _ (w2.alloc (.cells (Bs (List.replicate 32 0)).toArray 23))
  generalize w2.heap.size = gd at N3 hs2 ⊢
  generalize w2.alloc (.cells (Bs (List.replicate 32 0)).toArray 23) = W3 at N3 B3 i3 ⊢
  clear r2 i2 B2
  go_wp2
  go_loopw [8, 10] (fun v t wr => RPassI w gd (numsOf a) (numsOf b) n v t wr) (fun _ t _ => n - (intOf t).toNat)
  case atStart => exact ⟨0, _, c2, _, by omega, rfl, by show _ = Value.slice _ (numsOf b).length c2; rw [hlb], (fun h => by cases h), i3, List.length_replicate, N3, B3⟩
  case round =>
    clear N3 B3 i3
    obtain ⟨k, p, c, Z, hkn, rfl, rfl, hz, hb, hZ, hd, hB⟩ := hrel
    by_cases hlt : k < n
    · have hsz := passN_size (s := numsOf a) (b := numsOf b) (by omega) k
      obtain ⟨c1, w1, r1, hc1, i1, B1⟩ := conv_str a wr
      have SE := rsealed_any (some ⟨wr.heap.size, 0, none⟩) p c1 c (numsOf a) (passN (numsOf a) (numsOf b) k) w1 i1 (fun h => by cases h) (hb.below B1) hz (by omega) (by omega)
      rw [← passN_more, hla] at SE
      have hSl := passN_len (numsOf a) (numsOf b) k
      have hSb := passN_byte (s := numsOf a) hbb (k + 1)
      obtain ⟨D, hD⟩ : ∃ D, passN (numsOf a) (numsOf b) (k + 1) = D := ⟨_, rfl⟩
      rw [hD] at SE hSl hSb
      have HD : Hid _ := hD
      have hDs : (Tryd.prog.info? 23).map (·.size) = some (Bs D).toArray.size := by rw [size_dig]; simp [Bs, hSl]
      have hkI : (k : Int) < (n : Int) := by omega
      have Hb : Hid _ := hb
      have d1 := (B1.block _ (rw_lt hd)).trans hd
      have Bw1 := below_more hB B1
      clear hD hb hd
      go_wp2_with fail
      refine SE.mono ?_
      rintro e w3 ⟨rfl, hb3⟩
      have d3 := (hb3.block _ (rw_lt d1)).trans d1
      have Bw3 := below_more Bw1 hb3
      have hlt3 := rw_lt d3
      simp only []
      go_step
      refine wpList_store_row rfl 23 (.tmp 9) (.tmp 36) rfl gd (Bs D).toArray (by rfl) (by rfl) 23 _ d3 hDs (by simp [Bs, hSl, hZ]) (one_cell_bs _) ?_
      have d4 := setRow_heap w3 gd _ (Bs D).toArray _ _ d3
      have Bw4 : Below w.heap.size w (w3.setRow gd (Bs D).toArray) := below_setRow Bw3 hs2
      generalize w3.setRow gd (Bs D).toArray = W4 at d4 Bw4 ⊢
      have G0 : Gw W4 [(gd, (Bs D).toArray, 23)] W4 (.slice none 0 0) [] := ⟨World.ownsRow_nil _ _ _ _, Below.refl _ _, fun b hb => by
        simp only [List.mem_cons, List.not_mem_nil, or_false] at hb
        subst hb
        exact ⟨d4, by simp [Value.ownBlock]⟩⟩
      clear hb3 SE d3 d1 r1 d4 Bw3 Bw1 i1 B1 hlt3
      go_wp2
      go_loopw [8, 11] (fun u t wr => RPushI W4 [(gd, (Bs D).toArray, 23)] D u t wr) (fun _ t _ => 32 - (intOf t).toNat)
      case atStart => exact ⟨0, by omega, rfl, by rw [List.take_zero]; exact G0⟩
      case round =>
        clear G0
        rename World => w8
        obtain ⟨j, hj, rfl, G⟩ := hrel
        by_cases hlt2 : j < 32
        · have hc := cell_bs (G.box _ List.mem_cons_self).1 (show j < D.length by omega)
          have hx := getD_lt hSb j
          have hjI : (j : Int) < 32 := by omega
          have l1 : (D.take j).length = j := by rw [List.length_take]; omega
          have e1 : Hid (D.take j ++ [D.getD j 0] = D.take (j + 1)) := take_push (by omega)
          generalize D.take j = CK at G l1 e1
          generalize D.getD j 0 = x at hc hx e1
          have G1 := G.call (w1 := w8.alloc (.cells #[.int .u8 (x : Int)] 5)) ((Below.refl _ _).alloc (Nat.le_refl _) _)
          have sz := G1.size
          go_wp2_with (at_builtin; refine wpList_append_bytesX _ rfl _ _ rfl W4.heap.size _ CK [x] (some ⟨w8.heap.size, 0, none⟩) 1 1 rfl rfl rfl G1.own (bin_one _ _ _ rfl hx) (fun h => by cases h) (by rw [l1]; simp; omega) sz ?_)
          intro v3 w9 ho3 hg3 hw3
          have G3 := (G1.app (by rw [List.length_append, l1]; exact ho3) hg3 (by simpa using hw3)).eq e1.out
          clear ho3 hg3 hw3 G1 G hc
          go_wp2
          go_roundw
          case rel => exact ⟨j + 1, by omega, rfl, G3⟩
          case measure => simp [intOf]; omega
        · obtain rfl : j = 32 := by omega
          rw [show ((32 : Nat) : Int) = 32 from rfl]
          rw [List.take_of_length_le (by omega)] at G
          obtain ⟨p9, c9, e9, hi9, hp9⟩ := gw_slice G hSb
          subst e9
          have d9 := (G.box _ List.mem_cons_self).1
          have B9 := below_more Bw4 G.bel
          clear G Bw4
          rw [hSl]
          go_wp2
          go_roundw
          case rel => exact ⟨k + 1, p9, c9, D, by omega, rfl, by rw [HD.out, hSl], hp9, by rw [HD.out]; exact hi9, hSl, d9, B9⟩
          case measure => simp [intOf]; omega
    · obtain rfl : k = n := by omega
      have HX := rhex_any p c (passN (numsOf a) (numsOf b) k) wr hb (Nat.le_trans (passN_size (by omega) k) (by decide))
      have Hb : Hid _ := hb
      clear hb
      obtain ⟨D, hD⟩ : ∃ D, passN (numsOf a) (numsOf b) k = D := ⟨_, rfl⟩
      have HD : Hid _ := hD
      rw [hD] at HX ⊢
      clear hD
      go_wp2_with (go_at_call 40; refine HX.mono ?_; rintro e w3 ⟨rfl, hb3⟩)
      go_ret2
      rw [HD.out]
      exact ⟨rfl, below_more hB hb3⟩
end Go.Proofs.YtoagaddciapmkaaDoor
