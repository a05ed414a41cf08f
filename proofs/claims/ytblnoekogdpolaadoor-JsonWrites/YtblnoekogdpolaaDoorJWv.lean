import Derived.Test.YtblnoekogdpolaaDoorJWi
import Derived.Test.YtblnoekogdpolaaDoorJCkS
import Derived.Test.YtblnoekogdpolaaDoorJCon
import Derived.Lib.AppendIntMem
namespace Go.Proofs.YtblnoekogdpolaaDoor
open Go.RowKit Go.WideShapes Go.Joins
inductive Fit : JB → Prop where
  | mk (k : Nat) (b : Bool) (n : Int) (t : ByteArray) (ns : List ByteArray) (vs : List JB) (hk : k ≤ 6) (hn : J.Rng n) (ht : t.size ≤ 16384) (hs : ∀ s ∈ ns, s.size ≤ 16384) (hl : k = 6 → ns.length = vs.length) (hv : ∀ v ∈ vs, Fit v) : Fit (.mk k b n t ns vs)
theorem nums_arr (l : List UInt8) : numsOf ⟨l.toArray⟩ = l.map UInt8.toNat := rfl
theorem dec_nat (n : Nat) : (Lib.decDigits n).map UInt8.toNat = J.natT n := by
  induction n using Nat.strongRecOn with
  | _ n ih =>
    rw [Lib.decDigits]
    unfold J.natT
    split
    · simp; omega
    · rw [List.map_append, ih (n / 10) (by omega)]
      simp; omega
theorem itoa_nums (n : Int) : numsOf ⟨(Lib.itoa n).toArray⟩ = J.intT n := by
  rw [nums_arr]
  unfold Lib.itoa J.intT
  split
  · rw [List.map_cons, dec_nat]; rfl
  · rw [dec_nat, show n.toNat = n.natAbs by omega]
theorem natT_short : ∀ (k n : Nat), n < 10 ^ (k + 1) → (J.natT n).length ≤ k + 1
  | 0, n, h => by
    unfold J.natT
    rw [dif_pos (by omega)]; simp
  | k + 1, n, h => by
    unfold J.natT
    split
    · simp
    · rw [List.length_append]
      have := natT_short k (n / 10) (by rw [Nat.pow_succ] at h; omega)
      simp; omega
theorem intT_short {n : Int} (h : J.Rng n) : (J.intT n).length ≤ 21 := by
  unfold J.Rng at h
  have : (J.natT n.natAbs).length ≤ 20 := natT_short 19 _ (by omega)
  unfold J.intT
  split
  · simp; omega
  · omega
theorem itoa_size {n : Int} (h : J.Rng n) : (⟨(Lib.itoa n).toArray⟩ : ByteArray).size ≤ 21 := by
  rw [← numsOf_len, itoa_nums]; exact intT_short h
theorem bool_nums (b : Bool) : numsOf ⟨(Lib.formatBool b).toArray⟩ = if b then [116, 114, 117, 101] else [102, 97, 108, 115, 101] := by cases b <;> rfl
theorem valW_str {NB : Nat} {xs W : List Nat} {M : Nat} {w w1 w2 : World} {s : ByteArray} (hK : WK NB w w1) (hw : Wr w2 NB (xs ++ numsOf s)) (hk : WK NB w1 w2) (hs : numsOf s = W) (hl : xs.length + s.size ≤ M) : ValW NB xs W M w (.returned (.tuple #[])) w2 :=
  ⟨numsOf s, rfl, hw, hK.trans hk, .inl hs, by rw [List.length_append, numsOf_len]; exact hl, numsOf_lt s⟩
set_option maxHeartbeats 4000000 in
set_option maxRecDepth 8000 in
theorem valueW_walk (m : Nat) (hm : m ≤ 60) (A : Array Value) (v : JB) (hv : Fit v) (w : World) (NB : Nat) (xs : List Nat) (h8 : 8 ≤ NB) (hL : Laid w) (hW : Wr w NB xs) (hxl : xs.length ≤ 114800) (h : JIn w (fun b => b < NB) A v)
    (hcall : ∀ (i : Nat) (x : JB) (F : Array Value), v.items[i]? = some x → ∀ w' xs', Below NB w w' → Wr w' NB xs' → xs'.length ≤ 114800 → JIn w' (fun b => b < NB) F x → Calls Tryd.prog 33 #[rp NB, .agg F] w' fun e w'' => ValW NB xs' (J.written x.toJ) (213200 + m) w' e w'') :
    Calls Tryd.prog 33 #[rp NB, .agg A] w fun e w' => ValW NB xs (J.written v.toJ) (213201 + m) w e w' := by
  cases h with
  | mk k b n t ns vs nq iq nc ic F hk hn hnc hic hnm him hnq hiq hN hI hR =>
  cases hv with
  | mk _ _ _ _ _ _ hk6 _ ht hs hl hv =>
  have b1 := below_new w (.cells (jA k b n t nq ns.length nc iq vs.length ic) 25)
  have n1 := _root_.Go.heap_alloc_new w (.cells (jA k b n t nq ns.length nc iq vs.length ic) 25)
  have hNB := hW.lt
  have W1 := wr_below hW b1
  have K1 : WK NB w (w.alloc (.cells (jA k b n t nq ns.length nc iq vs.length ic) 25)) := WK.of_below b1 (Nat.le_of_lt hNB)
  have L1 := hL.below b1 (by omega)
  obtain ⟨⟨c0, c1, c2, c3, c4, c5⟩, f0, f1, f2, f3, f4, f5⟩ := row6_cells n1
  have HWr : J.written (JB.mk k b n t ns vs).toJ = J.written (.mk k b n (numsOf t) (ns.map numsOf) (toJs vs)) := rfl
  rw [HWr]
  have HH : Hid (xs.length ≤ 114800 ∧ m ≤ 60 ∧ Wr w NB xs ∧ NB < w.heap.size ∧ J.Rng n ∧ t.size ≤ 16384 ∧ Laid (w.alloc (.cells (jA k b n t nq ns.length nc iq vs.length ic) 25)) ∧ (k = 6 → ns.length = vs.length)) := ⟨hxl, hm, hW, hNB, hn, ht, L1, hl⟩
  have HX : Hid (Wr (w.alloc (.cells (jA k b n t nq ns.length nc iq vs.length ic) 25)) NB xs ∧ WK NB w (w.alloc (.cells (jA k b n t nq ns.length nc iq vs.length ic) 25)) ∧ (w.alloc (.cells (jA k b n t nq ns.length nc iq vs.length ic) 25)).heap[w.heap.size]? = some (.cells (jA k b n t nq ns.length nc iq vs.length ic) 25 (0, 0))) := ⟨W1, K1, n1⟩
  have HIT : Hid (∀ w' us, WK NB (w.alloc (.cells (jA k b n t nq ns.length nc iq vs.length ic) 25)) w' → Wr w' NB us → us.length ≤ 114801 → Calls Tryd.prog 68 #[rp NB, .agg (jA k b n t nq ns.length nc iq vs.length ic)] w' fun e w'' => ValW NB us (J.itemsT (decide (k = 6)) (ns.map numsOf) (toJs vs)) (213200 + m) w' e w'') := by
    intro w' us hk' hw' hu
    have hb := (K1.trans hk').below
    have hZ : ∀ a v, a.block < NB → w.cell? a = some v → w'.cell? a = some v ∧ a.block < NB := fun a v z hc => ⟨(hb.cell z).trans hc, z⟩
    refine itemsW_walk k b n t ns vs nq iq nc ic F (213200 + m) NB us w' hw' hu (by omega) (by omega) (Nat.le_trans hic him) hs hl (hN.mono hZ) (hI.mono (fun i hi => (hR i _ (List.getElem?_eq_getElem hi)).size) hZ) (fun i x hx => (hR i x hx).kept' hb) ?_
    intro i x hx w3 xs3 hb3 hw3 hx3
    exact hcall i x (F i) hx w3 xs3 (hb.trans hb3) hw3 hx3 ((hR i x hx).kept' (hb.trans hb3))
  clear b1 n1 hNB W1 K1 L1 hL hW hxl hN hI hR hcall hnc hic hnm him hnq hiq hs hv hl HWr hn ht
  unfold jA at c0 c1 c2 c3 c4 c5 f0 f1 f2 f3 f4 f5 HX HIT HH
  unfold rp jA
  by_cases e0 : k = 0
  · subst e0
    simp only [show (((0 : Nat) : Int)) = 0 from rfl] at HX HIT HH c0 f0 ⊢
    have A := strW_any _ NB ⟨#[110, 117, 108, 108]⟩ xs HX.out.1 (by have := HH.out.1; omega) (by decide)
    unfold rp at A
    clear HIT hk hk6
    go_enter Tryd.func33, Tryd.ntmps33
    go_wp2_with (first | (go_at_call 63; refine A.mono ?_; rintro e w2 ⟨rfl, h2, k2⟩) | fail)
    go_end0
    exact valW_str HX.out.2.1 h2 k2 rfl (by have := HH.out.1; show xs.length + 4 ≤ _; omega)
  by_cases e1 : k = 1
  · subst e1
    simp only [show (((1 : Nat) : Int)) = 1 from rfl] at HX HIT HH c0 f0 ⊢
    have FB := fun w' => Any.strconv_FormatBool lays121 b w'
    have hsz : (⟨(Lib.formatBool b).toArray⟩ : ByteArray).size ≤ 5 := by cases b <;> decide
    have hnm : numsOf ⟨(Lib.formatBool b).toArray⟩ = J.written (.mk 1 b n (numsOf t) (ns.map numsOf) (toJs vs)) := by rw [bool_nums]; rfl
    have A := fun w' (h : Wr w' NB xs) => strW_any w' NB ⟨(Lib.formatBool b).toArray⟩ xs h (by have := HH.out.1; omega) (by omega)
    have HQ : Hid ((⟨(Lib.formatBool b).toArray⟩ : ByteArray).size ≤ 5 ∧ numsOf ⟨(Lib.formatBool b).toArray⟩ = J.written (.mk 1 b n (numsOf t) (ns.map numsOf) (toJs vs))) := ⟨hsz, hnm⟩
    generalize (⟨(Lib.formatBool b).toArray⟩ : ByteArray) = S at FB A HQ
    unfold rp at A
    clear HIT hk hk6 hsz hnm
    go_enter Tryd.func33, Tryd.ntmps33
    go_wp2_with fail
    go_region_with (first | (go_at_call 64; refine (FB _).mono ?_; rintro e w9 ⟨rfl, hw9⟩; rw [hw9]; clear hw9) | (go_at_call 63; refine (A _ (wr_below HX.out.1 (Below.refl _ _).drew)).mono ?_; rintro e w2 ⟨rfl, h2, k2⟩))
    all_goals (go_wp2; go_end0; exact valW_str HX.out.2.1.drew h2 k2 HQ.out.2 (by have := HH.out.1; have := HQ.out.1; omega))
  by_cases e2 : k = 2
  · subst e2
    simp only [show (((2 : Nat) : Int)) = 2 from rfl] at HX HIT HH c0 f0 ⊢
    have hrn := HH.out.2.2.2.2.1
    have FI := fun w' (hl : Laid w') => (Any.strconv_FormatInt_10 lays173 n (by unfold J.Rng at hrn; omega) (by unfold J.Rng at hrn; omega) w' hl.pow).mono (R' := fun e w'' => e = .returned (.string ⟨(Lib.itoa n).toArray⟩) ∧ Below w'.heap.size w' w'') (by
      rintro e w'' ⟨rfl, p, os, rfl⟩
      exact ⟨rfl, Lib.below_grow _ w' (Nat.le_refl _) p os⟩)
    have HQ : Hid ((⟨(Lib.itoa n).toArray⟩ : ByteArray).size ≤ 21 ∧ numsOf ⟨(Lib.itoa n).toArray⟩ = J.written (.mk 2 b n (numsOf t) (ns.map numsOf) (toJs vs))) := ⟨itoa_size hrn, itoa_nums n⟩
    have A := fun w' (h : Wr w' NB xs) => strW_any w' NB ⟨(Lib.itoa n).toArray⟩ xs h (by have := HH.out.1; omega) (by have := HQ.out.1; omega)
    generalize (⟨(Lib.itoa n).toArray⟩ : ByteArray) = S at FI A HQ
    obtain ⟨⟨y0, y1, y2, y3, y4, y5⟩, _, _, _, _, _, _⟩ := row6_cells HX.out.2.2
    unfold rp at A
    clear HIT hk hk6 hrn
    have HLd : Hid (∀ w', Below (w.alloc (.cells #[.int .u8 2, .bool b, .int .i64 n, .string t, .slice nq ns.length nc, .slice iq vs.length ic] 25)).heap.size (w.alloc (.cells #[.int .u8 2, .bool b, .int .i64 n, .string t, .slice nq ns.length nc, .slice iq vs.length ic] 25)) w' → Laid w' ∧ Wr w' NB xs ∧ WK NB w w') := fun w' hb =>
      ⟨HH.out.2.2.2.2.2.2.1.below hb (by have := HH.out.2.2.2.1; simp; omega), wr_below HX.out.1 hb, HX.out.2.1.trans (WK.of_below hb (by have := HH.out.2.2.2.1; simp; omega))⟩
    go_enter Tryd.func33, Tryd.ntmps33
    go_wp2_with fail
    go_region_with (first | (go_at_call 65; refine (FI _ (HLd.out _ (Below.refl _ _).drew).1).mono ?_; rintro e w9 ⟨rfl, B9⟩) | (go_at_call 63; refine (A _ (HLd.out _ (below_more (Below.refl _ _).drew B9)).2.1).mono ?_; rintro e w2 ⟨rfl, h2, k2⟩))
    all_goals (go_wp2; go_end0; exact valW_str (HLd.out _ (below_more (Below.refl _ _).drew B9)).2.2 h2 k2 HQ.out.2 (by have := HH.out.1; have := HQ.out.1; omega))
  by_cases e3 : k = 3
  · subst e3
    simp only [show (((3 : Nat) : Int)) = 3 from rfl] at HX HIT HH c0 f0 ⊢
    have A := fun w' (h : Wr w' NB xs) => strW_any w' NB t xs h (by have := HH.out.1; omega) (by have := HH.out.2.2.2.2.2.1; omega)
    unfold rp at A
    clear HIT hk hk6
    go_enter Tryd.func33, Tryd.ntmps33
    go_wp2_with fail
    go_region_with (go_at_call 63; refine (A _ (wr_below HX.out.1 (Below.refl _ _).drew)).mono ?_; rintro e w2 ⟨rfl, h2, k2⟩)
    all_goals (go_wp2; go_end0; exact valW_str HX.out.2.1.drew h2 k2 rfl (by have := HH.out.1; have := HH.out.2.2.2.2.2.1; omega))
  by_cases e4 : k = 4
  · subst e4
    simp only [show (((4 : Nat) : Int)) = 4 from rfl] at HX HIT HH c0 f0 ⊢
    have A := quoteW_any _ NB t HH.out.2.2.2.2.2.1 xs HX.out.1 (by have := HH.out.1; omega)
    unfold rp at A
    clear HIT hk hk6
    go_enter Tryd.func33, Tryd.ntmps33
    go_wp2_with (first | (go_at_call 66; refine A.mono ?_; rintro e w2 ⟨rfl, h2, k2⟩) | fail)
    go_end0
    exact ⟨_, rfl, h2, HX.out.2.1.trans k2, .inl rfl, by have := HH.out.1; have := quoted_len t HH.out.2.2.2.2.2.1; rw [List.length_append]; omega, quoted_bytes t⟩
  by_cases e5 : k = 5
  · subst e5
    simp only [show (((5 : Nat) : Int)) = 5 from rfl] at HX HIT HH c0 f0 ⊢
    have A := byteW_any _ NB 91 xs HX.out.1 (by have := HH.out.1; omega)
    have IT := fun w' us hk h hl => HIT.out w' us hk h hl
    have CB := fun (w' : World) (us : List Nat) (h : Wr w' NB us) (hl : us.length ≤ 1000000) => byteW_any w' NB 93 us h hl
    rw [show (((91 : Nat) : Int)) = 91 from rfl] at A
    simp only [show (((93 : Nat) : Int)) = 93 from rfl] at CB
    rw [show decide (5 = 6) = false from rfl] at IT
    unfold rp at A IT CB
    have HKx : Hid (∀ w', WK NB (w.alloc (.cells #[.int .u8 5, .bool b, .int .i64 n, .string t, .slice nq ns.length nc, .slice iq vs.length ic] 25)) w' → w'.heap[w.heap.size]? = some (.cells #[.int .u8 5, .bool b, .int .i64 n, .string t, .slice nq ns.length nc, .slice iq vs.length ic] 25 (0, 0))) := fun w' hk => hk.box HX.out.2.2 (by have := HH.out.2.2.2.1; omega) (by decide)
    have hfin : ∀ ys, Done (xs ++ [91]) ys (J.itemsT false (ns.map numsOf) (toJs vs)) → Done xs ([91] ++ (ys ++ [93])) (J.written (.mk 5 b n (numsOf t) (ns.map numsOf) (toJs vs))) := fun ys hd => by
      have : J.written (.mk 5 b n (numsOf t) (ns.map numsOf) (toJs vs)) = [91] ++ (J.itemsT false (ns.map numsOf) (toJs vs) ++ [93]) := rfl
      rw [this]
      refine Done.app (Done.refl _ _) ?_
      exact Done.app hd (Done.refl _ _)
    have HF : Hid _ := hfin
    clear HIT hk hk6 hfin
    go_enter Tryd.func33, Tryd.ntmps33
    go_wp2_with (first | (go_at_call 68; refine (IT _ _ k1 h1 (by rw [List.length_append]; have := HH.out.1; simp; omega)).mono ?_; rintro e w2 ⟨ys, rfl, h2, k2, d2, l2, y2⟩) | (go_at_call 67; refine (CB _ _ h2 (by have := HH.out.2.1; omega)).mono ?_; rintro e w3 ⟨rfl, h3, k3⟩) | (go_at_call 67; refine A.mono ?_; rintro e w1 ⟨rfl, h1, k1⟩; obtain ⟨⟨y0, y1, y2, y3, y4, y5⟩, _, _, _, _, _, _⟩ := row6_cells (HKx.out _ k1)) | fail)
    go_end0
    refine ⟨[91] ++ (ys ++ [93]), rfl, by simpa [List.append_assoc] using h3, (HX.out.2.1.trans k1).trans (k2.trans k3), HF.out ys d2, ?_, ?_⟩
    · have : (xs ++ [91] ++ ys).length ≤ 213200 + m := l2
      simp only [List.length_append, List.length_cons, List.length_nil] at this ⊢
      omega
    · intro c hc
      simp at hc
      rcases hc with rfl | hc | rfl
      · decide
      · exact y2 c hc
      · decide
  by_cases e6 : k = 6
  · subst e6
    simp only [show (((6 : Nat) : Int)) = 6 from rfl] at HX HIT HH c0 f0 ⊢
    have A := byteW_any _ NB 123 xs HX.out.1 (by have := HH.out.1; omega)
    have IT := fun w' us hk h hl => HIT.out w' us hk h hl
    have CB := fun (w' : World) (us : List Nat) (h : Wr w' NB us) (hl : us.length ≤ 1000000) => byteW_any w' NB 125 us h hl
    rw [show (((123 : Nat) : Int)) = 123 from rfl] at A
    simp only [show (((125 : Nat) : Int)) = 125 from rfl] at CB
    rw [show decide (True) = true from rfl] at IT
    unfold rp at A IT CB
    have HKx : Hid (∀ w', WK NB (w.alloc (.cells #[.int .u8 6, .bool b, .int .i64 n, .string t, .slice nq ns.length nc, .slice iq vs.length ic] 25)) w' → w'.heap[w.heap.size]? = some (.cells #[.int .u8 6, .bool b, .int .i64 n, .string t, .slice nq ns.length nc, .slice iq vs.length ic] 25 (0, 0))) := fun w' hk => hk.box HX.out.2.2 (by have := HH.out.2.2.2.1; omega) (by decide)
    have hfin : ∀ ys, Done (xs ++ [123]) ys (J.itemsT true (ns.map numsOf) (toJs vs)) → Done xs ([123] ++ (ys ++ [125])) (J.written (.mk 6 b n (numsOf t) (ns.map numsOf) (toJs vs))) := fun ys hd => by
      have : J.written (.mk 6 b n (numsOf t) (ns.map numsOf) (toJs vs)) = [123] ++ (J.itemsT true (ns.map numsOf) (toJs vs) ++ [125]) := rfl
      rw [this]
      refine Done.app (Done.refl _ _) ?_
      exact Done.app hd (Done.refl _ _)
    have HF : Hid _ := hfin
    clear HIT hk hk6 hfin
    go_enter Tryd.func33, Tryd.ntmps33
    go_wp2_with (first | (go_at_call 68; refine (IT _ _ k1 h1 (by rw [List.length_append]; have := HH.out.1; simp; omega)).mono ?_; rintro e w2 ⟨ys, rfl, h2, k2, d2, l2, y2⟩) | (go_at_call 67; refine (CB _ _ h2 (by have := HH.out.2.1; omega)).mono ?_; rintro e w3 ⟨rfl, h3, k3⟩) | (go_at_call 67; refine A.mono ?_; rintro e w1 ⟨rfl, h1, k1⟩; obtain ⟨⟨y0, y1, y2, y3, y4, y5⟩, _, _, _, _, _, _⟩ := row6_cells (HKx.out _ k1)) | fail)
    go_end0
    refine ⟨[123] ++ (ys ++ [125]), rfl, by simpa [List.append_assoc] using h3, (HX.out.2.1.trans k1).trans (k2.trans k3), HF.out ys d2, ?_, ?_⟩
    · have : (xs ++ [123] ++ ys).length ≤ 213200 + m := l2
      simp only [List.length_append, List.length_cons, List.length_nil] at this ⊢
      omega
    · intro c hc
      simp at hc
      rcases hc with rfl | hc | rfl
      · decide
      · exact y2 c hc
      · decide
  omega
theorem valueW_any : ∀ (m : Nat), m ≤ 60 → ∀ (v : JB), v.ht ≤ m + 1 → ∀ (A : Array Value) (w : World) (NB : Nat) (xs : List Nat), 8 ≤ NB → Laid w → Fit v → Wr w NB xs → xs.length ≤ 114800 → JIn w (fun b => b < NB) A v →
    Calls Tryd.prog 33 #[rp NB, .agg A] w fun e w' => ValW NB xs (J.written v.toJ) (213201 + m) w e w' := by
  intro m
  induction m with
  | zero =>
    intro hm v hv A w NB xs h8 hL hf hW hl hJ
    refine valueW_walk 0 (by omega) A v hf w NB xs h8 hL hW hl hJ ?_
    intro i x F hx
    cases v with
    | mk k b n t ns vs =>
      have := ht_at (show vs[i]? = some x from hx)
      simp only [JB.ht] at hv
      cases x with
      | mk => simp only [JB.ht] at this; omega
  | succ m ih =>
    intro hm v hv A w NB xs h8 hL hf hW hl hJ
    refine valueW_walk (m + 1) hm A v hf w NB xs h8 hL hW hl hJ ?_
    intro i x F hx w' xs' hb hW' hl' hJ'
    cases v with
    | mk k b n t ns vs =>
      cases hf with
      | mk _ _ _ _ _ _ _ _ _ _ _ hfv =>
        have hx' : vs[i]? = some x := hx
        have := ht_at hx'
        simp only [JB.ht] at hv
        have R := ih (by omega) x (by omega) F w' NB xs' h8 (hL.below hb h8) (hfv x (List.mem_of_getElem? hx')) hW' hl' hJ'
        rw [show 213200 + (m + 1) = 213201 + m by omega]
        exact R
end Go.Proofs.YtblnoekogdpolaaDoor
