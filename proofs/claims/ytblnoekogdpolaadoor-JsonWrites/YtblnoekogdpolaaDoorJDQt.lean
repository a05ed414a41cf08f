import Derived.Test.YtblnoekogdpolaaDoorJDFo
import Derived.Test.YtblnoekogdpolaaDoorJWi
import Derived.Deep.RegionHeld3
namespace Go.Proofs.YtblnoekogdpolaaDoor
open Go.RowKit Go.WideShapes Go.Joins
theorem u8_of_own {w w' : World} {B : Nat} {v : Value} {xs : List Nat} (h : w'.ownsRow B 5 1 v xs.length (Bs xs)) (hx : ∀ x ∈ xs, x < 256) (hb : Below w.heap.size w w') : U8P xs w (.returned v) w' := by
  rcases h.2 with ⟨rfl, h0⟩ | ⟨g, cap, cur, rfl, hB, hg, hn, _, _, ht⟩
  · exact ⟨none, 0, 0, rfl, by omega, ⟨fun hp => by omega, hx⟩, fun _ => rfl, hb⟩
  · refine ⟨some ⟨g, 0, none⟩, _, cap, rfl, rfl, ⟨fun _ => ⟨g, 0, rfl, fun i hi => ?_⟩, hx⟩, (fun h => by cases h), hb⟩
    rw [Nat.zero_add, cell_of_block hg]
    have e1 : cur[i]? = (cur.toList.take (xs.length * 1))[i]? := by rw [List.getElem?_take_of_lt (by omega), Array.getElem?_toList]
    rw [e1, ht]
    simp [Bs, List.getD, List.getElem?_eq_getElem hi]
theorem below_own {w wr w6 : World} {B : Nat} {v : Value} {n : Nat} {xs : List Value} (hb : Below w.heap.size w wr) (o : Obj) (ho : wr.ownsRow B 5 1 v n xs) (hB : w.heap.size ≤ B) (hg : (wr.alloc o).grownBy w6 v.ownBlock) : Below w.heap.size w w6 := by
  have hs := hb.size
  exact (hb.alloc hs o).grown hg (by simp; omega) (fun k hk => Nat.le_trans hB (ho.lt k hk).1)
theorem below_ownd {w wr w6 : World} {B : Nat} {v : Value} {n : Nat} {xs : List Value} (hb : Below w.heap.size w wr) (o : Obj) (ho : wr.ownsRow B 5 1 v n xs) (hB : w.heap.size ≤ B) (hg : (wr.drew.alloc o).grownBy w6 v.ownBlock) : Below w.heap.size w w6 := by
  have hs := hb.size
  exact (hb.drew.alloc (by simpa using hs) o).grown hg (by simp; omega) (fun k hk => Nat.le_trans hB (ho.lt k hk).1)
theorem step_append_b {ops : Array Oper} {o : Oper} {a : Act} {w : World} {K : Act → World → Prop} {Q : Exit → Act → World → Prop} {E : Prop} (hgd : o.guard = none) (s x : Operand)
    (ho : o.op = .call { callee := .builtin .append, args := #[s, x], argTypes := #[62, 62] }) (base : Nat) (v : Value) (xs ys : List Nat) (p : Option Addr) (m c : Nat) (hs : a.eval s = v) (hx : a.eval x = .slice p m c) (hm : m = ys.length)
    (hown : w.ownsRow base 5 1 v xs.length (Bs xs)) (hin : BIn w p ys) (hp : p = none → c = 0) (hlen : xs.length + ys.length ≤ 140737488355328) (hbase : base ≤ w.heap.size)
    (h : ∀ v' w', w'.ownsRow base 5 1 v' (xs ++ ys).length (Bs (xs ++ ys)) → w.grownBy w' v.ownBlock → K (a.put o.dst v') w') : if Region.wanted o (yielded ops a.tmps) = true then Oper.wp Tryd.prog o a w K Q else E := by
  subst hm
  have hw : Region.wanted o (yielded ops a.tmps) = true := by simp [Region.wanted, hgd]
  rw [if_pos hw]
  obtain ⟨i0, hi, hz0, hz1, hz2⟩ := info_parts info5j
  obtain ⟨v', w', hr, h2, h3⟩ := run_append_row (P := Tryd.prog) (w := w) Tryd.underlying62 hi hz0 hz1 hz2 base o.type v xs ys p c hown hin hp hlen hbase
  unfold Oper.wp execOp
  simp only [ho, resolve, invoke, builtin, Sem.run_bind, Sem.run_pure, Result.andThen_ok, List.map_toArray, List.map_cons, List.map_nil, hs, hx, hr]
  exact h v' w' h2 h3
theorem bin_nums {w : World} {ys : List Nat} {cs : Array Value} (hcs : (Bs ys).toArray = cs) (h : ∀ c ∈ ys, c < 256) : BIn (w.alloc (.cells cs 5)) (some ⟨w.heap.size, 0, none⟩) ys := by
  rw [← hcs]
  exact u8_laid h
inductive QtI (s : ByteArray) (w : World) (v t : Value) (wr : World) : Prop where
  | intro (k : Nat) (hk : k ≤ s.size) (ht : t = .int .i64 (k : Int)) (ho : wr.ownsRow w.heap.size 5 1 v (34 :: J.qbody ((numsOf s).take k)).length (Bs (34 :: J.qbody ((numsOf s).take k)))) (hb : Below w.heap.size w wr)
theorem qt_take (s : ByteArray) (k : Nat) (h : k < s.size) : 34 :: J.qbody ((numsOf s).take (k + 1)) = (34 :: J.qbody ((numsOf s).take k)) ++ J.esc ((numsOf s).getD k 0) := by
  have h2 : k < (numsOf s).length := by rw [numsOf_len]; exact h
  rw [List.take_add_one, qbody_app, List.getD_eq_getElem?_getD, List.getElem?_eq_getElem h2]
  simp [J.qbody]
theorem qt_len (s : ByteArray) (hs : s.size ≤ 16384) (k : Nat) : (34 :: J.qbody ((numsOf s).take k)).length ≤ 98305 := by
  have := qbody_six ((numsOf s).take k)
  have h2 : ((numsOf s).take k).length ≤ 16384 := by rw [List.length_take, numsOf_len]; omega
  rw [List.length_cons]
  omega
theorem qt_bytes (s : ByteArray) (k : Nat) : ∀ x ∈ (34 :: J.qbody ((numsOf s).take k)), x < 256 := by
  intro x hx
  unfold J.qbody at hx
  simp only [List.mem_cons, List.mem_flatMap] at hx
  rcases hx with rfl | ⟨c, hc, hx⟩
  · decide
  · exact esc_bytes (numsOf_lt s c (List.mem_of_mem_take hc)) x hx
set_option maxHeartbeats 4000000 in
set_option maxRecDepth 100000 in
theorem dquoted_any (s : ByteArray) (hs : s.size ≤ 16384) (w : World) : Calls Tryd.prog 76 #[.string s] w fun e w' => U8P (J.quoted (numsOf s)) w e w' := by
  have H0 : Hid ((w.alloc (.cells #[.int .u8 34] 5)).ownsRow w.heap.size 5 1 (.slice (some ⟨w.heap.size, 0, none⟩) 1 1) [34].length (Bs [34])) := by
    have := World.ownsRow_lit (e := 5) (size := 1) (base := w.heap.size) w #[.int .u8 34] 1 (Nat.le_refl _) (by decide) rfl
    exact this
  have HB0 : Hid (Below w.heap.size w (w.alloc (.cells #[.int .u8 34] 5))) := below_new _ _
  have HS : Hid (s.size ≤ 16384) := hs
  have hmx : (s.size : Int) ≤ 16384 := by omega
  clear hs
  go_enter Tryd.func76, Tryd.ntmps76
  go_wp2_with fail
  go_loopw [3, 4] (fun v t wr => QtI s w v t wr) (fun _ t _ => s.size - (intOf t).toNat)
  case atStart => exact ⟨0, Nat.zero_le _, rfl, by rw [List.take_zero]; exact H0.out, HB0.out⟩
  case round =>
    obtain ⟨k, hk, rfl, hown, hb⟩ := hrel
    have hlen := qt_len s HS.out k
    have hsz := hb.size
    by_cases hlt : k < s.size
    · have hkI : (k : Int) < (s.size : Int) := by omega
      have hk0 : (0 : Int) ≤ (k : Int) := by omega
      have hx := fun w' => str_at s k hlt w'
      have HT : Hid _ := qt_take s k hlt
      have hc : (numsOf s).getD k 0 < 256 := nums_byte' s k hlt
      have HK : Hid (k < s.size) := hlt
      generalize (numsOf s).getD k 0 = c at hx HT hc
      generalize 34 :: J.qbody ((numsOf s).take k) = xs at hown HT hlen
      have HO : Hid (wr.ownsRow w.heap.size 5 1 u3 xs.length (Bs xs) ∧ Below w.heap.size w wr ∧ xs.length ≤ 98305 ∧ w.heap.size ≤ wr.heap.size) := ⟨hown, hb, hlen, hsz⟩
      clear hown hb hlen hsz hk hlt
      by_cases e34 : c = 34
      · subst e34
        simp only [show (((34 : Nat) : Int)) = 34 from rfl] at hx
        have HN : Hid (BIn (wr.alloc (.cells #[.int .u8 92, .int .u8 34] 5)) (some ⟨wr.heap.size, 0, none⟩) [92, 34]) := bin_nums (ys := [92, 34]) rfl (by decide)
        clear hc
        go_wp2_with (at_builtin; refine wpList_append_bytesj _ rfl _ _ rfl w.heap.size u3 xs [92, 34] (some ⟨wr.heap.size, 0, none⟩) 2 2 rfl rfl rfl (HO.out.1.alloc _) HN.out (fun h => by cases h) (by have := HO.out; simp; omega) (by have := HO.out; simp; omega) ?_; intro v6 w6 hown6 hg6)
        have HF : Hid (w6.ownsRow w.heap.size 5 1 v6 (xs ++ [92, 34]).length (Bs (xs ++ [92, 34])) ∧ Below w.heap.size w w6) := ⟨hown6, below_own HO.out.2.1 _ HO.out.1 (Nat.le_refl _) hg6⟩
        clear hown6 hg6 HN
        go_wp2_with fail
        go_roundw
        case rel => exact ⟨k + 1, by have := HK.out; omega, by go_num, by rw [HT.out]; exact HF.out.1, HF.out.2⟩
        case measure => have := HK.out; simp [intOf]; omega
      by_cases e92 : c = 92
      · subst e92
        simp only [show (((92 : Nat) : Int)) = 92 from rfl] at hx
        have HN : Hid (BIn (wr.alloc (.cells #[.int .u8 92, .int .u8 92] 5)) (some ⟨wr.heap.size, 0, none⟩) [92, 92]) := bin_nums (ys := [92, 92]) rfl (by decide)
        clear hc
        go_wp2_with (at_builtin; refine wpList_append_bytesj _ rfl _ _ rfl w.heap.size u3 xs [92, 92] (some ⟨wr.heap.size, 0, none⟩) 2 2 rfl rfl rfl (HO.out.1.alloc _) HN.out (fun h => by cases h) (by have := HO.out; simp; omega) (by have := HO.out; simp; omega) ?_; intro v6 w6 hown6 hg6)
        have HF : Hid (w6.ownsRow w.heap.size 5 1 v6 (xs ++ [92, 92]).length (Bs (xs ++ [92, 92])) ∧ Below w.heap.size w w6) := ⟨hown6, below_own HO.out.2.1 _ HO.out.1 (Nat.le_refl _) hg6⟩
        clear hown6 hg6 HN
        go_wp2_with fail
        go_roundw
        case rel => exact ⟨k + 1, by have := HK.out; omega, by go_num, by rw [HT.out]; exact HF.out.1, HF.out.2⟩
        case measure => have := HK.out; simp [intOf]; omega
      by_cases e8 : c = 8
      · subst e8
        simp only [show (((8 : Nat) : Int)) = 8 from rfl] at hx
        have HN : Hid (BIn (wr.alloc (.cells #[.int .u8 92, .int .u8 98] 5)) (some ⟨wr.heap.size, 0, none⟩) [92, 98]) := bin_nums (ys := [92, 98]) rfl (by decide)
        clear hc
        go_wp2_with (at_builtin; refine wpList_append_bytesj _ rfl _ _ rfl w.heap.size u3 xs [92, 98] (some ⟨wr.heap.size, 0, none⟩) 2 2 rfl rfl rfl (HO.out.1.alloc _) HN.out (fun h => by cases h) (by have := HO.out; simp; omega) (by have := HO.out; simp; omega) ?_; intro v6 w6 hown6 hg6)
        have HF : Hid (w6.ownsRow w.heap.size 5 1 v6 (xs ++ [92, 98]).length (Bs (xs ++ [92, 98])) ∧ Below w.heap.size w w6) := ⟨hown6, below_own HO.out.2.1 _ HO.out.1 (Nat.le_refl _) hg6⟩
        clear hown6 hg6 HN
        go_wp2_with fail
        go_roundw
        case rel => exact ⟨k + 1, by have := HK.out; omega, by go_num, by rw [HT.out]; exact HF.out.1, HF.out.2⟩
        case measure => have := HK.out; simp [intOf]; omega
      by_cases e9 : c = 9
      · subst e9
        simp only [show (((9 : Nat) : Int)) = 9 from rfl] at hx
        have HN : Hid (BIn (wr.alloc (.cells #[.int .u8 92, .int .u8 116] 5)) (some ⟨wr.heap.size, 0, none⟩) [92, 116]) := bin_nums (ys := [92, 116]) rfl (by decide)
        clear hc
        go_wp2_with (at_builtin; refine wpList_append_bytesj _ rfl _ _ rfl w.heap.size u3 xs [92, 116] (some ⟨wr.heap.size, 0, none⟩) 2 2 rfl rfl rfl (HO.out.1.alloc _) HN.out (fun h => by cases h) (by have := HO.out; simp; omega) (by have := HO.out; simp; omega) ?_; intro v6 w6 hown6 hg6)
        have HF : Hid (w6.ownsRow w.heap.size 5 1 v6 (xs ++ [92, 116]).length (Bs (xs ++ [92, 116])) ∧ Below w.heap.size w w6) := ⟨hown6, below_own HO.out.2.1 _ HO.out.1 (Nat.le_refl _) hg6⟩
        clear hown6 hg6 HN
        go_wp2_with fail
        go_roundw
        case rel => exact ⟨k + 1, by have := HK.out; omega, by go_num, by rw [HT.out]; exact HF.out.1, HF.out.2⟩
        case measure => have := HK.out; simp [intOf]; omega
      by_cases e10 : c = 10
      · subst e10
        simp only [show (((10 : Nat) : Int)) = 10 from rfl] at hx
        have HN : Hid (BIn (wr.alloc (.cells #[.int .u8 92, .int .u8 110] 5)) (some ⟨wr.heap.size, 0, none⟩) [92, 110]) := bin_nums (ys := [92, 110]) rfl (by decide)
        clear hc
        go_wp2_with (at_builtin; refine wpList_append_bytesj _ rfl _ _ rfl w.heap.size u3 xs [92, 110] (some ⟨wr.heap.size, 0, none⟩) 2 2 rfl rfl rfl (HO.out.1.alloc _) HN.out (fun h => by cases h) (by have := HO.out; simp; omega) (by have := HO.out; simp; omega) ?_; intro v6 w6 hown6 hg6)
        have HF : Hid (w6.ownsRow w.heap.size 5 1 v6 (xs ++ [92, 110]).length (Bs (xs ++ [92, 110])) ∧ Below w.heap.size w w6) := ⟨hown6, below_own HO.out.2.1 _ HO.out.1 (Nat.le_refl _) hg6⟩
        clear hown6 hg6 HN
        go_wp2_with fail
        go_roundw
        case rel => exact ⟨k + 1, by have := HK.out; omega, by go_num, by rw [HT.out]; exact HF.out.1, HF.out.2⟩
        case measure => have := HK.out; simp [intOf]; omega
      by_cases e12 : c = 12
      · subst e12
        simp only [show (((12 : Nat) : Int)) = 12 from rfl] at hx
        have HN : Hid (BIn (wr.alloc (.cells #[.int .u8 92, .int .u8 102] 5)) (some ⟨wr.heap.size, 0, none⟩) [92, 102]) := bin_nums (ys := [92, 102]) rfl (by decide)
        clear hc
        go_wp2_with (at_builtin; refine wpList_append_bytesj _ rfl _ _ rfl w.heap.size u3 xs [92, 102] (some ⟨wr.heap.size, 0, none⟩) 2 2 rfl rfl rfl (HO.out.1.alloc _) HN.out (fun h => by cases h) (by have := HO.out; simp; omega) (by have := HO.out; simp; omega) ?_; intro v6 w6 hown6 hg6)
        have HF : Hid (w6.ownsRow w.heap.size 5 1 v6 (xs ++ [92, 102]).length (Bs (xs ++ [92, 102])) ∧ Below w.heap.size w w6) := ⟨hown6, below_own HO.out.2.1 _ HO.out.1 (Nat.le_refl _) hg6⟩
        clear hown6 hg6 HN
        go_wp2_with fail
        go_roundw
        case rel => exact ⟨k + 1, by have := HK.out; omega, by go_num, by rw [HT.out]; exact HF.out.1, HF.out.2⟩
        case measure => have := HK.out; simp [intOf]; omega
      by_cases e13 : c = 13
      · subst e13
        simp only [show (((13 : Nat) : Int)) = 13 from rfl] at hx
        have HN : Hid (BIn (wr.alloc (.cells #[.int .u8 92, .int .u8 114] 5)) (some ⟨wr.heap.size, 0, none⟩) [92, 114]) := bin_nums (ys := [92, 114]) rfl (by decide)
        clear hc
        go_wp2_with (at_builtin; refine wpList_append_bytesj _ rfl _ _ rfl w.heap.size u3 xs [92, 114] (some ⟨wr.heap.size, 0, none⟩) 2 2 rfl rfl rfl (HO.out.1.alloc _) HN.out (fun h => by cases h) (by have := HO.out; simp; omega) (by have := HO.out; simp; omega) ?_; intro v6 w6 hown6 hg6)
        have HF : Hid (w6.ownsRow w.heap.size 5 1 v6 (xs ++ [92, 114]).length (Bs (xs ++ [92, 114])) ∧ Below w.heap.size w w6) := ⟨hown6, below_own HO.out.2.1 _ HO.out.1 (Nat.le_refl _) hg6⟩
        clear hown6 hg6 HN
        go_wp2_with fail
        go_roundw
        case rel => exact ⟨k + 1, by have := HK.out; omega, by go_num, by rw [HT.out]; exact HF.out.1, HF.out.2⟩
        case measure => have := HK.out; simp [intOf]; omega
      have n8 := bset c 8 e8
      have n12 := bset c 12 e12
      have n10 := bset c 10 e10
      have n13 := bset c 13 e13
      have n9 := bset c 9 e9
      have n34 := bset c 34 e34
      have n92 := bset c 92 e92
      simp only [show (((8 : Nat) : Int)) = 8 from rfl, show (((12 : Nat) : Int)) = 12 from rfl, show (((10 : Nat) : Int)) = 10 from rfl, show (((13 : Nat) : Int)) = 13 from rfl, show (((9 : Nat) : Int)) = 9 from rfl, show (((34 : Nat) : Int)) = 34 from rfl, show (((92 : Nat) : Int)) = 92 from rfl] at n8 n12 n10 n13 n9 n34 n92
      by_cases q : c < 32
      · have HE : Hid (J.esc c = [92, 117, 48, 48, 48 + c / 16, J.hexC (c % 16)]) := by
          show J.esc c = _
          unfold J.esc
          rw [if_neg e34, if_neg e92, if_neg e8, if_neg e9, if_neg e10, if_neg e12, if_neg e13, if_pos q]
        have hq : (c : Int) < 32 := by omega
        have X2 : ∀ w', (Instr.index 9 (.string sixS) (.int .u8 ((c % 16 : Nat) : Int))).run Tryd.prog w' = .ok (.int .u8 ((J.hexC (c % 16) : Nat) : Int)) w' := fun w' => by
          have := str_atU sixS (c % 16) (by show c % 16 < 16; omega) w'
          rw [six_at _ (by omega)] at this
          exact this
        have hD2 : J.hexC (c % 16) < 256 := by unfold J.hexC; split <;> omega
        have hD1 : 48 + c / 16 < 256 := by omega
        obtain ⟨J1, hJ1⟩ : ∃ J1 : Nat, c / 16 = J1 := ⟨_, rfl⟩
        obtain ⟨J2, hJ2⟩ : ∃ J2 : Nat, c % 16 = J2 := ⟨_, rfl⟩
        have d1 : (c : Int) / 16 = (J1 : Int) := by omega
        have d2 : (c : Int) % 16 = (J2 : Int) := by omega
        have d3 : (c : Int).tdiv 16 = (J1 : Int) := by rw [Int.tdiv_eq_ediv_of_nonneg (by omega)]; omega
        have d4 : (c : Int).tmod 16 = (J2 : Int) := by rw [Int.tmod_eq_emod_of_nonneg (by omega)]; omega
        have j1 : (J1 : Int) < 16 := by omega
        have j2 : (J2 : Int) < 16 := by omega
        have q5 : (J1 : Int) % 256 = (J1 : Int) := by omega
        have q6 : (J2 : Int) % 256 = (J2 : Int) := by omega
        have q7 : IntKind.u8.wrap (J1 : Int) = (J1 : Int) := by rw [IntKind.wrap_u8]; omega
        have q8 : IntKind.u8.wrap (J2 : Int) = (J2 : Int) := by rw [IntKind.wrap_u8]; omega
        rw [hJ1] at HE hD1
        rw [hJ2] at HE hD2 X2
        unfold sixS at X2
        obtain ⟨D2, hD2e⟩ : ∃ D2, J.hexC J2 = D2 := ⟨_, rfl⟩
        rw [hD2e] at HE hD2 X2
        have q9 : IntKind.u8.wrap (48 + (J1 : Int)) = 48 + (J1 : Int) := by rw [IntKind.wrap_u8]; omega
        have q10 : (48 + (J1 : Int)) % 256 = 48 + (J1 : Int) := by omega
        have HN : Hid (BIn (wr.drew.alloc (.cells #[.int .u8 92, .int .u8 117, .int .u8 48, .int .u8 48, .int .u8 (48 + (J1 : Int)), .int .u8 (D2 : Int)] 5)) (some ⟨wr.heap.size, 0, none⟩) [92, 117, 48, 48, 48 + J1, D2]) := by
          have := bin_nums (w := wr.drew) (ys := [92, 117, 48, 48, 48 + J1, D2]) (cs := #[.int .u8 92, .int .u8 117, .int .u8 48, .int .u8 48, .int .u8 (48 + (J1 : Int)), .int .u8 (D2 : Int)]) (by simp [Bs]) (by simp; omega)
          exact this
        clear hD1 hD2 hJ1 hJ2 hD2e e8 e9 e10 e12 e13 e34 e92 q hc
        go_upto_region 7 with fail
        go_region_held3 (fun _ => True)
          (first | trivial | exact True.intro)
          (first
            | (refine step_append_b rfl _ _ rfl w.heap.size u3 xs [92, 117, 48, 48, 48 + J1, D2] (some ⟨wr.heap.size, 0, none⟩) 6 6 rfl rfl rfl ((show wr.drew.ownsRow w.heap.size 5 1 u3 xs.length (Bs xs) from HO.out.1).alloc _) HN.out (by intro e; cases e) (by have := HO.out; simp; omega) (by have := HO.out; simp; omega) ?_; intro v6 w6 hown6 hg6)
            | fail)
        all_goals
          have HF : Hid (w6.ownsRow w.heap.size 5 1 v6 (xs ++ [92, 117, 48, 48, 48 + J1, D2]).length (Bs (xs ++ [92, 117, 48, 48, 48 + J1, D2])) ∧ Below w.heap.size w w6) := ⟨hown6, below_ownd HO.out.2.1 _ HO.out.1 (Nat.le_refl _) hg6⟩
          clear hown6 hg6
          go_wp2_with fail
          go_roundw
          case rel => exact ⟨k + 1, by have := HK.out; omega, by go_num, by rw [HT.out, HE.out]; exact HF.out.1, HF.out.2⟩
          case measure => have := HK.out; simp [intOf]; omega
      · have HE : Hid (J.esc c = [c]) := J.esc_high q e34 e92
        have hq : ¬ (c : Int) < 32 := by omega
        have HN : Hid (BIn (wr.alloc (.cells #[.int .u8 (c : Int)] 5)) (some ⟨wr.heap.size, 0, none⟩) [c]) := bin_nums (ys := [c]) rfl (by simpa using hc)
        clear e8 e9 e10 e12 e13 e34 e92 q hc
        go_wp2_with (at_builtin; refine wpList_append_bytesj _ rfl _ _ rfl w.heap.size u3 xs [c] (some ⟨wr.heap.size, 0, none⟩) 1 1 rfl rfl rfl (HO.out.1.alloc _) HN.out (fun h => by cases h) (by have := HO.out; simp; omega) (by have := HO.out; simp; omega) ?_; intro v6 w6 hown6 hg6)
        have HF : Hid (w6.ownsRow w.heap.size 5 1 v6 (xs ++ [c]).length (Bs (xs ++ [c])) ∧ Below w.heap.size w w6) := ⟨hown6, below_own HO.out.2.1 _ HO.out.1 (Nat.le_refl _) hg6⟩
        clear hown6 hg6 HN
        go_wp2_with fail
        go_roundw
        case rel => exact ⟨k + 1, by have := HK.out; omega, by go_num, by rw [HT.out, HE.out]; exact HF.out.1, HF.out.2⟩
        case measure => have := HK.out; simp [intOf]; omega
    · obtain rfl : k = s.size := by omega
      have hx := qt_bytes s s.size
      rw [show (numsOf s).take s.size = numsOf s from List.take_of_length_le (by rw [numsOf_len]; exact Nat.le_refl _)] at hown hlen hx
      have HQ : Hid (J.quoted (numsOf s) = (34 :: J.qbody (numsOf s)) ++ [34]) := rfl
      generalize 34 :: J.qbody (numsOf s) = xs at hown hlen hx HQ
      have HO : Hid (wr.ownsRow w.heap.size 5 1 u3 xs.length (Bs xs) ∧ Below w.heap.size w wr ∧ xs.length ≤ 98305 ∧ w.heap.size ≤ wr.heap.size ∧ ∀ x ∈ xs, x < 256) := ⟨hown, hb, hlen, hsz, hx⟩
      have HN : Hid (BIn (wr.alloc (.cells #[.int .u8 34] 5)) (some ⟨wr.heap.size, 0, none⟩) [34]) := bin_nums (ys := [34]) rfl (by decide)
      clear hown hb hlen hsz hk hlt hx
      go_wp2_with (at_builtin; refine wpList_append_bytesj _ rfl _ _ rfl w.heap.size u3 xs [34] (some ⟨wr.heap.size, 0, none⟩) 1 1 rfl rfl rfl (HO.out.1.alloc _) HN.out (fun h => by cases h) (by have := HO.out; simp; omega) (by have := HO.out; simp; omega) ?_; intro v6 w6 hown6 hg6)
      have HF : Hid (U8P (xs ++ [34]) w (.returned v6) w6) := u8_of_own hown6 (fun x hx => by
        rcases List.mem_append.1 hx with h | h
        · exact HO.out.2.2.2.2 x h
        · rw [List.mem_singleton] at h; omega) (below_own HO.out.2.1 _ HO.out.1 (Nat.le_refl _) hg6)
      clear hown6 hg6 HN
      go_wp2_with fail
      go_ret
      rw [HQ.out]
      exact HF.out
end Go.Proofs.YtblnoekogdpolaaDoor
