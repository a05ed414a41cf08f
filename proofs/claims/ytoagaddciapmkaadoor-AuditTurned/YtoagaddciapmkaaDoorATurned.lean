/-
  AuditTurned: the law.
-/
import Derived.Test.YtoagaddciapmkaaDoorALaw0
import Derived.Test.YtoagaddciapmkaaDoorXPass
import Derived.Deep.MidRow
import Derived.BigQuiet
namespace Go.Proofs.YtoagaddciapmkaaDoor
open Go.RowKit Go.WideShapes

theorem set_recs (l : List RecV) (i : Nat) (r : RecV) (hi : i < l.length) : ((((((cellsR l).set (i * 6) (.int .i64 r.seq)).set (i * 6 + 1) (.int .i64 r.tim)).set (i * 6 + 2) (.string r.user)).set (i * 6 + 3) (.string r.deed)).set (i * 6 + 4) (.int .i64 r.out)).set (i * 6 + 5) (.string r.hash) = cellsR (l.set i r) := by
  apply List.ext_getElem?
  intro j
  have hlen := cellsR_len l
  by_cases hj : j < l.length * 6
  · have hq : j / 6 < l.length := by omega
    have hq2 : j / 6 < (l.set i r).length := by rw [List.length_set]; omega
    have e := cellsR_at (l.set i r) (j / 6) (j % 6) hq2 (Nat.mod_lt _ (by decide))
    have e0 := cellsR_at l (j / 6) (j % 6) hq (Nat.mod_lt _ (by decide))
    rw [show j / 6 * 6 + j % 6 = j by omega] at e e0
    rw [e]
    simp only [List.getElem?_set, List.length_set, hlen]
    by_cases hi2 : j / 6 = i
    · have hg : (l.set i r).getD (j / 6) zeroR = r := by simp [List.getD, hi2, hi]
      rw [hg]
      have hr : j % 6 = 0 ∨ j % 6 = 1 ∨ j % 6 = 2 ∨ j % 6 = 3 ∨ j % 6 = 4 ∨ j % 6 = 5 := by omega
      rcases hr with hr | hr | hr | hr | hr | hr
      · rw [if_neg (by omega), if_neg (by omega), if_neg (by omega), if_neg (by omega), if_neg (by omega), if_pos (by omega), if_pos (by omega), hr]
        rfl
      · rw [if_neg (by omega), if_neg (by omega), if_neg (by omega), if_neg (by omega), if_pos (by omega), if_pos (by omega), hr]
        rfl
      · rw [if_neg (by omega), if_neg (by omega), if_neg (by omega), if_pos (by omega), if_pos (by omega), hr]
        rfl
      · rw [if_neg (by omega), if_neg (by omega), if_pos (by omega), if_pos (by omega), hr]
        rfl
      · rw [if_neg (by omega), if_pos (by omega), if_pos (by omega), hr]
        rfl
      · rw [if_pos (by omega), if_pos (by omega), hr]
        rfl
    · have hg : (l.set i r).getD (j / 6) zeroR = l.getD (j / 6) zeroR := by simp [List.getD, show ¬ i = j / 6 by omega]
      rw [hg, ← e0]
      rw [if_neg (by omega), if_neg (by omega), if_neg (by omega), if_neg (by omega), if_neg (by omega), if_neg (by omega)]
  · rw [List.getElem?_eq_none (by simp only [List.length_set, hlen]; omega), List.getElem?_eq_none (by rw [cellsR_len, List.length_set]; omega)]
theorem rown_set {w : World} {base g n cap : Nat} {l : List RecV} (h : ROwn w base (.slice (some ⟨g, 0, none⟩) n cap) l) (hn : n = l.length) (i : Nat) (hi : i < l.length) (r : RecV) :
    ROwn ((((((w.setCell ⟨g, i * 6, none⟩ (.int .i64 r.seq)).setCell ⟨g, i * 6 + 1, none⟩ (.int .i64 r.tim)).setCell ⟨g, i * 6 + 2, none⟩ (.string r.user)).setCell ⟨g, i * 6 + 3, none⟩ (.string r.deed)).setCell ⟨g, i * 6 + 4, none⟩ (.int .i64 r.out)).setCell ⟨g, i * 6 + 5, none⟩ (.string r.hash)) base (.slice (some ⟨g, 0, none⟩) n cap) (l.set i r) ∧
      w.grownBy ((((((w.setCell ⟨g, i * 6, none⟩ (.int .i64 r.seq)).setCell ⟨g, i * 6 + 1, none⟩ (.int .i64 r.tim)).setCell ⟨g, i * 6 + 2, none⟩ (.string r.user)).setCell ⟨g, i * 6 + 3, none⟩ (.string r.deed)).setCell ⟨g, i * 6 + 4, none⟩ (.int .i64 r.out)).setCell ⟨g, i * 6 + 5, none⟩ (.string r.hash)) (some g) := by
  subst hn
  have h1 := World.ownsRow.stored h (i * 6) (.int .i64 r.seq)
  have h2 := World.ownsRow.stored h1.1 (i * 6 + 1) (.int .i64 r.tim)
  have h3 := World.ownsRow.stored h2.1 (i * 6 + 2) (.string r.user)
  have h4 := World.ownsRow.stored h3.1 (i * 6 + 3) (.string r.deed)
  have h5 := World.ownsRow.stored h4.1 (i * 6 + 4) (.int .i64 r.out)
  have h6 := World.ownsRow.stored h5.1 (i * 6 + 5) (.string r.hash)
  refine ⟨?_, ?_⟩
  · have := h6.1
    rw [set_recs l i r hi] at this
    unfold ROwn
    rw [List.length_set]
    exact this
  · have tr : ∀ {a b c : World}, a.grownBy b (some g) → b.grownBy c (some g) → a.grownBy c (some g) := fun {a b c} h k => ⟨k.os.trans h.os, k.tape.trans h.tape, k.output.trans h.output, Nat.le_trans h.size k.size, fun j hj hne => (k.block j (Nat.lt_of_lt_of_le hj h.size) hne).trans (h.block j hj hne)⟩
    exact tr (tr (tr (tr (tr h1.2 h2.2) h3.2) h4.2) h5.2) h6.2
theorem quiet_load_row {P : Program} {o : Oper} {a : Act} {C : World → Prop} {K : Act → Prop} (ty : TypeId) (x : Operand) (ho : o.op = .load ty x) (g : Nat) (hx : a.eval x = .pointer (some ⟨g, 0, none⟩)) (cs : List Value) (d : TypeDesc) (hC : ∀ w, C w → w.rangeAt g 0 cs)
    (hu : P.underlying ty = some d) (hd : d.isRow = true) (hi : (P.info? ty).map (·.size) = some cs.length) (hk : K (a.put o.dst (.agg cs.toArray))) : o.quiet P a C K :=
  ⟨_, fun w hw => by
    unfold Oper.quietAt execOp
    simp only [ho, hx, Instr.loadAt, Instr.sureAddr, Sem.run_bind, Sem.run_pure, Result.andThen_ok, run_loadVar_mid w g 0 ty cs d (hC w hw) hu hd hi]
    exact ⟨rfl, rfl⟩, hk⟩
set_option maxHeartbeats 8000000 in
set_option maxRecDepth 100000 in
theorem law_turned (q : Option Addr) (n c : Nat) (l : List RecV) (t : Int) (u d : ByteArray) (o i : Int) (w : World) (hk : KOn w) (h : RsL w q n l) (hq : q = none → c = 0) (hnc : n ≤ c) (hnb : (c : Int) ≤ 9223372036854775807) :
    Calls Tryd.prog 9 #[.slice q n c, .int .i64 t, .string u, .string d, .int .i64 o, .int .i64 i] w fun e w' => e = .returned (.bool true) ∧ Below w.heap.size w w' := by
  have AL := alive_any w hk
  have LG := fun w' (hb : Below w.heap.size w w') => long_any q n c l w' (h.below hb) (by omega)
  obtain ⟨m, hmis⟩ := mis_ex l
  have HN : Hid (n = l.length) := h.n
  go_enter Tryd.func9, Tryd.ntmps9
  go_wp2_with fail
  refine AL.mono ?_
  rintro e w1 ⟨rfl, hb1⟩
  have L1 := LG w1 hb1
  clear AL LG
  simp only []
  go_upto_region 2 with fail
  go_wp2_with fail
  refine L1.mono ?_
  rintro e w2 ⟨⟨b, rfl, hlong⟩, rfl⟩
  clear L1
  have HK : Hid (KOn w2) := hk.below hb1 hk.pos
  have HR : Hid (RsL w2 q n l) := h.below hb1
  have HB1 : Hid (Below w.heap.size w w2) := hb1
  have HNC : Hid (n ≤ c) := hnc
  clear hk h hnc
  simp only []
  cases b with
  | true =>
    go_wp2
    go_ret
    exact ⟨rfl, HB1.out⟩
  | false =>
  clear hlong
  by_cases h60 : (60 : Int) < (n : Int)
  · go_wp2
    go_ret
    exact ⟨rfl, HB1.out⟩
  by_cases hu : (32 : Int) < (u.size : Int)
  · go_wp2
    go_ret
    exact ⟨rfl, HB1.out⟩
  by_cases hd : (3000 : Int) < (d.size : Int)
  · go_wp2
    go_ret
    exact ⟨rfl, HB1.out⟩
  by_cases hi0 : i < 0
  · go_wp2
    go_ret
    exact ⟨rfl, HB1.out⟩
  by_cases hin : (n : Int) ≤ i
  · go_wp2
    go_ret
    exact ⟨rfl, HB1.out⟩
  by_cases ho1 : o < 100
  · go_wp2
    go_ret
    exact ⟨rfl, HB1.out⟩
  by_cases ho2 : (599 : Int) < o
  · go_wp2
    go_ret
    exact ⟨rfl, HB1.out⟩
  by_cases ht1 : t < 0
  · go_wp2
    go_ret
    exact ⟨rfl, HB1.out⟩
  by_cases ht2 : (1099511627776 : Int) < t
  · go_wp2
    go_ret
    exact ⟨rfl, HB1.out⟩
  go_upto_region 4 with fail
  obtain ⟨E1, hE1⟩ : ∃ E, refE l = E := ⟨_, rfl⟩
  have CK := Check_any q n c l w2 HK.out HR.out (by omega) m hmis E1 hE1
  generalize hr1 : (if E1 = 0 then m else 0) = r1 at CK
  have HR1 : Hid _ := hr1
  have HM : Hid (MisP l m) := hmis
  have HE1 : Hid (refE l = E1) := hE1
  clear hr1 hmis hE1
  go_wp2_with fail
  refine CK.mono ?_
  rintro e w3 ⟨rfl, hb3⟩
  have HB3 : Hid (Below w2.heap.size w2 w3) := hb3
  have HBW : Hid (Below w.heap.size w w3) := below_more HB1.out hb3
  clear CK hb3
  simp only []
  by_cases hE0 : E1 = 0
  · by_cases hm0 : 0 ≤ m
    · subst hE0
      obtain rfl : m = r1 := HR1.out
      go_wp2
      go_ret
      exact ⟨rfl, HBW.out⟩
    subst hE0
    obtain rfl : m = r1 := HR1.out
    have hm1 : MisP l (-1) := by have := mis_ge HM.out; have e : m = -1 := by omega
                                 rw [← e]; exact HM.out
    obtain ⟨p1, p2⟩ := ref_ok HE1.out
    obtain ⟨I, rfl⟩ : ∃ I : Nat, i = (I : Int) := ⟨i.toNat, by omega⟩
    have hIn : I < n := by omega
    have hIl : I < l.length := by rw [← HN.out]; exact hIn
    have hL3 := HR.out.below HB3.out
    obtain ⟨bl, ol, rfl⟩ := hL3.lies.addr (by omega)
    have HL3 : Hid (RsL w3 (some ⟨bl, ol, none⟩) n l) := hL3
    have HP : Hid (∀ r ∈ l, MayR r) := p2
    have HM1 : Hid (MisP l (-1)) := hm1
    have HIL : Hid (I < l.length ∧ l.length ≤ 60) := ⟨hIl, by rw [← HN.out]; omega⟩
    have hmI := p2 _ (getR_mem hIl)
    have hsI : (l.getD I zeroR).seq = (I : Int) := by
      have := fit_seq (l := l) (I + 1) (fun k hk => mis_all hm1 k (by omega))
      rw [show prevR l (I + 1) = l.getD I zeroR from rfl] at this
      rw [this]; push_cast; omega
    have hahd := prev_ahd p2 (j := I) (by omega)
    obtain ⟨rI, hrI⟩ : ∃ r, l.getD I zeroR = r := ⟨_, rfl⟩
    rw [hrI] at hmI hsI
    obtain ⟨s1, t1, u1, d1, o1, h1⟩ := rI
    simp only at hsI
    subst hsI
    have HI : Hid (l.getD I zeroR = ⟨(I : Int), t1, u1, d1, o1, h1⟩) := hrI
    have hmR : MayR ⟨(I : Int), t, u, d, o, h1⟩ := ⟨by show (0 : Int) ≤ (I : Int); omega, hmI.dig, by show 0 ≤ t; omega, by show t ≤ 1099511627776; omega, by show u.size ≤ 32; omega, by show d.size ≤ 16384; omega, by show 100 ≤ o; omega, by show o ≤ 599; omega⟩
    obtain ⟨bf, hbf⟩ : ∃ b, (prevR l I).hash = b := ⟨_, rfl⟩
    have hdb : digB bf = true := hbf ▸ hahd.dig
    have HBF : Hid ((prevR l I).hash = bf) := hbf
    have hTX : ∀ {r : RecV}, MayR r → textE r bf = 0 := fun {r} hr => by unfold textE; rw [may_iff.2 hr, hdb]; rfl
    have T1 := fun w' => Text_any ⟨(I : Int), t1, u1, d1, o1, h1⟩ bf w' (show (I : Int) ≤ _ by omega) 0 (hTX hmI)
    have T2 := fun w' => Text_any ⟨(I : Int), t, u, d, o, h1⟩ bf w' (show (I : Int) ≤ _ by omega) 0 (hTX hmR)
    have hb1 : ∀ {a b : Int} {x y : ByteArray}, (recN (I : Int) a b x y bf).length ≤ x.size + y.size + bf.size + 100 ∨ 100000 < x.size ∨ 100000 < y.size := fun {a b x y} => by
      by_cases hx : x.size ≤ 100000
      · by_cases hy : y.size ≤ 100000
        · left
          unfold recN
          have q1 := txN_len (s := bf) (by have := dig_size hdb; omega)
          have q2 := txN_len hx
          have q3 := txN_len hy
          simp only [List.length_append, putN_len]
          omega
        · right; right; omega
      · right; left; omega
    have hbt : ∀ {a b : Int} {x y : ByteArray}, 0 ≤ a → a ≤ 1099511627776 → 0 ≤ b → b ≤ 599 → ∀ z ∈ recN (I : Int) a b x y bf, z < 256 := fun {a b x y} ha ha2 hb hb2 z hz => by
      unfold recN at hz
      simp only [List.mem_append] at hz
      rcases hz with hz | hz | hz | hz | hz | hz
      · exact txN_byte _ z hz
      · exact putN_bytes _ (by omega) z hz
      · exact putN_bytes _ (by omega) z hz
      · exact putN_bytes _ (by omega) z hz
      · exact txN_byte _ z hz
      · exact txN_byte _ z hz
    have z1 : (recN (I : Int) t1 o1 u1 d1 bf).length ≤ 30000 := by have := hb1 (a := t1) (b := o1) (x := u1) (y := d1); have := hmI.us; have := hmI.de; have := dig_size hdb; simp only at *; omega
    have z2 : (recN (I : Int) t o u d bf).length ≤ 30000 := by have := hb1 (a := t) (b := o) (x := u) (y := d); have := dig_size hdb; omega
    have b1 := hbt (a := t1) (b := o1) (x := u1) (y := d1) hmI.t0 hmI.t1 (Int.le_trans (by decide) hmI.o0) hmI.o1
    have b2 := hbt (a := t) (b := o) (x := u) (y := d) (by omega) (by omega) (by omega) (by omega)
    have hMT : ∀ m2, MisP (l.set I ⟨(I : Int), t, u, d, o, h1⟩) m2 → digN (recN (I : Int) t1 o1 u1 d1 bf) ≠ digN (recN (I : Int) t o u d bf) → m2 = (I : Int) := fun m2 hm2 hne => by
      refine hm2.eq (mis_turned hm1 hIl rfl (by rw [hrI]) ?_)
      rw [hrI, hbf]
      intro he
      have e1 := congrArg numsOf he
      rw [hexD_nums, hexD_nums] at e1
      have e2 := congrArg unhexN e1
      rw [unhex_hex (digN_byte _), unhex_hex (digN_byte _)] at e2
      exact hne (Option.some.inj e2).symm
    have HMT : Hid _ := hMT
    obtain ⟨m2, hm2⟩ := mis_ex (l.set I ⟨(I : Int), t, u, d, o, h1⟩)
    have hpS : ∀ r ∈ l.set I ⟨(I : Int), t, u, d, o, h1⟩, MayR r := fun r hr => by
      rcases List.mem_or_eq_of_mem_set hr with h | h
      · exact p2 r h
      · rw [h]; exact hmR
    have hrS : refE (l.set I ⟨(I : Int), t, u, d, o, h1⟩) = 0 := ref_of (by rw [List.length_set]; have := HIL.out.2; omega) hpS
    have CT := fun w' (g c' : Nat) hk' h' => Check_any (some ⟨g, 0, none⟩) n c' (l.set I ⟨(I : Int), t, u, d, o, h1⟩) w' hk' h' (by omega) m2 hm2 0 hrS
    simp only [if_true] at T1 T2 CT
    generalize hX1 : recN (I : Int) t1 o1 u1 d1 bf = X1 at T1 z1 b1 HMT
    generalize hX2 : recN (I : Int) t o u d bf = X2 at T2 z2 b2 HMT
    have HM2 : Hid (MisP (l.set I ⟨(I : Int), t, u, d, o, h1⟩) m2) := hm2
    have HTK : Hid (I = (l.take I).length ∧ ([] : List RecV).length + (l.take I).length ≤ 1000000) := by
      show _ ∧ _
      rw [List.length_take]
      have := HIL.out
      simp only [List.length_nil]
      omega
    obtain ⟨I1, hI1⟩ : ∃ I1, I + 1 = I1 := ⟨_, rfl⟩
    have eI1 : (I : Int) + 1 = (I1 : Int) := by omega
    have HI1 : Hid (I + 1 = I1) := hI1
    clear hI1
    obtain ⟨L2, hL2⟩ : ∃ L, l.take I ++ l.drop I1 = L := ⟨_, rfl⟩
    have HL2 : Hid (l.take I ++ l.drop I1 = L2) := hL2
    have HDL : Hid ((l.drop I1).length = n - I1) := by show _ = _; rw [List.length_drop, ← HN.out]
    have HLE : Hid ((l.take I).length + (l.drop I1).length ≤ 1000000) := by show _ ≤ _; rw [List.length_take, List.length_drop]; have := HIL.out; omega
    have HMA : Hid (I1 = n → MisP L2 (-1)) := fun e => by
      have hz : l.drop I1 = [] := List.eq_nil_of_length_eq_zero (by rw [HDL.out]; omega)
      rw [← hL2, hz, List.append_nil]
      exact mis_last hm1 I
    have HMB : Hid (¬ I1 = n → MisP L2 (I : Int)) := fun e => by
      rw [← hL2, ← HI1.out]
      exact mis_less hm1 (by have := HIL.out; have := HI1.out; have := HN.out; omega)
    have hx2 : refE L2 = 0 := ref_of (by have := HLE.out; rw [← hL2, List.length_append, List.length_take, List.length_drop]; have := HIL.out; omega) (fun r hr => by
      rw [← hL2] at hr
      rcases List.mem_append.1 hr with h | h
      · exact p2 r (List.mem_of_mem_take h)
      · exact p2 r (List.mem_of_mem_drop h))
    have hl2 : L2.length ≤ 1000000 := by rw [← hL2, List.length_append]; exact HLE.out
    have HCX : Hid (∀ w' q' c' m', MisP L2 m' → KOn w' → RsL w' q' L2.length L2 → Calls Tryd.prog 18 #[.slice q' L2.length c'] w' fun e w'' => e = .returned (.tuple #[.int .i64 m', .int .i64 0]) ∧ Below w'.heap.size w' w'') := fun w' q' c' m' hm' hk' h' => Check_any q' L2.length c' L2 w' hk' h' (by omega) m' hm' 0 hx2
    clear hL2 hx2 hl2
    clear hL3 p1 p2 hm1 hi0 hin hq hmI hmR hrI hbf hdb hTX hb1 hbt hMT hm2 hpS hrS hahd hX1 hX2
    have hIi : (I : Int) < (n : Int) := by omega
    go_wp2_with (at_builtin; refine wpList_append_recs _ rfl _ _ rfl w3.heap.size (.slice none 0 0) [] l (some ⟨bl, ol, none⟩) n c rfl rfl HN.out (rown_nil _ _) HL3.out.lies (fun h => by cases h) (by have := HIL.out.2; simp only [List.length_nil]; omega) (Nat.le_refl _) ?_)
    intro v5 w5 ho5 hg5
    have on5 : OnR w3 v5 l w5 := by have := (OnR.nil w3).two ho5 hg5; rwa [List.nil_append] at this
    clear ho5 hg5
    have hown := on5.own
    rcases hown.2 with ⟨_, h0⟩ | ⟨g5, cap5, cur5, rfl, hgb, hrow, hle, hmx, hsz, htk⟩
    · have := HIL.out; omega
    have HO5 : Hid (OnR w3 (.slice (some ⟨g5, 0, none⟩) l.length cap5) l w5) := on5
    rw [← HN.out] at HO5 ⊢
    have RS := rown_set HO5.out.own HN.out I HIL.out.1 ⟨(I : Int), t, u, d, o, h1⟩
    have hx6 := HO5.out.own.recs.lies.at HIL.out.1
    have hy6 := (HL3.out.below HO5.out.bel).lies.at HIL.out.1
    rw [HI.out] at hx6 hy6
    obtain ⟨x0, x1, x2, x3, x4, x5⟩ := hx6
    have HY : Hid (RecAt w5 bl (ol + I * 6) ⟨(I : Int), t1, u1, d1, o1, h1⟩) := hy6
    have y5 := HY.out.c5
    simp only [Nat.zero_add] at x0 x1 x2 x3 x4 x5 y5
    have f0 : w5.frozen? ⟨g5, I * 6, none⟩ = false := frozen_of_row w5 _ _ _ _ hrow
    have f1 : w5.frozen? ⟨g5, I * 6 + 1, none⟩ = false := frozen_of_row w5 _ _ _ _ hrow
    have f2 : w5.frozen? ⟨g5, I * 6 + 2, none⟩ = false := frozen_of_row w5 _ _ _ _ hrow
    have f3 : w5.frozen? ⟨g5, I * 6 + 3, none⟩ = false := frozen_of_row w5 _ _ _ _ hrow
    have f4 : w5.frozen? ⟨g5, I * 6 + 4, none⟩ = false := frozen_of_row w5 _ _ _ _ hrow
    have f5 : w5.frozen? ⟨g5, I * 6 + 5, none⟩ = false := frozen_of_row w5 _ _ _ _ hrow
    have HRS : Hid _ := RS
    clear hown on5 htk hsz RS hy6
    go_upto_region 10 with fail
    have RS := HRS.out
    clear HRS
    simp only at RS
    generalize (((((w5.setCell ⟨g5, I * 6, none⟩ (.int .i64 (I : Int))).setCell ⟨g5, I * 6 + 1, none⟩ (.int .i64 t)).setCell ⟨g5, I * 6 + 2, none⟩ (.string u)).setCell ⟨g5, I * 6 + 3, none⟩ (.string d)).setCell ⟨g5, I * 6 + 4, none⟩ (.int .i64 o)).setCell ⟨g5, I * 6 + 5, none⟩ (.string h1) = w6 at RS ⊢
    have on6 : OnR w3 (.slice (some ⟨g5, 0, none⟩) n cap5) (l.set I ⟨(I : Int), t, u, d, o, h1⟩) w6 := ⟨RS.1, HO5.out.bel.grown RS.2 HO5.out.bel.size (fun k hk' => by cases hk'; exact hgb)⟩
    have HO6 : Hid _ := on6
    have HL6 : Hid (RsL w6 (some ⟨bl, ol, none⟩) n l) := HL3.out.below on6.bel
    have HT6 : Hid (RsL w6 (some ⟨g5, 0, none⟩) n (l.set I ⟨(I : Int), t, u, d, o, h1⟩)) := on6.own.recs
    have HK6 : Hid (KOn w6) := HK.out.below (below_more HB3.out on6.bel) HK.out.pos
    have HB6 : Hid (Below w.heap.size w w6) := below_more HBW.out on6.bel
    clear RS on6 x0 x1 x2 x3 x4 x5 y5 f0 f1 f2 f3 f4 f5 hrow hle hmx hgb HY HO5
    by_cases hI0 : I = 0
    · have hnb0 : nought = bf := by rw [← HBF.out, hI0]; rfl
      have hIz : ¬ (0 : Int) < (I : Int) := by omega
      go_upto_region 13 with fail
      rw [nought_lit, hnb0]
      clear hnb0 hIz hI0
      obtain ⟨y0, y1, y2, y3, y4, y5⟩ : RecAt w6 bl (ol + I * 6) ⟨(I : Int), t1, u1, d1, o1, h1⟩ := by rw [← HI.out]; exact HL6.out.lies.at HIL.out.1
      simp only at y0 y1 y2 y3 y4 y5
      simp only [recA] at T1 T2
      have hns1 := nums_strOf b1
      have hns2 := nums_strOf b2
      generalize strOf X1 = S1 at T1 hns1
      generalize strOf X2 = S2 at T2 hns2
      go_wp2_with fail
      refine (T1 _).mono ?_
      rintro e w7 ⟨rfl, hb7⟩
      have HT7 := HT6.out.below hb7
      have hx7 : RecAt w7 g5 (0 + I * 6) ⟨(I : Int), t, u, d, o, h1⟩ := by
        have := HT7.lies.at (k := I) (by rw [List.length_set]; exact HIL.out.1)
        rwa [show (l.set I ⟨(I : Int), t, u, d, o, h1⟩).getD I zeroR = ⟨(I : Int), t, u, d, o, h1⟩ from by simp [List.getD, HIL.out.1]] at this
      obtain ⟨x0, x1, x2, x3, x4, x5⟩ := hx7
      simp only [Nat.zero_add] at x0 x1 x2 x3 x4 x5
      clear y0 y1 y2 y3 y4 y5 HT7 T1
      simp only []
      go_upto_region 14 with fail
      go_wp2_with fail
      refine (T2 _).mono ?_
      rintro e w8 ⟨rfl, hb8⟩
      have B8 := below_more hb7 hb8
      clear T2 x0 x1 x2 x3 x4 x5 hb7 hb8
      simp only []
      go_upto_region 15 with fail
      obtain ⟨c9, w9, r9, hc9, i9, hb9⟩ := conv_str S1 w8
      have B9 := below_more B8 hb9
      rw [hns1] at i9
      have l1 : S1.size = X1.length := by rw [← hns1, numsOf_len]
      rw [l1] at hc9 r9
      have SM := sum_any (some ⟨w8.heap.size, 0, none⟩) c9 X1 w9 (HK6.out.below B9 HK6.out.pos) i9 hc9 (by omega)
      have hDl1 := digN_len X1
      have hDb1 := digN_byte X1
      generalize digN X1 = D1 at SM hDl1 hDb1 HMT
      have hDs1 : (Tryd.prog.info? 23).map (·.size) = some (Bs D1).toArray.size := by rw [size_dig]; simp [Bs, hDl1]
      go_wp2_with fail
      refine SM.mono ?_
      rintro e wa ⟨rfl, hba⟩
      have Ba := below_more B9 hba
      clear SM r9 i9 hc9 hb9 B9 hba B8
      simp only []
      go_step
      go_step
      go_step
      go_step
      refine wpList_store_row rfl 23 (.tmp 21) (.tmp 133) rfl wa.heap.size (Bs D1).toArray (by rfl) (by rfl) 23 _ (_root_.Go.heap_alloc_new _ _) hDs1 (by simp [Bs, hDl1]) (one_cell_bs _) ?_
      rw [World.setRow_alloc_new]
      have G1 : (wa.alloc (Obj.cells (Bs D1).toArray 23)).heap[wa.heap.size]? = some (.cells (Bs D1).toArray 23 (0, 0)) := _root_.Go.heap_alloc_new _ _
      replace Ba := Ba.alloc (o := Obj.cells (Bs D1).toArray 23) Ba.size
      generalize wa.heap.size = gd1 at G1 ⊢
      generalize wa.alloc (Obj.cells (Bs D1).toArray 23) = wb at G1 Ba ⊢
      simp only [Act.put]
      go_upto_region 16 with fail
      obtain ⟨cc, wc, rc, hcc, ic, hbc⟩ := conv_str S2 wb
      have Bc := below_more Ba hbc
      rw [hns2] at ic
      have l2 : S2.size = X2.length := by rw [← hns2, numsOf_len]
      rw [l2] at hcc rc
      have SM := sum_any (some ⟨wb.heap.size, 0, none⟩) cc X2 wc (HK6.out.below Bc HK6.out.pos) ic hcc (by omega)
      have hDl2 := digN_len X2
      have hDb2 := digN_byte X2
      generalize digN X2 = D2 at SM hDl2 hDb2 HMT
      have hDs2 : (Tryd.prog.info? 23).map (·.size) = some (Bs D2).toArray.size := by rw [size_dig]; simp [Bs, hDl2]
      replace G1 := block_below G1 hbc
      go_wp2_with fail
      refine SM.mono ?_
      rintro e wd ⟨rfl, hbd⟩
      have Bd := below_more Bc hbd
      replace G1 := block_below G1 hbd
      clear SM rc ic hcc hbc Bc hbd Ba
      simp only []
      go_step
      go_step
      go_step
      go_step
      refine wpList_store_row rfl 23 (.tmp 22) (.tmp 136) rfl wd.heap.size (Bs D2).toArray (by rfl) (by rfl) 23 _ (_root_.Go.heap_alloc_new _ _) hDs2 (by simp [Bs, hDl2]) (one_cell_bs _) ?_
      rw [World.setRow_alloc_new]
      have G2 : (wd.alloc (Obj.cells (Bs D2).toArray 23)).heap[wd.heap.size]? = some (.cells (Bs D2).toArray 23 (0, 0)) := _root_.Go.heap_alloc_new _ _
      replace G1 := block_below G1 (w' := wd.alloc (Obj.cells (Bs D2).toArray 23)) ((Below.refl _ _).alloc (Nat.le_refl _) _)
      replace Bd := Bd.alloc (o := Obj.cells (Bs D2).toArray 23) Bd.size
      generalize wd.heap.size = gd2 at G2 ⊢
      generalize wd.alloc (Obj.cells (Bs D2).toArray 23) = we at G1 G2 Bd ⊢
      simp only [Act.put]
      go_upto_region 17 with fail
      have CX := CT we g5 cap5 (HK6.out.below Bd HK6.out.pos) (HT6.out.below Bd)
      clear CT
      go_wp2_with fail
      refine CX.mono ?_
      rintro e wf ⟨rfl, hbf⟩
      have Bf := below_more Bd hbf
      replace G1 := block_below G1 hbf
      replace G2 := block_below G2 hbf
      clear CX Bd hbf
      simp only []
      go_upto_region 20 with fail
      have hx7 : RecAt wf g5 (0 + I * 6) ⟨(I : Int), t, u, d, o, h1⟩ := by
        have := (HT6.out.below Bf).lies.at (k := I) (by rw [List.length_set]; exact HIL.out.1)
        rwa [show (l.set I ⟨(I : Int), t, u, d, o, h1⟩).getD I zeroR = ⟨(I : Int), t, u, d, o, h1⟩ from by simp [List.getD, HIL.out.1]] at this
      obtain ⟨x0, x1, x2, x3, x4, x5⟩ := hx7
      obtain ⟨y0, y1, y2, y3, y4, y5⟩ : RecAt wf bl (ol + I * 6) ⟨(I : Int), t1, u1, d1, o1, h1⟩ := by rw [← HI.out]; exact (HL6.out.below Bf).lies.at HIL.out.1
      simp only [Nat.zero_add] at x0 x1 x2 x3 x4 x5 y0 y1 y2 y3 y4 y5
      have NQ := fun w' => run_neqR ⟨(I : Int), t, u, d, o, h1⟩ ⟨(I : Int), t1, u1, d1, o1, h1⟩ w'
      have EQ := fun w' => neq_dig hDl1 hDl2 hDb1 hDb2 w'
      have LD1 : Hid (∀ w', (∃ k, w' = wf.drewN k) → w'.rangeAt gd1 0 (Bs D1)) := fun w' hw' => by obtain ⟨k, rfl⟩ := hw'; exact range_row (w := wf.drewN k) G1
      have LD2 : Hid (∀ w', (∃ k, w' = wf.drewN k) → w'.rangeAt gd2 0 (Bs D2)) := fun w' hw' => by obtain ⟨k, rfl⟩ := hw'; exact range_row (w := wf.drewN k) G2
      have sz1 : Hid ((Tryd.prog.info? 23).map (·.size) = some (Bs D1).length) := by show _ = _; rw [size_dig]; simp [Bs, hDl1]
      have sz2 : Hid ((Tryd.prog.info? 23).map (·.size) = some (Bs D2).length) := by show _ = _; rw [size_dig]; simp [Bs, hDl2]
      have h3 : recEq ⟨(I : Int), t, u, d, o, h1⟩ ⟨(I : Int), t1, u1, d1, o1, h1⟩ = true ∨ (recEq ⟨(I : Int), t, u, d, o, h1⟩ ⟨(I : Int), t1, u1, d1, o1, h1⟩ = false ∧ decide (D1 = D2) = true) ∨ (recEq ⟨(I : Int), t, u, d, o, h1⟩ ⟨(I : Int), t1, u1, d1, o1, h1⟩ = false ∧ decide (D1 = D2) = false ∧ (m2 != (I : Int)) = false) := by
        cases recEq ⟨(I : Int), t, u, d, o, h1⟩ ⟨(I : Int), t1, u1, d1, o1, h1⟩ with
        | true => exact .inl rfl
        | false =>
          by_cases hD : D1 = D2
          · exact .inr (.inl ⟨rfl, decide_eq_true hD⟩)
          · exact .inr (.inr ⟨rfl, decide_eq_false hD, by rw [HMT.out m2 HM2.out hD]; simp⟩)
      simp only [recA] at NQ
      have L6 := HL6.out.below Bf
      have HLF : Hid (RsL wf (some ⟨bl, ol, none⟩) n l) := L6
      have HKF : Hid (KOn wf) := HK6.out.below Bf HK6.out.pos
      have HBF2 : Hid (Below w.heap.size w wf) := below_more HB6.out Bf
      clear L6 Bf G1 G2 hDl1 hDl2 hDb1 hDb2 hDs1 hDs2 hns1 hns2 l1 l2 z1 z2 b1 b2
      rcases h3 with hh | ⟨hh, hh2⟩ | ⟨hh, hh2, hmf⟩
      all_goals rw [hh] at NQ
      all_goals try rw [hh2] at EQ
      all_goals first | rw [Bool.not_true] at NQ | rw [Bool.not_false] at NQ
      all_goals try first | rw [Bool.not_true] at EQ | rw [Bool.not_false] at EQ
      all_goals refine wp_region_quiet_lit (by kernel_rfl) (by kernel_rfl) ?_
      all_goals repeat (quiet_step (fail))
      all_goals try (refine BigFrame.wpQuiet_want rfl (fun K hK => quiet_load_row 23 (.tmp 21) rfl gd1 rfl (Bs D1) _ LD1.out Tryd.underlying23 rfl sz1.out (hK _ ?_)); clear hK K; simp only [Act.put, List.setIfInBounds_toArray, List.set_cons_zero, List.set_cons_succ])
      all_goals try (refine BigFrame.wpQuiet_want rfl (fun K hK => quiet_load_row 23 (.tmp 22) rfl gd2 rfl (Bs D2) _ LD2.out Tryd.underlying23 rfl sz2.out (hK _ ?_)); clear hK K; simp only [Act.put, List.setIfInBounds_toArray, List.set_cons_zero, List.set_cons_succ])
      all_goals repeat (quiet_step (fail))
      all_goals refine wpQuiet_nil ?_
      all_goals intro _ hw'
      all_goals obtain ⟨nq, hw''⟩ := hw'
      all_goals subst hw''
      all_goals have HLG : Hid (RsL (wf.drewN nq) (some ⟨bl, ol, none⟩) n l) := HLF.out.below (drewN_below (Below.refl _ _) nq)
      all_goals have HKG : Hid (KOn (wf.drewN nq)) := HKF.out.below (drewN_below (Below.refl _ _) nq) HKF.out.pos
      all_goals have HBG : Hid (Below w.heap.size w (wf.drewN nq)) := drewN_below HBF2.out nq
      all_goals generalize wf.drewN nq = wg at HLG HKG HBG ⊢
      all_goals clear x0 x1 x2 x3 x4 x5 y0 y1 y2 y3 y4 y5 NQ EQ LD1 LD2 HLF HKF HBF2
      all_goals have hIc : (I : Int) ≤ (c : Int) := by have := HNC.out; omega
      all_goals go_wp2_with (at_builtin; refine wpList_append_recs _ rfl _ _ rfl wg.heap.size (.slice none 0 0) [] (l.take I) (some ⟨bl, ol, none⟩) I c rfl rfl HTK.out.1 (rown_nil _ _) (HLG.out.lies.take I) (fun h => by cases h) HTK.out.2 (Nat.le_refl _) ?_)
      all_goals intro vh wh ho5 hg5
      all_goals have onh : OnR wg vh ([] ++ l.take I) wh := (OnR.nil wg).two ho5 hg5
      all_goals clear ho5 hg5
      all_goals rw [List.nil_append] at onh
      all_goals obtain ⟨qh, ch, rfl, hch, hmh, hqh⟩ := onh.own.form
      all_goals rw [← HTK.out.1] at onh ⊢
      all_goals have HOH : Hid _ := onh
      all_goals have HLH : Hid (RsL wh (some ⟨bl, ol, none⟩) n l) := HLG.out.below onh.bel
      all_goals clear onh hch hmh hqh
      all_goals rcases (show (I1 = n ∧ c = n) ∨ (I1 = n ∧ ¬ c = n) ∨ (¬ I1 = n ∧ ¬ c = I1) from by have := HNC.out; have := HI1.out; omega) with ⟨k1, k2⟩ | ⟨k1, k2⟩ | ⟨k1, k2⟩
      ·
        have eL : (n : Int) - 1 = (I : Int) := by have := HI1.out; omega
        have CX := fun w' q' c' hk' h' => HCX.out w' q' c' (-1) (HMA.out k1) hk' h'
        have hin : RsIn wh (some ⟨bl, ol, none⟩) (l.drop I1) := fun hp => by have := HDL.out; omega
        have hd0 : (l.drop I1).length = 0 := by have := HDL.out; omega
        have HD0 : Hid _ := hd0
        have hI1c : (I1 : Int) ≤ (c : Int) := by omega
        have hI1n : (I1 : Int) ≤ (n : Int) := by omega
        obtain rfl := k1
        obtain rfl := k2.symm
        clear hd0
        go_wp2_with (at_builtin; refine wpList_append_recs _ rfl _ _ rfl wg.heap.size (.slice qh I ch) (l.take I) (l.drop I1) _ _ _ rfl rfl HD0.out.symm HOH.out.own hin (fun h => by cases h) HLE.out HOH.out.bel.size ?_)
        intro vi wi ho5 hg5
        have oni := HOH.out.two ho5 hg5
        clear ho5 hg5 hin
        rw [HL2.out] at oni
        obtain ⟨qi, ci, rfl, hci, hmi, hqi⟩ := oni.own.form
        have CY := CX wi qi ci (HKG.out.below oni.bel HKG.out.pos) oni.own.recs
        have BI := below_more HBG.out oni.bel
        clear CX oni hci hmi hqi
        go_wp2_with (go_at_call 18; refine CY.mono ?_; rintro e wj ⟨rfl, hbj⟩)
        go_ret
        exact ⟨rfl, below_more BI hbj⟩
      ·
        have eL : (n : Int) - 1 = (I : Int) := by have := HI1.out; omega
        have CX := fun w' q' c' hk' h' => HCX.out w' q' c' (-1) (HMA.out k1) hk' h'
        have hin : RsIn wh (some ⟨bl, ol + I1 * 6, none⟩) (l.drop I1) := HLH.out.lies.drop I1
        have hd0 : (l.drop I1).length = 0 := by have := HDL.out; omega
        have HD0 : Hid _ := hd0
        have hcI1 : ¬ c = I1 := by omega
        have hI1c : (I1 : Int) ≤ (c : Int) := by have := HNC.out; omega
        have hI1n : (I1 : Int) ≤ (n : Int) := by omega
        obtain rfl := k1
        clear hd0
        go_wp2_with (at_builtin; refine wpList_append_recs _ rfl _ _ rfl wg.heap.size (.slice qh I ch) (l.take I) (l.drop I1) _ _ _ rfl rfl HD0.out.symm HOH.out.own hin (fun h => by cases h) HLE.out HOH.out.bel.size ?_)
        intro vi wi ho5 hg5
        have oni := HOH.out.two ho5 hg5
        clear ho5 hg5 hin
        rw [HL2.out] at oni
        obtain ⟨qi, ci, rfl, hci, hmi, hqi⟩ := oni.own.form
        have CY := CX wi qi ci (HKG.out.below oni.bel HKG.out.pos) oni.own.recs
        have BI := below_more HBG.out oni.bel
        clear CX oni hci hmi hqi
        go_wp2_with (go_at_call 18; refine CY.mono ?_; rintro e wj ⟨rfl, hbj⟩)
        go_ret
        exact ⟨rfl, below_more BI hbj⟩
      ·
        have eL : ((I : Int) == (n : Int) - 1) = false := by have := HI1.out; simpa using fun e : (I : Int) = (n : Int) - 1 => k1 (by omega)
        have CX := fun w' q' c' hk' h' => HCX.out w' q' c' (I : Int) (HMB.out k1) hk' h'
        have hin : RsIn wh (some ⟨bl, ol + I1 * 6, none⟩) (l.drop I1) := HLH.out.lies.drop I1
        have HD0 : Hid ((l.drop I1).length = n - I1) := HDL.out
        have hI1c : (I1 : Int) ≤ (c : Int) := by have := HNC.out; have := HI1.out; omega
        have hI1n : (I1 : Int) ≤ (n : Int) := by have := HI1.out; omega
        go_wp2_with (at_builtin; refine wpList_append_recs _ rfl _ _ rfl wg.heap.size (.slice qh I ch) (l.take I) (l.drop I1) _ _ _ rfl rfl HD0.out.symm HOH.out.own hin (fun h => by cases h) HLE.out HOH.out.bel.size ?_)
        intro vi wi ho5 hg5
        have oni := HOH.out.two ho5 hg5
        clear ho5 hg5 hin
        rw [HL2.out] at oni
        obtain ⟨qi, ci, rfl, hci, hmi, hqi⟩ := oni.own.form
        have CY := CX wi qi ci (HKG.out.below oni.bel HKG.out.pos) oni.own.recs
        have BI := below_more HBG.out oni.bel
        clear CX oni hci hmi hqi
        go_wp2_with (go_at_call 18; refine CY.mono ?_; rintro e wj ⟨rfl, hbj⟩)
        go_ret
        exact ⟨rfl, below_more BI hbj⟩
      ·
        have eL : (n : Int) - 1 = (I : Int) := by have := HI1.out; omega
        have CX := fun w' q' c' hk' h' => HCX.out w' q' c' (-1) (HMA.out k1) hk' h'
        have hin : RsIn wh (some ⟨bl, ol, none⟩) (l.drop I1) := fun hp => by have := HDL.out; omega
        have hd0 : (l.drop I1).length = 0 := by have := HDL.out; omega
        have HD0 : Hid _ := hd0
        have hI1c : (I1 : Int) ≤ (c : Int) := by omega
        have hI1n : (I1 : Int) ≤ (n : Int) := by omega
        obtain rfl := k1
        obtain rfl := k2.symm
        clear hd0
        go_wp2_with (at_builtin; refine wpList_append_recs _ rfl _ _ rfl wg.heap.size (.slice qh I ch) (l.take I) (l.drop I1) _ _ _ rfl rfl HD0.out.symm HOH.out.own hin (fun h => by cases h) HLE.out HOH.out.bel.size ?_)
        intro vi wi ho5 hg5
        have oni := HOH.out.two ho5 hg5
        clear ho5 hg5 hin
        rw [HL2.out] at oni
        obtain ⟨qi, ci, rfl, hci, hmi, hqi⟩ := oni.own.form
        have CY := CX wi qi ci (HKG.out.below oni.bel HKG.out.pos) oni.own.recs
        have BI := below_more HBG.out oni.bel
        clear CX oni hci hmi hqi
        go_wp2_with (go_at_call 18; refine CY.mono ?_; rintro e wj ⟨rfl, hbj⟩)
        go_ret
        exact ⟨rfl, below_more BI hbj⟩
      ·
        have eL : (n : Int) - 1 = (I : Int) := by have := HI1.out; omega
        have CX := fun w' q' c' hk' h' => HCX.out w' q' c' (-1) (HMA.out k1) hk' h'
        have hin : RsIn wh (some ⟨bl, ol + I1 * 6, none⟩) (l.drop I1) := HLH.out.lies.drop I1
        have hd0 : (l.drop I1).length = 0 := by have := HDL.out; omega
        have HD0 : Hid _ := hd0
        have hcI1 : ¬ c = I1 := by omega
        have hI1c : (I1 : Int) ≤ (c : Int) := by have := HNC.out; omega
        have hI1n : (I1 : Int) ≤ (n : Int) := by omega
        obtain rfl := k1
        clear hd0
        go_wp2_with (at_builtin; refine wpList_append_recs _ rfl _ _ rfl wg.heap.size (.slice qh I ch) (l.take I) (l.drop I1) _ _ _ rfl rfl HD0.out.symm HOH.out.own hin (fun h => by cases h) HLE.out HOH.out.bel.size ?_)
        intro vi wi ho5 hg5
        have oni := HOH.out.two ho5 hg5
        clear ho5 hg5 hin
        rw [HL2.out] at oni
        obtain ⟨qi, ci, rfl, hci, hmi, hqi⟩ := oni.own.form
        have CY := CX wi qi ci (HKG.out.below oni.bel HKG.out.pos) oni.own.recs
        have BI := below_more HBG.out oni.bel
        clear CX oni hci hmi hqi
        go_wp2_with (go_at_call 18; refine CY.mono ?_; rintro e wj ⟨rfl, hbj⟩)
        go_ret
        exact ⟨rfl, below_more BI hbj⟩
      ·
        have eL : ((I : Int) == (n : Int) - 1) = false := by have := HI1.out; simpa using fun e : (I : Int) = (n : Int) - 1 => k1 (by omega)
        have CX := fun w' q' c' hk' h' => HCX.out w' q' c' (I : Int) (HMB.out k1) hk' h'
        have hin : RsIn wh (some ⟨bl, ol + I1 * 6, none⟩) (l.drop I1) := HLH.out.lies.drop I1
        have HD0 : Hid ((l.drop I1).length = n - I1) := HDL.out
        have hI1c : (I1 : Int) ≤ (c : Int) := by have := HNC.out; have := HI1.out; omega
        have hI1n : (I1 : Int) ≤ (n : Int) := by have := HI1.out; omega
        go_wp2_with (at_builtin; refine wpList_append_recs _ rfl _ _ rfl wg.heap.size (.slice qh I ch) (l.take I) (l.drop I1) _ _ _ rfl rfl HD0.out.symm HOH.out.own hin (fun h => by cases h) HLE.out HOH.out.bel.size ?_)
        intro vi wi ho5 hg5
        have oni := HOH.out.two ho5 hg5
        clear ho5 hg5 hin
        rw [HL2.out] at oni
        obtain ⟨qi, ci, rfl, hci, hmi, hqi⟩ := oni.own.form
        have CY := CX wi qi ci (HKG.out.below oni.bel HKG.out.pos) oni.own.recs
        have BI := below_more HBG.out oni.bel
        clear CX oni hci hmi hqi
        go_wp2_with (go_at_call 18; refine CY.mono ?_; rintro e wj ⟨rfl, hbj⟩)
        go_ret
        exact ⟨rfl, below_more BI hbj⟩
      ·
        have eL : (n : Int) - 1 = (I : Int) := by have := HI1.out; omega
        have CX := fun w' q' c' hk' h' => HCX.out w' q' c' (-1) (HMA.out k1) hk' h'
        have hin : RsIn wh (some ⟨bl, ol, none⟩) (l.drop I1) := fun hp => by have := HDL.out; omega
        have hd0 : (l.drop I1).length = 0 := by have := HDL.out; omega
        have HD0 : Hid _ := hd0
        have hI1c : (I1 : Int) ≤ (c : Int) := by omega
        have hI1n : (I1 : Int) ≤ (n : Int) := by omega
        obtain rfl := k1
        obtain rfl := k2.symm
        clear hd0
        go_wp2_with (at_builtin; refine wpList_append_recs _ rfl _ _ rfl wg.heap.size (.slice qh I ch) (l.take I) (l.drop I1) _ _ _ rfl rfl HD0.out.symm HOH.out.own hin (fun h => by cases h) HLE.out HOH.out.bel.size ?_)
        intro vi wi ho5 hg5
        have oni := HOH.out.two ho5 hg5
        clear ho5 hg5 hin
        rw [HL2.out] at oni
        obtain ⟨qi, ci, rfl, hci, hmi, hqi⟩ := oni.own.form
        have CY := CX wi qi ci (HKG.out.below oni.bel HKG.out.pos) oni.own.recs
        have BI := below_more HBG.out oni.bel
        clear CX oni hci hmi hqi
        go_wp2_with (go_at_call 18; refine CY.mono ?_; rintro e wj ⟨rfl, hbj⟩)
        go_ret
        exact ⟨rfl, below_more BI hbj⟩
      ·
        have eL : (n : Int) - 1 = (I : Int) := by have := HI1.out; omega
        have CX := fun w' q' c' hk' h' => HCX.out w' q' c' (-1) (HMA.out k1) hk' h'
        have hin : RsIn wh (some ⟨bl, ol + I1 * 6, none⟩) (l.drop I1) := HLH.out.lies.drop I1
        have hd0 : (l.drop I1).length = 0 := by have := HDL.out; omega
        have HD0 : Hid _ := hd0
        have hcI1 : ¬ c = I1 := by omega
        have hI1c : (I1 : Int) ≤ (c : Int) := by have := HNC.out; omega
        have hI1n : (I1 : Int) ≤ (n : Int) := by omega
        obtain rfl := k1
        clear hd0
        go_wp2_with (at_builtin; refine wpList_append_recs _ rfl _ _ rfl wg.heap.size (.slice qh I ch) (l.take I) (l.drop I1) _ _ _ rfl rfl HD0.out.symm HOH.out.own hin (fun h => by cases h) HLE.out HOH.out.bel.size ?_)
        intro vi wi ho5 hg5
        have oni := HOH.out.two ho5 hg5
        clear ho5 hg5 hin
        rw [HL2.out] at oni
        obtain ⟨qi, ci, rfl, hci, hmi, hqi⟩ := oni.own.form
        have CY := CX wi qi ci (HKG.out.below oni.bel HKG.out.pos) oni.own.recs
        have BI := below_more HBG.out oni.bel
        clear CX oni hci hmi hqi
        go_wp2_with (go_at_call 18; refine CY.mono ?_; rintro e wj ⟨rfl, hbj⟩)
        go_ret
        exact ⟨rfl, below_more BI hbj⟩
      ·
        have eL : ((I : Int) == (n : Int) - 1) = false := by have := HI1.out; simpa using fun e : (I : Int) = (n : Int) - 1 => k1 (by omega)
        have CX := fun w' q' c' hk' h' => HCX.out w' q' c' (I : Int) (HMB.out k1) hk' h'
        have hin : RsIn wh (some ⟨bl, ol + I1 * 6, none⟩) (l.drop I1) := HLH.out.lies.drop I1
        have HD0 : Hid ((l.drop I1).length = n - I1) := HDL.out
        have hI1c : (I1 : Int) ≤ (c : Int) := by have := HNC.out; have := HI1.out; omega
        have hI1n : (I1 : Int) ≤ (n : Int) := by have := HI1.out; omega
        go_wp2_with (at_builtin; refine wpList_append_recs _ rfl _ _ rfl wg.heap.size (.slice qh I ch) (l.take I) (l.drop I1) _ _ _ rfl rfl HD0.out.symm HOH.out.own hin (fun h => by cases h) HLE.out HOH.out.bel.size ?_)
        intro vi wi ho5 hg5
        have oni := HOH.out.two ho5 hg5
        clear ho5 hg5 hin
        rw [HL2.out] at oni
        obtain ⟨qi, ci, rfl, hci, hmi, hqi⟩ := oni.own.form
        have CY := CX wi qi ci (HKG.out.below oni.bel HKG.out.pos) oni.own.recs
        have BI := below_more HBG.out oni.bel
        clear CX oni hci hmi hqi
        go_wp2_with (go_at_call 18; refine CY.mono ?_; rintro e wj ⟨rfl, hbj⟩)
        go_ret
        exact ⟨rfl, below_more BI hbj⟩
    · obtain ⟨J, hJ⟩ : ∃ J, I - 1 = J := ⟨_, rfl⟩
      have hIz : (0 : Int) < (I : Int) := by omega
      have c5 := (HL6.out.lies.at (k := J) (by have := HIL.out.1; omega)).c5
      have hcb : (l.getD J zeroR).hash = bf := by rw [← HBF.out, ← hJ]; unfold prevR; rw [if_neg hI0]
      rw [hcb] at c5
      have e1 : (I : Int) - 1 = (J : Int) := by omega
      have e2 : (J : Int) < (n : Int) := by omega
      clear hcb hJ
      go_upto_region 13 with fail
      clear c5 e1 e2 hIz hI0
      obtain ⟨y0, y1, y2, y3, y4, y5⟩ : RecAt w6 bl (ol + I * 6) ⟨(I : Int), t1, u1, d1, o1, h1⟩ := by rw [← HI.out]; exact HL6.out.lies.at HIL.out.1
      simp only at y0 y1 y2 y3 y4 y5
      simp only [recA] at T1 T2
      have hns1 := nums_strOf b1
      have hns2 := nums_strOf b2
      generalize strOf X1 = S1 at T1 hns1
      generalize strOf X2 = S2 at T2 hns2
      go_wp2_with fail
      refine (T1 _).mono ?_
      rintro e w7 ⟨rfl, hb7⟩
      have HT7 := HT6.out.below hb7
      have hx7 : RecAt w7 g5 (0 + I * 6) ⟨(I : Int), t, u, d, o, h1⟩ := by
        have := HT7.lies.at (k := I) (by rw [List.length_set]; exact HIL.out.1)
        rwa [show (l.set I ⟨(I : Int), t, u, d, o, h1⟩).getD I zeroR = ⟨(I : Int), t, u, d, o, h1⟩ from by simp [List.getD, HIL.out.1]] at this
      obtain ⟨x0, x1, x2, x3, x4, x5⟩ := hx7
      simp only [Nat.zero_add] at x0 x1 x2 x3 x4 x5
      clear y0 y1 y2 y3 y4 y5 HT7 T1
      simp only []
      go_upto_region 14 with fail
      go_wp2_with fail
      refine (T2 _).mono ?_
      rintro e w8 ⟨rfl, hb8⟩
      have B8 := below_more hb7 hb8
      clear T2 x0 x1 x2 x3 x4 x5 hb7 hb8
      simp only []
      go_upto_region 15 with fail
      obtain ⟨c9, w9, r9, hc9, i9, hb9⟩ := conv_str S1 w8
      have B9 := below_more B8 hb9
      rw [hns1] at i9
      have l1 : S1.size = X1.length := by rw [← hns1, numsOf_len]
      rw [l1] at hc9 r9
      have SM := sum_any (some ⟨w8.heap.size, 0, none⟩) c9 X1 w9 (HK6.out.below B9 HK6.out.pos) i9 hc9 (by omega)
      have hDl1 := digN_len X1
      have hDb1 := digN_byte X1
      generalize digN X1 = D1 at SM hDl1 hDb1 HMT
      have hDs1 : (Tryd.prog.info? 23).map (·.size) = some (Bs D1).toArray.size := by rw [size_dig]; simp [Bs, hDl1]
      go_wp2_with fail
      refine SM.mono ?_
      rintro e wa ⟨rfl, hba⟩
      have Ba := below_more B9 hba
      clear SM r9 i9 hc9 hb9 B9 hba B8
      simp only []
      go_step
      go_step
      go_step
      go_step
      refine wpList_store_row rfl 23 (.tmp 21) (.tmp 133) rfl wa.heap.size (Bs D1).toArray (by rfl) (by rfl) 23 _ (_root_.Go.heap_alloc_new _ _) hDs1 (by simp [Bs, hDl1]) (one_cell_bs _) ?_
      rw [World.setRow_alloc_new]
      have G1 : (wa.alloc (Obj.cells (Bs D1).toArray 23)).heap[wa.heap.size]? = some (.cells (Bs D1).toArray 23 (0, 0)) := _root_.Go.heap_alloc_new _ _
      replace Ba := Ba.alloc (o := Obj.cells (Bs D1).toArray 23) Ba.size
      generalize wa.heap.size = gd1 at G1 ⊢
      generalize wa.alloc (Obj.cells (Bs D1).toArray 23) = wb at G1 Ba ⊢
      simp only [Act.put]
      go_upto_region 16 with fail
      obtain ⟨cc, wc, rc, hcc, ic, hbc⟩ := conv_str S2 wb
      have Bc := below_more Ba hbc
      rw [hns2] at ic
      have l2 : S2.size = X2.length := by rw [← hns2, numsOf_len]
      rw [l2] at hcc rc
      have SM := sum_any (some ⟨wb.heap.size, 0, none⟩) cc X2 wc (HK6.out.below Bc HK6.out.pos) ic hcc (by omega)
      have hDl2 := digN_len X2
      have hDb2 := digN_byte X2
      generalize digN X2 = D2 at SM hDl2 hDb2 HMT
      have hDs2 : (Tryd.prog.info? 23).map (·.size) = some (Bs D2).toArray.size := by rw [size_dig]; simp [Bs, hDl2]
      replace G1 := block_below G1 hbc
      go_wp2_with fail
      refine SM.mono ?_
      rintro e wd ⟨rfl, hbd⟩
      have Bd := below_more Bc hbd
      replace G1 := block_below G1 hbd
      clear SM rc ic hcc hbc Bc hbd Ba
      simp only []
      go_step
      go_step
      go_step
      go_step
      refine wpList_store_row rfl 23 (.tmp 22) (.tmp 136) rfl wd.heap.size (Bs D2).toArray (by rfl) (by rfl) 23 _ (_root_.Go.heap_alloc_new _ _) hDs2 (by simp [Bs, hDl2]) (one_cell_bs _) ?_
      rw [World.setRow_alloc_new]
      have G2 : (wd.alloc (Obj.cells (Bs D2).toArray 23)).heap[wd.heap.size]? = some (.cells (Bs D2).toArray 23 (0, 0)) := _root_.Go.heap_alloc_new _ _
      replace G1 := block_below G1 (w' := wd.alloc (Obj.cells (Bs D2).toArray 23)) ((Below.refl _ _).alloc (Nat.le_refl _) _)
      replace Bd := Bd.alloc (o := Obj.cells (Bs D2).toArray 23) Bd.size
      generalize wd.heap.size = gd2 at G2 ⊢
      generalize wd.alloc (Obj.cells (Bs D2).toArray 23) = we at G1 G2 Bd ⊢
      simp only [Act.put]
      go_upto_region 17 with fail
      have CX := CT we g5 cap5 (HK6.out.below Bd HK6.out.pos) (HT6.out.below Bd)
      clear CT
      go_wp2_with fail
      refine CX.mono ?_
      rintro e wf ⟨rfl, hbf⟩
      have Bf := below_more Bd hbf
      replace G1 := block_below G1 hbf
      replace G2 := block_below G2 hbf
      clear CX Bd hbf
      simp only []
      go_upto_region 20 with fail
      have hx7 : RecAt wf g5 (0 + I * 6) ⟨(I : Int), t, u, d, o, h1⟩ := by
        have := (HT6.out.below Bf).lies.at (k := I) (by rw [List.length_set]; exact HIL.out.1)
        rwa [show (l.set I ⟨(I : Int), t, u, d, o, h1⟩).getD I zeroR = ⟨(I : Int), t, u, d, o, h1⟩ from by simp [List.getD, HIL.out.1]] at this
      obtain ⟨x0, x1, x2, x3, x4, x5⟩ := hx7
      obtain ⟨y0, y1, y2, y3, y4, y5⟩ : RecAt wf bl (ol + I * 6) ⟨(I : Int), t1, u1, d1, o1, h1⟩ := by rw [← HI.out]; exact (HL6.out.below Bf).lies.at HIL.out.1
      simp only [Nat.zero_add] at x0 x1 x2 x3 x4 x5 y0 y1 y2 y3 y4 y5
      have NQ := fun w' => run_neqR ⟨(I : Int), t, u, d, o, h1⟩ ⟨(I : Int), t1, u1, d1, o1, h1⟩ w'
      have EQ := fun w' => neq_dig hDl1 hDl2 hDb1 hDb2 w'
      have LD1 : Hid (∀ w', (∃ k, w' = wf.drewN k) → w'.rangeAt gd1 0 (Bs D1)) := fun w' hw' => by obtain ⟨k, rfl⟩ := hw'; exact range_row (w := wf.drewN k) G1
      have LD2 : Hid (∀ w', (∃ k, w' = wf.drewN k) → w'.rangeAt gd2 0 (Bs D2)) := fun w' hw' => by obtain ⟨k, rfl⟩ := hw'; exact range_row (w := wf.drewN k) G2
      have sz1 : Hid ((Tryd.prog.info? 23).map (·.size) = some (Bs D1).length) := by show _ = _; rw [size_dig]; simp [Bs, hDl1]
      have sz2 : Hid ((Tryd.prog.info? 23).map (·.size) = some (Bs D2).length) := by show _ = _; rw [size_dig]; simp [Bs, hDl2]
      have h3 : recEq ⟨(I : Int), t, u, d, o, h1⟩ ⟨(I : Int), t1, u1, d1, o1, h1⟩ = true ∨ (recEq ⟨(I : Int), t, u, d, o, h1⟩ ⟨(I : Int), t1, u1, d1, o1, h1⟩ = false ∧ decide (D1 = D2) = true) ∨ (recEq ⟨(I : Int), t, u, d, o, h1⟩ ⟨(I : Int), t1, u1, d1, o1, h1⟩ = false ∧ decide (D1 = D2) = false ∧ (m2 != (I : Int)) = false) := by
        cases recEq ⟨(I : Int), t, u, d, o, h1⟩ ⟨(I : Int), t1, u1, d1, o1, h1⟩ with
        | true => exact .inl rfl
        | false =>
          by_cases hD : D1 = D2
          · exact .inr (.inl ⟨rfl, decide_eq_true hD⟩)
          · exact .inr (.inr ⟨rfl, decide_eq_false hD, by rw [HMT.out m2 HM2.out hD]; simp⟩)
      simp only [recA] at NQ
      have L6 := HL6.out.below Bf
      have HLF : Hid (RsL wf (some ⟨bl, ol, none⟩) n l) := L6
      have HKF : Hid (KOn wf) := HK6.out.below Bf HK6.out.pos
      have HBF2 : Hid (Below w.heap.size w wf) := below_more HB6.out Bf
      clear L6 Bf G1 G2 hDl1 hDl2 hDb1 hDb2 hDs1 hDs2 hns1 hns2 l1 l2 z1 z2 b1 b2
      rcases h3 with hh | ⟨hh, hh2⟩ | ⟨hh, hh2, hmf⟩
      all_goals rw [hh] at NQ
      all_goals try rw [hh2] at EQ
      all_goals first | rw [Bool.not_true] at NQ | rw [Bool.not_false] at NQ
      all_goals try first | rw [Bool.not_true] at EQ | rw [Bool.not_false] at EQ
      all_goals refine wp_region_quiet_lit (by kernel_rfl) (by kernel_rfl) ?_
      all_goals repeat (quiet_step (fail))
      all_goals try (refine BigFrame.wpQuiet_want rfl (fun K hK => quiet_load_row 23 (.tmp 21) rfl gd1 rfl (Bs D1) _ LD1.out Tryd.underlying23 rfl sz1.out (hK _ ?_)); clear hK K; simp only [Act.put, List.setIfInBounds_toArray, List.set_cons_zero, List.set_cons_succ])
      all_goals try (refine BigFrame.wpQuiet_want rfl (fun K hK => quiet_load_row 23 (.tmp 22) rfl gd2 rfl (Bs D2) _ LD2.out Tryd.underlying23 rfl sz2.out (hK _ ?_)); clear hK K; simp only [Act.put, List.setIfInBounds_toArray, List.set_cons_zero, List.set_cons_succ])
      all_goals repeat (quiet_step (fail))
      all_goals refine wpQuiet_nil ?_
      all_goals intro _ hw'
      all_goals obtain ⟨nq, hw''⟩ := hw'
      all_goals subst hw''
      all_goals have HLG : Hid (RsL (wf.drewN nq) (some ⟨bl, ol, none⟩) n l) := HLF.out.below (drewN_below (Below.refl _ _) nq)
      all_goals have HKG : Hid (KOn (wf.drewN nq)) := HKF.out.below (drewN_below (Below.refl _ _) nq) HKF.out.pos
      all_goals have HBG : Hid (Below w.heap.size w (wf.drewN nq)) := drewN_below HBF2.out nq
      all_goals generalize wf.drewN nq = wg at HLG HKG HBG ⊢
      all_goals clear x0 x1 x2 x3 x4 x5 y0 y1 y2 y3 y4 y5 NQ EQ LD1 LD2 HLF HKF HBF2
      all_goals have hIc : (I : Int) ≤ (c : Int) := by have := HNC.out; omega
      all_goals go_wp2_with (at_builtin; refine wpList_append_recs _ rfl _ _ rfl wg.heap.size (.slice none 0 0) [] (l.take I) (some ⟨bl, ol, none⟩) I c rfl rfl HTK.out.1 (rown_nil _ _) (HLG.out.lies.take I) (fun h => by cases h) HTK.out.2 (Nat.le_refl _) ?_)
      all_goals intro vh wh ho5 hg5
      all_goals have onh : OnR wg vh ([] ++ l.take I) wh := (OnR.nil wg).two ho5 hg5
      all_goals clear ho5 hg5
      all_goals rw [List.nil_append] at onh
      all_goals obtain ⟨qh, ch, rfl, hch, hmh, hqh⟩ := onh.own.form
      all_goals rw [← HTK.out.1] at onh ⊢
      all_goals have HOH : Hid _ := onh
      all_goals have HLH : Hid (RsL wh (some ⟨bl, ol, none⟩) n l) := HLG.out.below onh.bel
      all_goals clear onh hch hmh hqh
      all_goals rcases (show (I1 = n ∧ c = n) ∨ (I1 = n ∧ ¬ c = n) ∨ (¬ I1 = n ∧ ¬ c = I1) from by have := HNC.out; have := HI1.out; omega) with ⟨k1, k2⟩ | ⟨k1, k2⟩ | ⟨k1, k2⟩
      ·
        have eL : (n : Int) - 1 = (I : Int) := by have := HI1.out; omega
        have CX := fun w' q' c' hk' h' => HCX.out w' q' c' (-1) (HMA.out k1) hk' h'
        have hin : RsIn wh (some ⟨bl, ol, none⟩) (l.drop I1) := fun hp => by have := HDL.out; omega
        have hd0 : (l.drop I1).length = 0 := by have := HDL.out; omega
        have HD0 : Hid _ := hd0
        have hI1c : (I1 : Int) ≤ (c : Int) := by omega
        have hI1n : (I1 : Int) ≤ (n : Int) := by omega
        obtain rfl := k1
        obtain rfl := k2.symm
        clear hd0
        go_wp2_with (at_builtin; refine wpList_append_recs _ rfl _ _ rfl wg.heap.size (.slice qh I ch) (l.take I) (l.drop I1) _ _ _ rfl rfl HD0.out.symm HOH.out.own hin (fun h => by cases h) HLE.out HOH.out.bel.size ?_)
        intro vi wi ho5 hg5
        have oni := HOH.out.two ho5 hg5
        clear ho5 hg5 hin
        rw [HL2.out] at oni
        obtain ⟨qi, ci, rfl, hci, hmi, hqi⟩ := oni.own.form
        have CY := CX wi qi ci (HKG.out.below oni.bel HKG.out.pos) oni.own.recs
        have BI := below_more HBG.out oni.bel
        clear CX oni hci hmi hqi
        go_wp2_with (go_at_call 18; refine CY.mono ?_; rintro e wj ⟨rfl, hbj⟩)
        go_ret
        exact ⟨rfl, below_more BI hbj⟩
      ·
        have eL : (n : Int) - 1 = (I : Int) := by have := HI1.out; omega
        have CX := fun w' q' c' hk' h' => HCX.out w' q' c' (-1) (HMA.out k1) hk' h'
        have hin : RsIn wh (some ⟨bl, ol + I1 * 6, none⟩) (l.drop I1) := HLH.out.lies.drop I1
        have hd0 : (l.drop I1).length = 0 := by have := HDL.out; omega
        have HD0 : Hid _ := hd0
        have hcI1 : ¬ c = I1 := by omega
        have hI1c : (I1 : Int) ≤ (c : Int) := by have := HNC.out; omega
        have hI1n : (I1 : Int) ≤ (n : Int) := by omega
        obtain rfl := k1
        clear hd0
        go_wp2_with (at_builtin; refine wpList_append_recs _ rfl _ _ rfl wg.heap.size (.slice qh I ch) (l.take I) (l.drop I1) _ _ _ rfl rfl HD0.out.symm HOH.out.own hin (fun h => by cases h) HLE.out HOH.out.bel.size ?_)
        intro vi wi ho5 hg5
        have oni := HOH.out.two ho5 hg5
        clear ho5 hg5 hin
        rw [HL2.out] at oni
        obtain ⟨qi, ci, rfl, hci, hmi, hqi⟩ := oni.own.form
        have CY := CX wi qi ci (HKG.out.below oni.bel HKG.out.pos) oni.own.recs
        have BI := below_more HBG.out oni.bel
        clear CX oni hci hmi hqi
        go_wp2_with (go_at_call 18; refine CY.mono ?_; rintro e wj ⟨rfl, hbj⟩)
        go_ret
        exact ⟨rfl, below_more BI hbj⟩
      ·
        have eL : ((I : Int) == (n : Int) - 1) = false := by have := HI1.out; simpa using fun e : (I : Int) = (n : Int) - 1 => k1 (by omega)
        have CX := fun w' q' c' hk' h' => HCX.out w' q' c' (I : Int) (HMB.out k1) hk' h'
        have hin : RsIn wh (some ⟨bl, ol + I1 * 6, none⟩) (l.drop I1) := HLH.out.lies.drop I1
        have HD0 : Hid ((l.drop I1).length = n - I1) := HDL.out
        have hI1c : (I1 : Int) ≤ (c : Int) := by have := HNC.out; have := HI1.out; omega
        have hI1n : (I1 : Int) ≤ (n : Int) := by have := HI1.out; omega
        go_wp2_with (at_builtin; refine wpList_append_recs _ rfl _ _ rfl wg.heap.size (.slice qh I ch) (l.take I) (l.drop I1) _ _ _ rfl rfl HD0.out.symm HOH.out.own hin (fun h => by cases h) HLE.out HOH.out.bel.size ?_)
        intro vi wi ho5 hg5
        have oni := HOH.out.two ho5 hg5
        clear ho5 hg5 hin
        rw [HL2.out] at oni
        obtain ⟨qi, ci, rfl, hci, hmi, hqi⟩ := oni.own.form
        have CY := CX wi qi ci (HKG.out.below oni.bel HKG.out.pos) oni.own.recs
        have BI := below_more HBG.out oni.bel
        clear CX oni hci hmi hqi
        go_wp2_with (go_at_call 18; refine CY.mono ?_; rintro e wj ⟨rfl, hbj⟩)
        go_ret
        exact ⟨rfl, below_more BI hbj⟩
      ·
        have eL : (n : Int) - 1 = (I : Int) := by have := HI1.out; omega
        have CX := fun w' q' c' hk' h' => HCX.out w' q' c' (-1) (HMA.out k1) hk' h'
        have hin : RsIn wh (some ⟨bl, ol, none⟩) (l.drop I1) := fun hp => by have := HDL.out; omega
        have hd0 : (l.drop I1).length = 0 := by have := HDL.out; omega
        have HD0 : Hid _ := hd0
        have hI1c : (I1 : Int) ≤ (c : Int) := by omega
        have hI1n : (I1 : Int) ≤ (n : Int) := by omega
        obtain rfl := k1
        obtain rfl := k2.symm
        clear hd0
        go_wp2_with (at_builtin; refine wpList_append_recs _ rfl _ _ rfl wg.heap.size (.slice qh I ch) (l.take I) (l.drop I1) _ _ _ rfl rfl HD0.out.symm HOH.out.own hin (fun h => by cases h) HLE.out HOH.out.bel.size ?_)
        intro vi wi ho5 hg5
        have oni := HOH.out.two ho5 hg5
        clear ho5 hg5 hin
        rw [HL2.out] at oni
        obtain ⟨qi, ci, rfl, hci, hmi, hqi⟩ := oni.own.form
        have CY := CX wi qi ci (HKG.out.below oni.bel HKG.out.pos) oni.own.recs
        have BI := below_more HBG.out oni.bel
        clear CX oni hci hmi hqi
        go_wp2_with (go_at_call 18; refine CY.mono ?_; rintro e wj ⟨rfl, hbj⟩)
        go_ret
        exact ⟨rfl, below_more BI hbj⟩
      ·
        have eL : (n : Int) - 1 = (I : Int) := by have := HI1.out; omega
        have CX := fun w' q' c' hk' h' => HCX.out w' q' c' (-1) (HMA.out k1) hk' h'
        have hin : RsIn wh (some ⟨bl, ol + I1 * 6, none⟩) (l.drop I1) := HLH.out.lies.drop I1
        have hd0 : (l.drop I1).length = 0 := by have := HDL.out; omega
        have HD0 : Hid _ := hd0
        have hcI1 : ¬ c = I1 := by omega
        have hI1c : (I1 : Int) ≤ (c : Int) := by have := HNC.out; omega
        have hI1n : (I1 : Int) ≤ (n : Int) := by omega
        obtain rfl := k1
        clear hd0
        go_wp2_with (at_builtin; refine wpList_append_recs _ rfl _ _ rfl wg.heap.size (.slice qh I ch) (l.take I) (l.drop I1) _ _ _ rfl rfl HD0.out.symm HOH.out.own hin (fun h => by cases h) HLE.out HOH.out.bel.size ?_)
        intro vi wi ho5 hg5
        have oni := HOH.out.two ho5 hg5
        clear ho5 hg5 hin
        rw [HL2.out] at oni
        obtain ⟨qi, ci, rfl, hci, hmi, hqi⟩ := oni.own.form
        have CY := CX wi qi ci (HKG.out.below oni.bel HKG.out.pos) oni.own.recs
        have BI := below_more HBG.out oni.bel
        clear CX oni hci hmi hqi
        go_wp2_with (go_at_call 18; refine CY.mono ?_; rintro e wj ⟨rfl, hbj⟩)
        go_ret
        exact ⟨rfl, below_more BI hbj⟩
      ·
        have eL : ((I : Int) == (n : Int) - 1) = false := by have := HI1.out; simpa using fun e : (I : Int) = (n : Int) - 1 => k1 (by omega)
        have CX := fun w' q' c' hk' h' => HCX.out w' q' c' (I : Int) (HMB.out k1) hk' h'
        have hin : RsIn wh (some ⟨bl, ol + I1 * 6, none⟩) (l.drop I1) := HLH.out.lies.drop I1
        have HD0 : Hid ((l.drop I1).length = n - I1) := HDL.out
        have hI1c : (I1 : Int) ≤ (c : Int) := by have := HNC.out; have := HI1.out; omega
        have hI1n : (I1 : Int) ≤ (n : Int) := by have := HI1.out; omega
        go_wp2_with (at_builtin; refine wpList_append_recs _ rfl _ _ rfl wg.heap.size (.slice qh I ch) (l.take I) (l.drop I1) _ _ _ rfl rfl HD0.out.symm HOH.out.own hin (fun h => by cases h) HLE.out HOH.out.bel.size ?_)
        intro vi wi ho5 hg5
        have oni := HOH.out.two ho5 hg5
        clear ho5 hg5 hin
        rw [HL2.out] at oni
        obtain ⟨qi, ci, rfl, hci, hmi, hqi⟩ := oni.own.form
        have CY := CX wi qi ci (HKG.out.below oni.bel HKG.out.pos) oni.own.recs
        have BI := below_more HBG.out oni.bel
        clear CX oni hci hmi hqi
        go_wp2_with (go_at_call 18; refine CY.mono ?_; rintro e wj ⟨rfl, hbj⟩)
        go_ret
        exact ⟨rfl, below_more BI hbj⟩
      ·
        have eL : (n : Int) - 1 = (I : Int) := by have := HI1.out; omega
        have CX := fun w' q' c' hk' h' => HCX.out w' q' c' (-1) (HMA.out k1) hk' h'
        have hin : RsIn wh (some ⟨bl, ol, none⟩) (l.drop I1) := fun hp => by have := HDL.out; omega
        have hd0 : (l.drop I1).length = 0 := by have := HDL.out; omega
        have HD0 : Hid _ := hd0
        have hI1c : (I1 : Int) ≤ (c : Int) := by omega
        have hI1n : (I1 : Int) ≤ (n : Int) := by omega
        obtain rfl := k1
        obtain rfl := k2.symm
        clear hd0
        go_wp2_with (at_builtin; refine wpList_append_recs _ rfl _ _ rfl wg.heap.size (.slice qh I ch) (l.take I) (l.drop I1) _ _ _ rfl rfl HD0.out.symm HOH.out.own hin (fun h => by cases h) HLE.out HOH.out.bel.size ?_)
        intro vi wi ho5 hg5
        have oni := HOH.out.two ho5 hg5
        clear ho5 hg5 hin
        rw [HL2.out] at oni
        obtain ⟨qi, ci, rfl, hci, hmi, hqi⟩ := oni.own.form
        have CY := CX wi qi ci (HKG.out.below oni.bel HKG.out.pos) oni.own.recs
        have BI := below_more HBG.out oni.bel
        clear CX oni hci hmi hqi
        go_wp2_with (go_at_call 18; refine CY.mono ?_; rintro e wj ⟨rfl, hbj⟩)
        go_ret
        exact ⟨rfl, below_more BI hbj⟩
      ·
        have eL : (n : Int) - 1 = (I : Int) := by have := HI1.out; omega
        have CX := fun w' q' c' hk' h' => HCX.out w' q' c' (-1) (HMA.out k1) hk' h'
        have hin : RsIn wh (some ⟨bl, ol + I1 * 6, none⟩) (l.drop I1) := HLH.out.lies.drop I1
        have hd0 : (l.drop I1).length = 0 := by have := HDL.out; omega
        have HD0 : Hid _ := hd0
        have hcI1 : ¬ c = I1 := by omega
        have hI1c : (I1 : Int) ≤ (c : Int) := by have := HNC.out; omega
        have hI1n : (I1 : Int) ≤ (n : Int) := by omega
        obtain rfl := k1
        clear hd0
        go_wp2_with (at_builtin; refine wpList_append_recs _ rfl _ _ rfl wg.heap.size (.slice qh I ch) (l.take I) (l.drop I1) _ _ _ rfl rfl HD0.out.symm HOH.out.own hin (fun h => by cases h) HLE.out HOH.out.bel.size ?_)
        intro vi wi ho5 hg5
        have oni := HOH.out.two ho5 hg5
        clear ho5 hg5 hin
        rw [HL2.out] at oni
        obtain ⟨qi, ci, rfl, hci, hmi, hqi⟩ := oni.own.form
        have CY := CX wi qi ci (HKG.out.below oni.bel HKG.out.pos) oni.own.recs
        have BI := below_more HBG.out oni.bel
        clear CX oni hci hmi hqi
        go_wp2_with (go_at_call 18; refine CY.mono ?_; rintro e wj ⟨rfl, hbj⟩)
        go_ret
        exact ⟨rfl, below_more BI hbj⟩
      ·
        have eL : ((I : Int) == (n : Int) - 1) = false := by have := HI1.out; simpa using fun e : (I : Int) = (n : Int) - 1 => k1 (by omega)
        have CX := fun w' q' c' hk' h' => HCX.out w' q' c' (I : Int) (HMB.out k1) hk' h'
        have hin : RsIn wh (some ⟨bl, ol + I1 * 6, none⟩) (l.drop I1) := HLH.out.lies.drop I1
        have HD0 : Hid ((l.drop I1).length = n - I1) := HDL.out
        have hI1c : (I1 : Int) ≤ (c : Int) := by have := HNC.out; have := HI1.out; omega
        have hI1n : (I1 : Int) ≤ (n : Int) := by have := HI1.out; omega
        go_wp2_with (at_builtin; refine wpList_append_recs _ rfl _ _ rfl wg.heap.size (.slice qh I ch) (l.take I) (l.drop I1) _ _ _ rfl rfl HD0.out.symm HOH.out.own hin (fun h => by cases h) HLE.out HOH.out.bel.size ?_)
        intro vi wi ho5 hg5
        have oni := HOH.out.two ho5 hg5
        clear ho5 hg5 hin
        rw [HL2.out] at oni
        obtain ⟨qi, ci, rfl, hci, hmi, hqi⟩ := oni.own.form
        have CY := CX wi qi ci (HKG.out.below oni.bel HKG.out.pos) oni.own.recs
        have BI := below_more HBG.out oni.bel
        clear CX oni hci hmi hqi
        go_wp2_with (go_at_call 18; refine CY.mono ?_; rintro e wj ⟨rfl, hbj⟩)
        go_ret
        exact ⟨rfl, below_more BI hbj⟩
  · have hne1 : ((E1 : Int) != 0) = true := by simpa using hE0
    go_wp2
    go_ret
    exact ⟨rfl, HBW.out⟩
theorem turned_w (v : Value) (l : List RecV) (t : Int) (u d : ByteArray) (o i : Int) (w : World) (hk : KOn w) (hr : Recs w v l) (_ : (Lit.int .i64 t).wf = true) (_ : u.size ≤ maxLen) (_ : d.size ≤ maxLen) (_ : (Lit.int .i64 o).wf = true) (_ : (Lit.int .i64 i).wf = true) :
    Calls Tryd.prog 9 #[v, .int .i64 t, .string u, .string d, .int .i64 o, .int .i64 i] w fun e w' => e = .returned (.bool true) ∧ Below w.heap.size w w' := by
  obtain ⟨q, c, rfl, h1, h2, h3, h4⟩ := hr.lies
  exact law_turned q l.length c l t u d o i w hk ⟨rfl, h1⟩ h4 h2 (by unfold maxLen at h3; omega)
end Go.Proofs.YtoagaddciapmkaaDoor
