/-
  The document's Of: the log of a disk, read.
-/
import Derived.Test.YtnajjfdbmdjcbaaJ09
import Derived.Test.YtnajjfdbmdjcbaaJ08
import Derived.Laws.AppendOwnNone
import Derived.Test.YtnajjfdbmdjcbaaJ03
import Derived.Deep.CutRange
import Derived.Deep.RegionHeld3
namespace Go.Proofs.Ytnajjfdbmdjcbaa

def lastK (P : Acts) : Nat → Nat
  | 0 => 0
  | k + 1 => if (P.getD k (false, 0, [])).1 = true then k else lastK P k
def lastN (P : Acts) : Nat := lastK P P.length
/-- How many records are sure. -/
def sureN (P : Acts) : Nat := begins (P.take (lastN P))
theorem lastK_spec (P : Acts) : ∀ k, k ≤ P.length → lastK P k = 0 ∨ (lastK P k < k ∧ ∃ y, P[lastK P k]? = some y ∧ y.1 = true)
  | 0, _ => .inl rfl
  | k + 1, hk => by
    unfold lastK
    by_cases h : (P.getD k (false, 0, [])).1 = true
    · rw [if_pos h]
      right
      refine ⟨by omega, _, List.getElem?_eq_getElem (show k < P.length by omega), ?_⟩
      rw [List.getD_eq_getElem?_getD, List.getElem?_eq_getElem (show k < P.length by omega)] at h
      exact h
    · rw [if_neg h]
      rcases lastK_spec P k (by omega) with h1 | ⟨h1, h2⟩
      · exact .inl h1
      · exact .inr ⟨by omega, h2⟩
theorem Recs.last {E p : Nat} {ys : List Nat} {l : List (List Nat)} {a la : Nat} {t : List Nat} (h : Recs E p ys l a la t) : ∀ s r, ¬ IsRec E la t s r := by
  induction h with
  | stop h => exact h
  | next _ _ ih => exact ih
theorem epoch_take {xs ys : List Nat} (h : xs.take 128 = ys.take 128) : epochN xs = epochN ys := by
  have g : ∀ j, j < 128 → xs.getD j 0 = ys.getD j 0 := fun j hj => by
    have := congrArg (fun l => l.getD j 0) h
    simpa [List.getD, List.getElem?_take, hj] using this
  unfold epochN
  rw [g 0 (by omega), g 1 (by omega), g 2 (by omega), g 3 (by omega), g 4 (by omega), g 5 (by omega), g 6 (by omega), g 7 (by omega), h]
theorem now_none (Y : List Nat) (s : Nat) : nowN Y [] (s : Int) = secN Y s := by simp [nowN, nowK]
theorem sec_of_log {count : Int} {Y : List Nat} (h : HasLog count Y []) {j : Nat} (hj : j < 64) : secAt (logN Y []) j = secN Y (16 + j) := by
  rw [show secAt (logN Y []) j = nowN Y [] ((16 + j : Nat) : Int) from sec_logK (now_len h) hj]
  exact now_none Y (16 + j)
theorem ar3 {a i : Nat} (h : (i + 1) * 128 ≤ (63 - a) * 128) : a + i < 63 := by
  have := Nat.le_of_mul_le_mul_right h (by decide)
  omega
theorem torn_log {count : Int} {data D Y : List Nat} {W : Puts} {E a la a' p' : Nat} {l rs : List (List Nat)} {t F t' : List Nat} {B : Acts} (n : Nat) (keep : List Bool) (h : HasLog count data []) (hE : epochN (logN data []) = E) (hrec : Recs E 0 ((logN data []).drop 128) l a la t) (hA : Adds E a la t rs B F a' p' t')
    (hdo : doAny count data [] (B.take n) = .ok (D, W)) (hY : crashN D W keep = Y) :
    HasLog count Y [] ∧ epochN (logN Y []) = E ∧ ∃ j a2 la2 t2, j ≤ rs.length ∧ sureN (B.take n) ≤ j ∧ Recs E 0 ((logN Y []).drop 128) (l ++ rs.take j) a2 la2 t2 := by
  have hb := h.big
  have hE32 : E < 4294967296 := hE ▸ epochN_lt _
  have hokD : Okay count D W := doAny_okay hdo
  have hY0 : HasLog count Y [] := ⟨hY ▸ okay_crashed hokD keep, h.big⟩
  rw [doAny_ok _ h.ok] at hdo
  have l1 := log_len h
  have l2 := log_len hY0
  obtain ⟨f1, f2, hla⟩ := hrec.facts (n := 63) (by rw [List.length_drop, l1]) (by omega)
  have htl : t.length = (63 - a) * 128 := by rw [f2]; exact drop_len (by rw [List.length_drop, l1])
  obtain ⟨hnews, hFl, _⟩ := hA.to
  have hFt := hnews.news.len.2
  have cand : ∀ s : Nat, (s : Int) < count → Cand data (B.take n) s (secN Y s) := fun s hs => by rw [← hY]; exact crash_cand h.ok hdo keep s hs
  -- no write ahead of the log's end
  have before : ∀ j, j ≤ a → secAt (logN Y []) j = secAt (logN data []) j := fun j hj => by
    rw [sec_of_log hY0 (by omega), sec_of_log h (by omega)]
    rcases cand (16 + j) (by omega) with h1 | h1
    · exact h1
    · exfalso
      obtain ⟨i, _, h3, _⟩ := hA.puts _ (List.mem_of_mem_take h1) rfl
      simp only at h3
      omega
  have htake : (logN Y []).take ((a + 1) * 128) = (logN data []).take ((a + 1) * 128) := take_of_secs (by rw [l2]; exact Nat.mul_le_mul_right 128 (by omega)) (by rw [l1]; exact Nat.mul_le_mul_right 128 (by omega)) (fun i hi => before i (by omega))
  have hep : epochN (logN Y []) = E := by
    rw [← hE]
    apply epoch_take
    exact take_take_le htake (Nat.le_trans (by decide : 128 ≤ 1 * 128) (Nat.mul_le_mul_right 128 (by omega)))
  have htk : ((logN Y []).drop 128).take (a * 128) = ((logN data []).drop 128).take (a * 128) := by
    apply drop_take_eq
    rw [show 128 + a * 128 = (a + 1) * 128 from by rw [Nat.add_mul, Nat.one_mul, Nat.add_comm]]
    exact htake
  obtain ⟨y, hy⟩ : ∃ y, ((logN Y []).drop 128).drop (a * 128) = y := ⟨_, rfl⟩
  have hyl : y.length = (63 - a) * 128 := by rw [← hy]; exact drop_len (by rw [List.length_drop, l2])
  have secy : ∀ i, a + i < 63 → secAt y i = secN Y (17 + a + i) := fun i hi => by
    rw [← hy, sec_drop, show (128 : Nat) = 1 * 128 from rfl, sec_drop, sec_of_log hY0 (by omega), show 16 + (1 + (a + i)) = 17 + a + i from by omega]
  have sect : ∀ i, a + i < 63 → secAt t i = secN data (17 + a + i) := fun i hi => by
    rw [f2, sec_drop, show (128 : Nat) = 1 * 128 from rfl, sec_drop, sec_of_log h (by omega), show 16 + (1 + (a + i)) = 17 + a + i from by omega]
  have uniq : ∀ i x, (false, ((17 + a + i : Nat) : Int), x) ∈ B → i < secsOf rs ∧ x = secAt F i := fun i x hx => by
    obtain ⟨i', h2, h3, h4⟩ := hA.puts _ hx rfl
    simp only at h3 h4
    obtain rfl : i = i' := by omega
    exact ⟨h2, h4⟩
  have hmix : Mix t F y := by
    refine ⟨by rw [hyl, htl], fun i hi => ?_⟩
    rw [htl] at hi
    have hi63 := ar3 hi
    rw [secy i hi63, sect i hi63]
    rcases cand (17 + a + i) (by omega) with h1 | h1
    · exact .inl h1
    · obtain ⟨h2, h3⟩ := uniq i _ (List.mem_of_mem_take h1)
      exact .inr ⟨by rw [hFl]; exact Nat.mul_le_mul_right 128 h2, h3⟩
  obtain ⟨j, a2, la2, t2, hj, hr2, hlow⟩ := torn hnews.news hE32 hla hrec.last (N := 63 - a) htl hmix
  refine ⟨hY0, hep, j, a + a2, la2, t2, hj, ?_, hrec.swap htk (by rw [hy]; exact hr2)⟩
  -- what is sure
  unfold sureN
  rcases lastK_spec (B.take n) (B.take n).length (Nat.le_refl _) with h0 | ⟨hlt, yf, hyf, hyt⟩
  · have e0 : lastN (B.take n) = 0 := h0
    rw [e0]
    exact Nat.zero_le _
  · obtain ⟨f, hf⟩ : ∃ f, lastN (B.take n) = f := ⟨_, rfl⟩
    have hf' : lastK (B.take n) (B.take n).length = f := hf
    rw [hf'] at hlt hyf
    rw [hf]
    have hfn : f < n := by rw [List.length_take] at hlt; omega
    have hBf : B[f]? = some yf := by rw [List.getElem?_take_of_lt hfn] at hyf; exact hyf
    obtain ⟨c1, c2⟩ := hA.flush hE32 hla f yf hBf hyt
    have etk : (B.take n).take f = B.take f := by rw [List.take_take, Nat.min_eq_left (by omega)]
    rw [etk]
    refine hlow _ c1 (fun i hi => ?_)
    have hin := c2 i hi
    have hi2 := (uniq i _ (List.mem_of_mem_take hin)).1
    have hi63 : a + i < 63 := by
      rw [hFl, htl] at hFt
      have := Nat.le_of_mul_le_mul_right hFt (by decide)
      omega
    rw [secy i hi63, ← hY]
    have esp : B.take n = B.take f ++ yf :: (B.take n).drop (f + 1) := by
      have h1 := List.take_append_drop f (B.take n)
      rw [etk, List.drop_eq_getElem_cons hlt] at h1
      have h2 : (B.take n)[f]'hlt = yf := (List.getElem?_eq_some_iff.1 hyf).2
      rw [h2] at h1
      exact h1.symm
    refine crash_sure (B1 := B.take f) (B2 := (B.take n).drop (f + 1)) (y := yf) h.ok hyt (by rw [← esp]; exact hdo) keep (17 + a + i) (by omega) _ (fun x hx => ?_) hin
    rw [← esp] at hx
    exact (uniq i x (List.mem_of_mem_take hx)).2
end Go.Proofs.Ytnajjfdbmdjcbaa
namespace Go.Proofs.Ytnajjfdbmdjcbaa
open Go.RowKit Go.WideShapes

/-- A row of bytes of the call's own: nil, or a row with room perhaps. -/
structure RowG (w : World) (base : Nat) (v : Value) (xs : List Nat) : Prop where
  own : w.ownsRow base 5 1 v xs.length (Bs xs)
  bytes : ∀ c ∈ xs, c < 256
theorem RowG.form {w : World} {base : Nat} {v : Value} {xs : List Nat} (h : RowG w base v xs) : ∃ p c, v = .slice p xs.length c ∧ BIn w p xs ∧ xs.length ≤ c ∧ c ≤ maxLen ∧ (p = none → c = 0) := by
  rcases h.own.2 with ⟨hv, hn⟩ | ⟨g, cap, cur, hv, hb, hg, hle, hmax, hsz, htk⟩
  · exact ⟨none, 0, by rw [hv, hn], ⟨fun h => by omega, h.bytes⟩, by omega, by unfold maxLen; omega, fun _ => rfl⟩
  · subst hv
    refine ⟨_, cap, rfl, ⟨fun _ => ⟨g, 0, rfl, fun i hi => ?_⟩, h.bytes⟩, hle, hmax, fun h => by cases h⟩
    rw [Nat.zero_add, h.own.cellAt i (by omega)]
    simp [Bs, List.getD, List.getElem?_eq_getElem hi]
theorem RowG.row {w : World} {base : Nat} {v : Value} {xs : List Nat} (h : RowG w base v xs) : Row w v xs := by
  obtain ⟨p, c, h1, h2, h3, h4, h5⟩ := h.form
  exact ⟨p, c, h1, h2, h3, h4, h5⟩
theorem RowG.keepB {w w' : World} {base : Nat} {v : Value} {xs : List Nat} (h : RowG w base v xs) (hk : ∀ k cur, base ≤ k → w.heap[k]? = some (.cells cur 5 (0, 0)) → w'.heap[k]? = w.heap[k]?) : RowG w' base v xs := by
  refine ⟨⟨h.own.1, ?_⟩, h.bytes⟩
  rcases h.own.2 with h' | ⟨g, cap, cur, h1, h2, h3, h4⟩
  · exact .inl h'
  · exact .inr ⟨g, cap, cur, h1, h2, (hk g cur h2 h3).trans h3, h4⟩
theorem RowG.below {w w' : World} {base : Nat} {v : Value} {xs : List Nat} (h : RowG w base v xs) (hb : Below w.heap.size w w') : RowG w' base v xs := h.keepB fun k _ _ e => hb.block k (lt_heap e)
theorem RowG.mono {w : World} {base base' : Nat} {v : Value} {xs : List Nat} (h : RowG w base v xs) (hb : base' ≤ base) : RowG w base' v xs := by
  refine ⟨⟨h.own.1, ?_⟩, h.bytes⟩
  rcases h.own.2 with h' | ⟨g, cap, cur, h1, h2, h3⟩
  · exact .inl h'
  · exact .inr ⟨g, cap, cur, h1, Nat.le_trans hb h2, h3⟩

theorem wpList_append_row (w : World) {ops : Array Oper} {rest : List Oper} {o : Oper} {a : Act} {Q : Exit → Act → World → Prop} (hgd : o.guard = none) (s x : Operand)
    (ho : o.op = .call { callee := .builtin .append, args := #[s, x], argTypes := #[22, 22] }) (base : Nat) (v : Value) (xs ys : List Nat) (p : Option Addr) (m c : Nat) (hs : a.eval s = v) (hx : a.eval x = .slice p m c) (hm : m = ys.length)
    (hown : w.ownsRow base 5 1 v xs.length (Bs xs)) (hin : BIn w p ys) (hp : p = none → c = 0) (hlen : xs.length + ys.length ≤ 140737488355328) (hbase : base ≤ w.heap.size)
    (h : ∀ v' w', w'.ownsRow base 5 1 v' (xs ++ ys).length (Bs (xs ++ ys)) → w.grownBy w' v.ownBlock → wpList Try.prog ops Q rest (a.put o.dst v') w') : wpList Try.prog ops Q (o :: rest) a w := by
  subst hm
  refine wpList_plain hgd fun K hK => ?_
  obtain ⟨i0, hi, hz0, hz1, hz2⟩ := info_parts info_u8
  obtain ⟨v', w', hr, h2, h3⟩ := run_append_row (P := Try.prog) (tb := 22) (eb := 5) Try.underlying22 hi hz0 hz1 hz2 base o.type v xs ys p c hown hin hp hlen hbase
  unfold Oper.wp execOp
  simp only [ho, resolve, invoke, builtin, Sem.run_bind, Sem.run_pure, Result.andThen_ok, List.map_toArray, List.map_cons, List.map_nil, hs, hx, hr]
  exact hK _ _ (h v' w' h2 h3)
set_option maxRecDepth 20000 in
set_option maxHeartbeats 400000 in
theorem rbytes_any (p : Option Addr) (c n : Nat) (xs : List Nat) (w : World) (hn : n = xs.length) (hb : BIn w p xs) (hp : p = none → c = 0) (hl : xs.length ≤ 140737488355328) :
    Calls Try.prog 53 #[.slice p n c] w fun e w' => ∃ v, e = .returned v ∧ RowG w' w.heap.size v xs ∧ Below w.heap.size w w' := by
  have HB : Hid (∀ c ∈ xs, c < 256) := hb.2
  go_enter Try.func53, Try.ntmps53
  go_wp2_with (at_builtin; refine wpList_append_row _ rfl _ _ rfl w.heap.size (.slice none 0 0) [] xs p n c rfl rfl hn (World.ownsRow_nil _ _ _ _) hb hp (by simpa using hl) (Nat.le_refl _) ?_)
  intro v' w' hown hgrow
  have hb1 : Below w.heap.size w w' := (Below.refl _ _).grown hgrow (Nat.le_refl _) (fun k hk => by simp [Value.ownBlock] at hk)
  have HO : Hid (w'.ownsRow w.heap.size 5 1 v' xs.length (Bs xs)) := hown
  clear hb hown hgrow
  go_wp2
  go_ret
  exact ⟨_, rfl, ⟨HO.out, HB.out⟩, hb1⟩

set_option maxRecDepth 4000 in
set_option maxRecDepth 20000 in
set_option maxHeartbeats 2000000 in
theorem may_any (v : Value) (count : Int) (data : List Nat) (ws : Puts) (w : World) (hd : DiskIn w v count data ws) (b : Bool) (hbo : b = true ↔ Okay count data ws) :
    Calls Try.prog 70 #[v] w fun e w' => e = .returned (.bool b) ∧ Below w.heap.size w w' := by
  obtain ⟨p, c, q, m, rfl, hb, hc, hcm, hp, hq, hm, hmm, hqn⟩ := hd.parts
  have hcount := i64_bounds hd.count_wf
  have HBO : Hid _ := hbo
  have hwf := hd.puts_wf
  have HWF : Hid (∀ y ∈ ws, (Lit.int .i64 y.1).wf = true) := hwf
  clear hd hb hp hqn hbo hwf
  unfold maxLen at hcm hmm
  have hno : ¬ Okay count data ws → b = false := fun h => by
    cases b with
    | false => rfl
    | true => exact absurd (HBO.out.1 rfl) h
  have HNO : Hid _ := hno
  clear hno
  by_cases h1 : 1 ≤ count
  · by_cases h1' : count ≤ 4096
    · by_cases h2 : (data.length : Int) = count * 128
      · by_cases h3 : ws.length ≤ 4096
        · have h2b : ((data.length : Int) != count * 128) = false := by simpa using h2
          have H2 : Hid ((data.length : Int) = count * 128) := h2
          clear h2
          go_enter Try.func70, Try.ntmps70
          go_wp2
          go_loopw [3] (fun i wr => ∃ k : Nat, k ≤ ws.length ∧ i = .int .i64 k ∧ Hid (GoodK count ws k) ∧ Below (w.heap.size + 1) (w.alloc (.cells #[.int .i64 count, .slice p data.length c, .slice q ws.length m] 25)) wr) (fun i _ => ws.length - (intOf i).toNat)
          case atStart => exact ⟨0, by omega, rfl, fun i hi => absurd hi (by omega), Below.refl _ _⟩
          case round =>
            obtain ⟨k, hk, rfl, HG, hbel⟩ := hrel
            obtain ⟨hc0, hc1, hc2⟩ := box_cells hbel
            have hsz := box_size hbel
            by_cases hkl : k < ws.length
            · obtain ⟨b', o, rfl⟩ := hq.addr (by omega)
              obtain ⟨e1, pk, ck, e2, f1, f2⟩ := (hq.below (box_below hbel)).at' hkl
              clear hq
              have HS := GoodK.step (k := k) HG.out
              have HE := GoodK.bad (data := data) (k := k) (count := count) hkl
              have hsw := i64_bounds (HWF.out _ (getD_mem hkl))
              generalize ws.getD k (0, []) = y at *
              obtain ⟨s, xs⟩ := y
              have HS' : Hid _ := HS
              have HE' : Hid _ := HE
              clear HS HE
              simp only at e1 e2 f1 hsw
              by_cases g1 : 0 ≤ s
              · by_cases g1' : s < count
                · by_cases g2 : xs.length = 128
                  · have HG2 : Hid (GoodK count ws (k + 1)) := HS'.out ⟨g1, g1'⟩ g2
                    go_wp2
                    go_roundw
                    case rel => exact ⟨k + 1, by omega, by go_num, HG2, hbel.alloc (by omega) _⟩
                    case measure => simp [intOf]; omega
                  · have hf := HNO.out (HE'.out (fun h => g2 h.2))
                    subst hf
                    have hne : ((xs.length : Int) != 128) = true := by simp; omega
                    go_wp2
                    go_ret
                    exact ⟨rfl, box_below (hbel.alloc (by omega) _)⟩
                · have hf := HNO.out (HE'.out (fun h => g1' h.1.2))
                  subst hf
                  go_wp2
                  go_ret
                  exact ⟨rfl, box_below (hbel.alloc (by omega) _)⟩
              · have hf := HNO.out (HE'.out (fun h => g1 h.1.1))
                subst hf
                go_wp2
                go_ret
                exact ⟨rfl, box_below (hbel.alloc (by omega) _)⟩
            · obtain rfl : k = ws.length := by omega
              have ht : b = true := HBO.out.2 (GoodK.okay HG.out h1 h1' H2.out h3)
              subst ht
              clear HG
              go_wp2
              go_ret
              exact ⟨rfl, box_below hbel⟩
        · have hf := HNO.out (fun h => h3 h.few)
          subst hf
          have h2b : ((data.length : Int) != count * 128) = false := by simpa using h2
          clear h2
          go_enter Try.func70, Try.ntmps70
          go_wp2
          go_ret
          exact ⟨rfl, below_alloc _ _⟩
      · have hf := HNO.out (fun h => h2 h.len)
        subst hf
        have hne : ((data.length : Int) != count * 128) = true := by simpa using h2
        clear h2
        go_enter Try.func70, Try.ntmps70
        go_wp2
        go_ret
        exact ⟨rfl, below_alloc _ _⟩
    · have hf := HNO.out (fun h => h1' h.hi)
      subst hf
      go_enter Try.func70, Try.ntmps70
      go_wp2
      go_ret
      exact ⟨rfl, below_alloc _ _⟩
  · have hf := HNO.out (fun h => h1 h.lo)
    subst hf
    go_enter Try.func70, Try.ntmps70
    go_wp2
    go_ret
    exact ⟨rfl, below_alloc _ _⟩
end Go.Proofs.Ytnajjfdbmdjcbaa
namespace Go.Proofs.Ytnajjfdbmdjcbaa
open Go.RowKit Go.WideShapes
attribute [local go_sem ↓] Go.wp_at_zero Go.wp_at_succ

/-- The cells of writes, their bytes as the values vs. -/
def cellsV : Puts → List Value → List Value
  | y :: ws, v :: vs => .int .i64 y.1 :: v :: cellsV ws vs
  | _, _ => []
theorem cellsV_snoc (y : Int × List Nat) (v : Value) : ∀ (ws : Puts) (vs : List Value), vs.length = ws.length → cellsV (ws ++ [y]) (vs ++ [v]) = cellsV ws vs ++ [.int .i64 y.1, v]
  | [], [], _ => rfl
  | z :: ws, h :: gs, hl => by
    have := cellsV_snoc y v ws gs (by simpa using hl)
    simp [cellsV, this]
  | [], _ :: _, h => by simp at h
  | _ :: _, [], h => by simp at h
theorem cellsV_at : ∀ (ws : Puts) (vs : List Value) (i : Nat), vs.length = ws.length → i < ws.length → (cellsV ws vs)[i * 2]? = some (.int .i64 (ws.getD i (0, [])).1) ∧ (cellsV ws vs)[i * 2 + 1]? = some (vs.getD i undef)
  | y :: ws, v :: vs, 0, _, _ => ⟨rfl, rfl⟩
  | y :: ws, v :: vs, i + 1, h, hi => by
    have := cellsV_at ws vs i (by simpa using h) (by simpa using hi)
    rw [show (i + 1) * 2 = i * 2 + 1 + 1 from by omega]
    simpa [cellsV, List.getD] using this
  | [], _, _, _, h => by simp at h
  | _ :: _, [], _, h, _ => by simp at h
structure PutsG (w : World) (base : Nat) (v : Value) (ws : Puts) (vs : List Value) : Prop where
  len : vs.length = ws.length
  row : w.ownsRow base 41 2 v ws.length (cellsV ws vs)
  rows : ∀ i, i < ws.length → RowG w base (vs.getD i undef) (ws.getD i (0, [])).2
theorem putsG_nil (w : World) (base : Nat) : PutsG w base (.slice none 0 0) [] [] := ⟨rfl, World.ownsRow_nil _ _ _ _, fun i hi => absurd hi (by simp)⟩
theorem PutsG.lies {w : World} {base : Nat} {v : Value} {ws : Puts} {vs : List Value} (h : PutsG w base v ws vs) : ∃ q m, v = .slice q ws.length m ∧ PutsIn w q ws ∧ ws.length ≤ m ∧ m ≤ maxLen ∧ (q = none → m = 0) := by
  rcases h.row.2 with ⟨hv, hn⟩ | ⟨g, cap, cur, hv, hb, hg, hle, hmax, hsz, htk⟩
  · exact ⟨none, 0, by rw [hv, hn], fun h => by omega, by omega, by unfold maxLen; omega, fun _ => rfl⟩
  · subst hv
    refine ⟨_, cap, rfl, fun _ => ⟨g, 0, rfl, fun i hi => ?_⟩, hle, hmax, fun h => by cases h⟩
    obtain ⟨c0, c1⟩ := cellsV_at ws vs i h.len hi
    have e0 : w.cell? ⟨g, i * 2, none⟩ = some (.int .i64 (ws.getD i (0, [])).1) := by rw [h.row.cellAt _ (by omega), c0]
    have e1 : w.cell? ⟨g, i * 2 + 1, none⟩ = some (vs.getD i undef) := by rw [h.row.cellAt _ (by omega), c1]
    exact ⟨by rw [Nat.zero_add]; exact e0, _, by rw [Nat.zero_add]; exact e1, (h.rows i hi).row⟩
theorem PutsG.keepB {w w' : World} {base : Nat} {v : Value} {ws : Puts} {vs : List Value} (h : PutsG w base v ws vs) (hk : ∀ (k : Nat) (cur : Array Value) (t : TypeId), t = 5 ∨ t = 41 → base ≤ k → w.heap[k]? = some (.cells cur t (0, 0)) → w'.heap[k]? = w.heap[k]?) : PutsG w' base v ws vs := by
  refine ⟨h.len, ⟨h.row.1, ?_⟩, fun i hi => (h.rows i hi).keepB fun k cur hb e => hk k cur _ (.inl rfl) hb e⟩
  rcases h.row.2 with h' | ⟨g, cap, cur, h1, h2, h3, h4⟩
  · exact .inl h'
  · exact .inr ⟨g, cap, cur, h1, h2, (hk g cur _ (.inr rfl) h2 h3).trans h3, h4⟩
theorem PutsG.below {w w' : World} {base : Nat} {v : Value} {ws : Puts} {vs : List Value} (h : PutsG w base v ws vs) (hb : Below w.heap.size w w') : PutsG w' base v ws vs := h.keepB fun k _ _ _ _ e => hb.block k (lt_heap e)
theorem PutsG.mono {w : World} {base base' : Nat} {v : Value} {ws : Puts} {vs : List Value} (h : PutsG w base v ws vs) (hb : base' ≤ base) : PutsG w base' v ws vs := by
  refine ⟨h.len, ⟨h.row.1, ?_⟩, fun i hi => (h.rows i hi).mono hb⟩
  rcases h.row.2 with h' | ⟨g, cap, cur, h1, h2, h3⟩
  · exact .inl h'
  · exact .inr ⟨g, cap, cur, h1, Nat.le_trans hb h2, h3⟩
/-- The row of writes is none of bytes. -/
theorem PutsG.apart {w : World} {base : Nat} {v : Value} {ws : Puts} {vs : List Value} (h : PutsG w base v ws vs) {k : Nat} {cs : Array Value} {t : TypeId} (ht : t ≠ 41) (hk : w.heap[k]? = some (.cells cs t (0, 0))) : some k ≠ v.ownBlock := by
  intro e
  rcases h.row.2 with ⟨hv, _⟩ | ⟨g', cap, cur, hv, _, h3, _⟩
  · rw [hv] at e; simp [Value.ownBlock] at e
  · rw [hv] at e
    simp only [Value.ownBlock, Option.some.injEq] at e
    subst e
    rw [hk] at h3
    simp only [Option.some.injEq, Obj.cells.injEq] at h3
    exact ht h3.2.1
theorem PutsG.push {w w1 : World} {base : Nat} {v v' : Value} {ws : Puts} {vs : List Value} {s : Int} {xs : List Nat} {xv : Value} (h : PutsG w base v ws vs) (hx : RowG w base xv xs)
    (hown : w1.ownsRow base 41 2 v' (ws.length + 1) (cellsV ws vs ++ [.int .i64 s, xv])) (hgrow : w.grownBy w1 v.ownBlock) : PutsG w1 base v' (ws ++ [(s, xs)]) (vs ++ [xv]) := by
  have hfar : ∀ (k : Nat) (cs : Array Value), base ≤ k → w.heap[k]? = some (.cells cs 5 (0, 0)) → w1.heap[k]? = w.heap[k]? := fun k cs _ hk => hgrow.block k (lt_heap hk) (h.apart (by decide) hk)
  refine ⟨by simp [h.len], by rw [cellsV_snoc _ _ _ _ h.len]; simpa using hown, ?_⟩
  intro i hi
  simp only [List.length_append, List.length_singleton] at hi
  rcases Nat.lt_or_ge i ws.length with h' | h'
  · have e1 : (vs ++ [xv]).getD i undef = vs.getD i undef := by simp [List.getD, List.getElem?_append_left (show i < vs.length by rw [h.len]; exact h')]
    rw [e1, getD_app_left h']
    exact (h.rows i h').keepB hfar
  · obtain rfl : i = ws.length := by omega
    have e1 : (vs ++ [xv]).getD ws.length undef = xv := by rw [← h.len]; simp [List.getD]
    have e2 : (ws ++ [(s, xs)]).getD ws.length (0, []) = (s, xs) := by simp [List.getD]
    rw [e1, e2]
    exact hx.keepB hfar
/-- A disk of the call's own behind a pointer, as the document's own answers make it. -/
structure DiskG (w : World) (base B0 : Nat) (count : Int) (dv : Value) (data : List Nat) (wv : Value) (ws : Puts) (vs : List Value) : Prop where
  box : w.heap[B0]? = some (.cells #[.int .i64 count, dv, wv] 25 (0, 0))
  hB : base ≤ B0
  data : RowG w base dv data
  puts : PutsG w base wv ws vs
theorem DiskG.below {w w' : World} {base B0 : Nat} {count : Int} {dv wv : Value} {data : List Nat} {ws : Puts} {vs : List Value} (h : DiskG w base B0 count dv data wv ws vs) (hb : Below w.heap.size w w') : DiskG w' base B0 count dv data wv ws vs :=
  ⟨(hb.block _ (lt_heap h.box)).trans h.box, h.hB, h.data.below hb, h.puts.below hb⟩
/-- By value. -/
structure DiskV (w : World) (base : Nat) (v : Value) (count : Int) (data : List Nat) (ws : Puts) : Prop where
  lies : ∃ dv wv vs, v = .agg #[.int .i64 count, dv, wv] ∧ RowG w base dv data ∧ PutsG w base wv ws vs
theorem DiskV.toIn {w : World} {base : Nat} {v : Value} {count : Int} {data : List Nat} {ws : Puts} (h : DiskV w base v count data ws) (hc : (Lit.int .i64 count).wf = true) (hw : ∀ y ∈ ws, (Lit.int .i64 y.1).wf = true) : DiskIn w v count data ws := by
  obtain ⟨dv, wv, vs, rfl, h1, h2⟩ := h.lies
  obtain ⟨q, m, rfl, g1, g2, g3, g4⟩ := h2.lies
  exact ⟨⟨dv, q, m, rfl, h1.row, g1, g2, g3, g4⟩, hc, hw⟩
theorem DiskV.keepB {w w' : World} {base : Nat} {v : Value} {count : Int} {data : List Nat} {ws : Puts} (h : DiskV w base v count data ws) (hk : ∀ (k : Nat) (cur : Array Value) (t : TypeId), t = 5 ∨ t = 41 → base ≤ k → w.heap[k]? = some (.cells cur t (0, 0)) → w'.heap[k]? = w.heap[k]?) : DiskV w' base v count data ws := by
  obtain ⟨dv, wv, vs, h1, h2, h3⟩ := h.lies
  exact ⟨⟨dv, wv, vs, h1, h2.keepB fun k cur hb e => hk k cur _ (.inl rfl) hb e, h3.keepB hk⟩⟩
theorem DiskV.below {w w' : World} {base : Nat} {v : Value} {count : Int} {data : List Nat} {ws : Puts} (h : DiskV w base v count data ws) (hb : Below w.heap.size w w') : DiskV w' base v count data ws := h.keepB fun k _ _ _ _ e => hb.block k (lt_heap e)
theorem DiskV.mono {w : World} {base base' : Nat} {v : Value} {count : Int} {data : List Nat} {ws : Puts} (h : DiskV w base v count data ws) (hb : base' ≤ base) : DiskV w base' v count data ws := by
  obtain ⟨dv, wv, vs, h1, h2, h3⟩ := h.lies
  exact ⟨⟨dv, wv, vs, h1, h2.mono hb, h3.mono hb⟩⟩
theorem DiskV.set3 {w : World} {base B : Nat} {v : Value} {count : Int} {data : List Nat} {ws : Puts} {cs : Array Value} (h : DiskV w base v count data ws) (hB : w.heap[B]? = some (.cells cs 25 (0, 0))) (a b c : Value) :
    DiskV (((w.setCell ⟨B, 0, none⟩ a).setCell ⟨B, 1, none⟩ b).setCell ⟨B, 2, none⟩ c) base v count data ws := by
  refine h.keepB fun k cs' t ht _ e => set3_other w B k a b c ?_
  rintro rfl
  rw [hB] at e
  simp only [Option.some.injEq, Obj.cells.injEq] at e
  rcases ht with rfl | rfl
  · exact absurd e.2.1 (by decide)
  · exact absurd e.2.1 (by decide)
end Go.Proofs.Ytnajjfdbmdjcbaa
namespace Go.Proofs.Ytnajjfdbmdjcbaa
open Go.RowKit Go.WideShapes
attribute [local go_sem ↓] Go.wp_at_zero Go.wp_at_succ

theorem RowG.set3 {w : World} {base B : Nat} {v : Value} {xs : List Nat} {cs : Array Value} (h : RowG w base v xs) (hB : w.heap[B]? = some (.cells cs 25 (0, 0))) (a b c : Value) :
    RowG (((w.setCell ⟨B, 0, none⟩ a).setCell ⟨B, 1, none⟩ b).setCell ⟨B, 2, none⟩ c) base v xs := by
  refine h.keepB fun k cs' _ e => set3_other w B k a b c ?_
  rintro rfl
  rw [hB] at e
  simp only [Option.some.injEq, Obj.cells.injEq] at e
  exact absurd e.2.1 (by decide)
/-- One write more, and the field that holds them stored. -/
theorem DiskG.pushed {w3 w4 : World} {base B0 : Nat} {count : Int} {dv wv : Value} {data : List Nat} {ws : Puts} {vs : List Value} (h : DiskG w3 base B0 count dv data wv ws vs) {s : Int} {xs : List Nat} {xv : Value} {g' cap' n : Nat} {o : Obj} (hx : RowG w3 base xv xs)
    (hn : n = ws.length + 1) (hown : w4.ownsRow base 41 2 (.slice (some ⟨g', 0, none⟩) n cap') n (cellsV ws vs ++ [.int .i64 s, xv])) (hgrow : (w3.alloc o).grownBy w4 wv.ownBlock) :
    DiskG (w4.setCell ⟨B0, 2, none⟩ (.slice (some ⟨g', 0, none⟩) n cap')) base B0 count dv data (.slice (some ⟨g', 0, none⟩) n cap') (ws ++ [(s, xs)]) (vs ++ [xv]) := by
  subst hn
  have ha := h.below (below_alloc w3 o)
  have P4 := ha.puts.push (hx.below (below_alloc w3 o)) hown hgrow
  have box4 := (hgrow.block _ (lt_heap ha.box) (ha.puts.apart (by decide) ha.box)).trans ha.box
  have D4 : RowG w4 base dv data := ha.data.keepB fun k cur _ e => hgrow.block k (lt_heap e) (ha.puts.apart (by decide) e)
  have hBne : ∀ (k : Nat) (cs : Array Value) (t : TypeId), t ≠ 25 → w4.heap[k]? = some (.cells cs t (0, 0)) → k ≠ B0 := by
    rintro k cs t ht hk rfl
    rw [box4] at hk
    simp only [Option.some.injEq, Obj.cells.injEq] at hk
    exact ht hk.2.1.symm
  refine ⟨?_, h.hB, D4.keepB fun k cur _ e => heap_setCell_other w4 ⟨B0, 2, none⟩ k _ (hBne k _ _ (by decide) e), P4.keepB fun k cur t ht _ e => heap_setCell_other w4 ⟨B0, 2, none⟩ k _ (hBne k _ _ (by rcases ht with rfl | rfl <;> decide) e)⟩
  rw [heap_setCell_same w4 B0 2 _ _ _ box4]
  simp
theorem rowG_at {w : World} {base k : Nat} {v : Value} {ws : Puts} {vs : List Value} (hk : ws.length = k) (h : PutsG w base v ws vs) : w.ownsRow base 41 2 v k (cellsV ws vs) := by
  subst hk; exact h.row
theorem results_cell_one {fn : Func} {p : Tmp} {ty : TypeId} (h : fn.results = #[.cell p ty]) (tmps : Array Value) (P : Program) (w : World) :
    (results fn tmps).run P w = ((asAddr (tmps.getD p undef)).run P w).andThen fun a w₁ => (loadVar ty a).run P w₁ := by
  simp only [results, h]
  simp [Sem.run_bind, Result.andThen]
theorem rowG_oneCell {w : World} {base : Nat} {v : Value} {xs : List Nat} (h : RowG w base v xs) (s : Int) : ∀ u ∈ [Value.int .i64 s, v], u.oneCell' = true := by
  obtain ⟨p, c, rfl, _⟩ := h.form
  exact two_oneCell s p _ c
theorem DiskG.toV {w : World} {base B0 : Nat} {count : Int} {dv wv : Value} {data : List Nat} {ws : Puts} {vs : List Value} (h : DiskG w base B0 count dv data wv ws vs) : DiskV w base (.agg #[.int .i64 count, dv, wv]) count data ws := ⟨⟨dv, wv, vs, rfl, h.data, h.puts⟩⟩

set_option maxRecDepth 4000 in
set_option maxRecDepth 20000 in
set_option maxHeartbeats 8000000 in
theorem twin_any (v : Value) (count : Int) (data : List Nat) (ws : Puts) (w : World) (hd : DiskIn w v count data ws) (hdl : data.length ≤ 140737488355328) (hwl : ∀ y ∈ ws, y.2.length ≤ 140737488355328) (hfew : ws.length ≤ 100000) :
    Calls Try.prog 23 #[v] w fun e w' => (∃ v', e = .returned v' ∧ DiskV w' w.heap.size v' count data ws) ∧ Below w.heap.size w w' := by
  obtain ⟨p, c, q, m, rfl, hb, _, _, hpn, hqp, hqm, hqmm, _⟩ := hd.parts
  have HPN : Hid (p = none → c = 0) := hpn
  have HBD : Hid (BIn w p data) := hb
  have HQ : Hid (PutsIn w q ws) := hqp
  have HDL : Hid (data.length ≤ 140737488355328) := hdl
  have HD : Hid _ := hd
  clear hpn hb hqp hdl hd
  have HWL : Hid (∀ y ∈ ws, y.2.length ≤ 140737488355328) := hwl
  clear hwl
  obtain ⟨i0, hi, hz0, hz1, hz2⟩ := info_parts info_put
  go_enter Try.func23, Try.ntmps23
  go_wp2
  obtain ⟨W, hW⟩ : ∃ W, W = (w.alloc (.cells #[.int .i64 count, .slice p data.length c, .slice q ws.length m] 25)).alloc (.cells #[.int .i64 0, .slice none 0 0, .slice none 0 0] 25) := ⟨_, rfl⟩
  have HX : Hid (∀ w', Below (w.heap.size + 2) W w' → w'.heap[w.heap.size]? = some (.cells #[.int .i64 count, .slice p data.length c, .slice q ws.length m] 25 (0, 0)) ∧ w'.heap[w.heap.size + 1]? = some (.cells #[.int .i64 0, .slice none 0 0, .slice none 0 0] 25 (0, 0)) ∧ Below w.heap.size w w' ∧ w.heap.size + 2 ≤ w'.heap.size) := by
    intro w' h
    rw [hW] at h
    exact ⟨(box2_cells h).1, (box2_cells h).2, box2_below h, box2_size h⟩
  have HBW : Hid (∀ w', Below (w.heap.size + 2) W w' → Below w.heap.size w w') := fun w' h => (HX.out w' h).2.2.1
  have HWz : Hid (w.heap.size + 2 ≤ W.heap.size) := by show _ ≤ _; rw [hW]; simp
  have HS1 : (W.drew.cell? ⟨w.heap.size, 0, none⟩ = some (.int .i64 count) ∧ W.drew.cell? ⟨w.heap.size, 1, none⟩ = some (.slice p data.length c) ∧ W.drew.cell? ⟨w.heap.size, 2, none⟩ = some (.slice q ws.length m)) ∧ Hid (Below (w.heap.size + 2) W W.drew) := ⟨cells3 (HX.out _ (Below.refl _ _)).1, (Below.refl _ _).drew⟩
  rw [← hW]
  clear hW
  go_cut [3] from 5 (fun s3 w5 => ∃ B0 pd cd, s3 = .pointer (some ⟨B0, 0, none⟩) ∧ DiskG w5 (w.heap.size + 2) B0 count (.slice pd data.length cd) data (.slice none 0 0) [] [] ∧ Below (w.heap.size + 2) W w5)
  case first =>
    refine wp_region_noPanic ?_
    refine wp_region_held_drew (S := (fun w' => (w'.cell? ⟨w.heap.size, 0, none⟩ = some (.int .i64 count) ∧ w'.cell? ⟨w.heap.size, 1, none⟩ = some (.slice p data.length c) ∧ w'.cell? ⟨w.heap.size, 2, none⟩ = some (.slice q ws.length m)) ∧ Hid (Below (w.heap.size + 2) W w'))) (by kernel_rfl) HS1 (fun hS0 => ?_)
    clear HS1
    refine takeH 0 5 (v := ?_) rfl rfl (by kernel_rfl) (by kernel_rfl) (by kernel_rfl) (fun _ _ _ h => h) (by rfl) ?_ (by assumption) ?_
    rotate_left
    · intro w hSw; go_simp; first | done | with_reducible rfl
    simp only [Act.put, List.setIfInBounds_toArray, List.set_cons_zero, List.set_cons_succ]
    refine takeH 1 6 (v := ?_) rfl rfl (by kernel_rfl) (by kernel_rfl) (by kernel_rfl) (fun _ _ _ h => h) (by rfl) ?_ (by assumption) ?_
    rotate_left
    · intro w hSw; go_simp; first | done | with_reducible rfl
    simp only [Act.put, List.setIfInBounds_toArray, List.set_cons_zero, List.set_cons_succ]
    refine takeH 2 7 (v := ?_) rfl rfl (by kernel_rfl) (by kernel_rfl) (by kernel_rfl) (fun _ _ _ h => h) (by rfl) ?_ (by assumption) ?_
    rotate_left
    · intro w hSw; go_simp; first | done | with_reducible rfl
    simp only [Act.put, List.setIfInBounds_toArray, List.set_cons_zero, List.set_cons_succ]
    refine takeH 3 8 (v := ?_) rfl rfl (by kernel_rfl) (by kernel_rfl) (by kernel_rfl) (fun _ _ _ h => h) (by rfl) ?_ (by assumption) ?_
    rotate_left
    · intro w hSw; go_simp; first | done | with_reducible rfl
    simp only [Act.put, List.setIfInBounds_toArray, List.set_cons_zero, List.set_cons_succ]
    refine wpAnyH_ready (rs := [4, 6]) (by kernel_rfl) (by simp) ?_
    refine AllReadyH.cons rfl (fun K hK => ?_) (AllReadyH.cons rfl (fun K hK => ?_) AllReadyH.nil)
    · go_simp
      refine (rbytes_any p c _ data _ rfl (HBD.out.below (HBW.out _ hS0.2.out)) HPN.out HDL.out).mono ?_
      rintro e ww1 ⟨dv, rfl, hg', hb1⟩
      obtain ⟨pd, cd, rfl, _⟩ := hg'.form
      go_simp
      refine hK.out _ _ (keepS HWz.out hS0 hb1) (fun hS1 => ?_)
      clear hK K
      refine takeH 5 10 (v := ?_) rfl rfl (by kernel_rfl) (by kernel_rfl) (by kernel_rfl) (fun _ _ _ h => h) (by rfl) ?_ (by assumption) ?_
      rotate_left
      · intro w hSw; go_simp; first | done | with_reducible rfl
      simp only [Act.put, List.setIfInBounds_toArray, List.set_cons_zero, List.set_cons_succ]
      refine wpAnyH_ready (rs := [6]) (by kernel_rfl) (by simp) ?_
      refine AllReadyH.cons rfl (fun K hK => ?_) AllReadyH.nil
      have hb2 := below_alloc ww1 (.cells #[.int .i64 0, .slice none 0 0, .slice none 0 0] 25)
      go_simp
      refine hK.out _ _ (keepS HWz.out hS1 hb2) (fun hS2 => ?_)
      clear hK K
      refine wpAnyH_ready (rs := [7]) (by kernel_rfl) (by simp) ?_
      refine AllReadyH.cons rfl (fun K hK => ?_) AllReadyH.nil
      have szB := Nat.le_trans HWz.out hS1.2.out.size
      have szC := Nat.le_trans HWz.out hS0.2.out.size
      go_simp
      refine hK.out _ _ (keepA HWz.out hS1 _) (fun hSz => ?_)
      clear hK K
      refine wpAnyH_done (by kernel_rfl) (NoPanic.normal ?_) _
      go_wp2
      go_meet
      case rel =>
        exact ⟨_, pd, cd, rfl, ⟨heap_alloc_new _ _, szB, (hg'.mono szC).below (below_alloc _ _), putsG_nil _ _⟩, hSz.2.out⟩
    · have hb1 := below_alloc W.drew (.cells #[.int .i64 0, .slice none 0 0, .slice none 0 0] 25)
      go_simp
      refine hK.out _ _ (keepS HWz.out hS0 hb1) (fun hS1 => ?_)
      clear hK K
      refine wpAnyH_ready (rs := [4]) (by kernel_rfl) (by simp) ?_
      refine AllReadyH.cons rfl (fun K hK => ?_) AllReadyH.nil
      go_simp
      refine (rbytes_any p c _ data _ rfl (HBD.out.below (HBW.out _ hS1.2.out)) HPN.out HDL.out).mono ?_
      rintro e ww2 ⟨dv, rfl, hg', hb2⟩
      obtain ⟨pd, cd, rfl, _⟩ := hg'.form
      go_simp
      refine hK.out _ _ (keepS HWz.out hS1 hb2) (fun hS2 => ?_)
      clear hK K
      refine takeH 5 10 (v := ?_) rfl rfl (by kernel_rfl) (by kernel_rfl) (by kernel_rfl) (fun _ _ _ h => h) (by rfl) ?_ (by assumption) ?_
      rotate_left
      · intro w hSw; go_simp; first | done | with_reducible rfl
      simp only [Act.put, List.setIfInBounds_toArray, List.set_cons_zero, List.set_cons_succ]
      refine wpAnyH_ready (rs := [7]) (by kernel_rfl) (by simp) ?_
      refine AllReadyH.cons rfl (fun K hK => ?_) AllReadyH.nil
      have hZ : ww2.heap[W.heap.size]? = some (.cells #[.int .i64 0, .slice none 0 0, .slice none 0 0] 25 (0, 0)) := ((hb2).block _ (by first | (rw [World.size_alloc]; exact Nat.lt_succ_self _) | (show _ < (World.alloc _ _).heap.size; rw [World.size_alloc]; exact Nat.lt_succ_self _))).trans (heap_alloc_new _ _)
      obtain ⟨z0, z1, z2⟩ := cells3 hZ
      obtain ⟨y0, y1, y2⟩ := free3 hZ
      have HZ : Hid _ := hZ
      clear hZ
      have szB := Nat.le_trans HWz.out hS0.2.out.size
      have szC := Nat.le_trans HWz.out hS1.2.out.size
      go_simp
      refine hK.out _ _ (keep3 hS2 ⟨by have := szB; simp at this; omega, szB⟩ _ _ _) (fun hSz => ?_)
      clear hK K
      refine wpAnyH_done (by kernel_rfl) (NoPanic.normal ?_) _
      go_wp2
      go_meet
      case rel =>
        exact ⟨_, pd, cd, rfl, ⟨set3_same _ _ _ _ _ _ _ _ _ HZ.out, szB, (hg'.mono szC).set3 HZ.out _ _ _, putsG_nil _ _⟩, hSz.2.out⟩
  case rest =>
    obtain ⟨B0, pd, cd, rfl, hg0, hbc⟩ := hcut
    have HG0 : Hid _ := hg0
    clear hg0 HS1 HD HBD
    go_wp2
    go_loopw [4] (fun i wr => ∃ k : Nat, ∃ qk mk vk, k ≤ ws.length ∧ i = .int .i64 k ∧ DiskG wr (w.heap.size + 2) B0 count (.slice pd data.length cd) data (.slice qk k mk) (ws.take k) vk ∧ Below (w.heap.size + 2) W wr) (fun i _ => ws.length - (intOf i).toNat)
    case atStart => exact ⟨0, none, 0, [], by omega, rfl, HG0.out, hbc⟩
    case round =>
      obtain ⟨k, qk, mk, vk, hk, rfl, hok, hbk⟩ := hrel
      obtain ⟨hbx, hres, hbw, hsz⟩ := HX.out _ hbk
      obtain ⟨b0, b1, b2⟩ := cells3 hok.box
      obtain ⟨x0, x1, x2⟩ := cells3 hbx
      by_cases hkl : k < ws.length
      · have hq := HQ.out.below hbw
        obtain ⟨b, o, rfl⟩ := hq.addr (by omega)
        obtain ⟨e1, pk, ck, e2, hbi, _, _, hpk⟩ := hq.at hkl
        rw [← Nat.add_assoc] at e2
        have HXL : Hid ((ws.getD k (0, [])).2.length ≤ 140737488355328) := HWL.out _ (getD_mem hkl)
        have HTK : Hid (ws.take (k + 1) = ws.take k ++ [ws.getD k (0, [])]) := take_getD hkl
        have HK : Hid ((ws.take k).length = k) := by show _ = _; simp; omega
        generalize ws.getD k (0, []) = y at *
        obtain ⟨s, xs⟩ := y
        simp only at e1 e2 hbi HXL
        have HBI : Hid (BIn wr pk xs) := hbi
        have HPK : Hid (pk = none → ck = 0) := hpk
        have HOK : Hid (DiskG wr (w.heap.size + 2) B0 count (.slice pd data.length cd) data (.slice qk k mk) (ws.take k) vk) := hok
        have hkk : (0 : Int) ≤ (k : Int) := by omega
        have hkw : (k : Int) < (ws.length : Int) := by omega
        have hob : b < w.heap.size := by
          obtain ⟨e1', _⟩ := HQ.out.at hkl
          exact World.block_lt_of_cell? _ _ e1'
        have HT : Hid (∀ w', Below (w.heap.size + 2) W w' → w'.cell? ⟨w.heap.size, 2, none⟩ = some (.slice (some ⟨b, o, none⟩) ws.length m) ∧ w'.cell? ⟨b, o + k * 2, none⟩ = some (.int .i64 s) ∧ w'.cell? ⟨b, o + k * 2 + 1, none⟩ = some (.slice pk xs.length ck)) := by
          intro w' h
          have hc : ∀ a : Addr, a.block < w.heap.size → w'.cell? a = wr.cell? a := fun a ha => (h.cell (by omega)).trans (hbk.cell (by omega)).symm
          exact ⟨(cells3 (HX.out _ h).1).2.2, by rw [hc _ hob]; exact e1, by rw [hc _ hob]; exact e2⟩
        clear hbi hpk hq hok hbx hres
        go_wp2
        have HT0 := HT.out _ hbk.drew
        have HS : wr.drew.cell? ⟨B0, 2, none⟩ = some (.slice qk k mk) := b2
        clear b0 b1 b2 x0 x1 x2 e1 e2
        refine wp_region_noPanic ?_
        refine beginZ (T := fun w' => w'.cell? ⟨w.heap.size, 2, none⟩ = some (.slice (some ⟨b, o, none⟩) ws.length m) ∧ w'.cell? ⟨b, o + k * 2, none⟩ = some (.int .i64 s) ∧ w'.cell? ⟨b, o + k * 2 + 1, none⟩ = some (.slice pk xs.length ck)) (S := fun w' => w'.cell? ⟨B0, 2, none⟩ = some (.slice qk k mk)) 19 (by kernel_rfl) ?_
        refine takeT 0 18 (v := ?_) rfl rfl (by kernel_rfl) (by kernel_rfl) (by kernel_rfl) (by kernel_rfl) (fun _ _ _ h => h) (by rfl) ?_ (by assumption) (by assumption) ?_
        rotate_left
        · intro w hTw; go_simp; first | done | with_reducible rfl
        simp only [Act.put, List.setIfInBounds_toArray, List.set_cons_zero, List.set_cons_succ]
        refine takeZ 1 19 17 (v := ?_) rfl rfl (by kernel_rfl) (by kernel_rfl) (by kernel_rfl) (by kernel_rfl) (by kernel_rfl) (by kernel_rfl) (by kernel_rfl) (fun _ _ _ h => h) (by rfl) ?_ (by assumption) (by assumption) ?_
        rotate_left
        · intro w hTw hSw; go_simp; first | done | with_reducible rfl
        simp only [Act.put, List.setIfInBounds_toArray, List.set_cons_zero, List.set_cons_succ]
        refine takeT 2 20 (v := ?_) rfl rfl (by kernel_rfl) (by kernel_rfl) (by kernel_rfl) (by kernel_rfl) (fun _ _ _ h => h) (by rfl) ?_ (by assumption) (by assumption) ?_
        rotate_left
        · intro w hTw; go_simp; first | done | with_reducible rfl
        simp only [Act.put, List.setIfInBounds_toArray, List.set_cons_zero, List.set_cons_succ]
        refine takeT 3 21 (v := ?_) rfl rfl (by kernel_rfl) (by kernel_rfl) (by kernel_rfl) (by kernel_rfl) (fun _ _ _ h => h) (by rfl) ?_ (by assumption) (by assumption) ?_
        rotate_left
        · intro w hTw; go_simp; first | done | with_reducible rfl
        simp only [Act.put, List.setIfInBounds_toArray, List.set_cons_zero, List.set_cons_succ]
        refine takeT 4 22 (v := ?_) rfl rfl (by kernel_rfl) (by kernel_rfl) (by kernel_rfl) (by kernel_rfl) (fun _ _ _ h => h) (by rfl) ?_ (by assumption) (by assumption) ?_
        rotate_left
        · intro w hTw; go_simp; first | done | with_reducible rfl
        simp only [Act.put, List.setIfInBounds_toArray, List.set_cons_zero, List.set_cons_succ]
        refine takeT 5 23 (v := ?_) rfl rfl (by kernel_rfl) (by kernel_rfl) (by kernel_rfl) (by kernel_rfl) (fun _ _ _ h => h) (by rfl) ?_ (by assumption) (by assumption) ?_
        rotate_left
        · intro w hTw; go_simp; first | done | with_reducible rfl
        simp only [Act.put, List.setIfInBounds_toArray, List.set_cons_zero, List.set_cons_succ]
        refine takeT 6 24 (v := ?_) rfl rfl (by kernel_rfl) (by kernel_rfl) (by kernel_rfl) (by kernel_rfl) (fun _ _ _ h => h) (by rfl) ?_ (by assumption) (by assumption) ?_
        rotate_left
        · intro w hTw; go_simp; first | done | with_reducible rfl
        simp only [Act.put, List.setIfInBounds_toArray, List.set_cons_zero, List.set_cons_succ]
        refine takeT 7 25 (v := ?_) rfl rfl (by kernel_rfl) (by kernel_rfl) (by kernel_rfl) (by kernel_rfl) (fun _ _ _ h => h) (by rfl) ?_ (by assumption) (by assumption) ?_
        rotate_left
        · intro w hTw; go_simp; first | done | with_reducible rfl
        simp only [Act.put, List.setIfInBounds_toArray, List.set_cons_zero, List.set_cons_succ]
        refine takeT 8 26 (v := ?_) rfl rfl (by kernel_rfl) (by kernel_rfl) (by kernel_rfl) (by kernel_rfl) (fun _ _ _ h => h) (by rfl) ?_ (by assumption) (by assumption) ?_
        rotate_left
        · intro w hTw; go_simp; first | done | with_reducible rfl
        simp only [Act.put, List.setIfInBounds_toArray, List.set_cons_zero, List.set_cons_succ]
        refine takeT 9 27 (v := ?_) rfl rfl (by kernel_rfl) (by kernel_rfl) (by kernel_rfl) (by kernel_rfl) (fun _ _ _ h => h) (by rfl) ?_ (by assumption) (by assumption) ?_
        rotate_left
        · intro w hTw; go_simp; first | done | with_reducible rfl
        simp only [Act.put, List.setIfInBounds_toArray, List.set_cons_zero, List.set_cons_succ]
        refine takeT 10 28 (v := ?_) rfl rfl (by kernel_rfl) (by kernel_rfl) (by kernel_rfl) (by kernel_rfl) (fun _ _ _ h => h) (by rfl) ?_ (by assumption) (by assumption) ?_
        rotate_left
        · intro w hTw; go_simp; first | done | with_reducible rfl
        simp only [Act.put, List.setIfInBounds_toArray, List.set_cons_zero, List.set_cons_succ]
        refine takeT 11 29 (v := ?_) rfl rfl (by kernel_rfl) (by kernel_rfl) (by kernel_rfl) (by kernel_rfl) (fun _ _ _ h => h) (by rfl) ?_ (by assumption) (by assumption) ?_
        rotate_left
        · intro w hTw; go_simp; first | done | with_reducible rfl
        simp only [Act.put, List.setIfInBounds_toArray, List.set_cons_zero, List.set_cons_succ]
        refine takeT 12 30 (v := ?_) rfl rfl (by kernel_rfl) (by kernel_rfl) (by kernel_rfl) (by kernel_rfl) (fun _ _ _ h => h) (by rfl) ?_ (by assumption) (by assumption) ?_
        rotate_left
        · intro w hTw; go_simp; first | done | with_reducible rfl
        simp only [Act.put, List.setIfInBounds_toArray, List.set_cons_zero, List.set_cons_succ]
        refine takeT 13 31 (v := ?_) rfl rfl (by kernel_rfl) (by kernel_rfl) (by kernel_rfl) (by kernel_rfl) (fun _ _ _ h => h) (by rfl) ?_ (by assumption) (by assumption) ?_
        rotate_left
        · intro w hTw; go_simp; first | done | with_reducible rfl
        simp only [Act.put, List.setIfInBounds_toArray, List.set_cons_zero, List.set_cons_succ]
        refine oneZ 14 (by kernel_rfl) rfl (by rfl) (fun K hK => ?_)
        go_simp
        refine (rbytes_any pk ck _ xs _ rfl (show BIn wr.drew pk xs from HBI.out) HPK.out HXL.out).mono ?_
        rintro e w2 ⟨xv, rfl, hxg, hb2⟩
        obtain ⟨px, cx, rfl, _⟩ := hxg.form
        have hbW2 : Below (w.heap.size + 2) W w2 := hbk.trans ((below_undrew hb2).mono hsz)
        go_simp
        refine hK.out _ _ (HT.out _ hbW2) (below_cell_some hb2 HS) (fun hTx hSx => ?_)
        clear hK K HT0 HS
        refine takeT 15 33 (v := ?_) rfl rfl (by kernel_rfl) (by kernel_rfl) (by kernel_rfl) (by kernel_rfl) (fun _ _ _ h => h) (by rfl) ?_ (by assumption) (by assumption) ?_
        rotate_left
        · intro w hTw; go_simp; first | done | with_reducible rfl
        simp only [Act.put, List.setIfInBounds_toArray, List.set_cons_zero, List.set_cons_succ]
        refine oneZ 16 (by kernel_rfl) rfl (by rfl) (fun K hK => ?_)
        go_simp
        refine hK.out _ _ (HT.out _ (hbW2.alloc (by have := hb2.size; simp at *; omega) _)) (below_cell_some (below_alloc w2 _) hSx) (fun hTy hSy => ?_)
        clear hK K hTx hSx
        refine oneZ 17 (by kernel_rfl) rfl (by rfl) (fun K hK => ?_)
        have hok2 := HOK.out.below (below_undrew hb2)
        refine step_append_lies _ (by rfl) (.tmp 19) (.tmp 34) 23 (by rfl) (w.heap.size + 2) 41 i0 _ 2 32 Try.underlying23 hi hz0 hz1 hz2 rfl (by omega) (.slice qk k mk) k (cellsV (ws.take k) vk) (by rfl) (rowG_at HK.out (hok2.puts.below (below_alloc w2 _))) ⟨w2.heap.size, 0, none⟩ 1 1 [.int .i64 s, .slice px xs.length cx] (by rfl) (by rfl) (World.news_of_block (cs := #[.int .i64 s, .slice px xs.length cx]) (t := 41) (fr := (0, 0)) (heap_alloc_new w2 _)) (rowG_oneCell hxg _) (by omega) (by unfold maxLen; omega) (by omega) (by have := hb2.size; rw [World.size_alloc]; simp at *; omega) (w2.heap.size + 1) (by simp) ?_
        intro g' cap' w4 hown4 hgrow hat hlt4
        have hbW4 : Below (w.heap.size + 2) W w4 := (hbW2.alloc (by have := hb2.size; simp at *; omega) _).grown hgrow (by rw [World.size_alloc]; have := hb2.size; simp at *; omega) (fun x hx => (hok2.puts.row.lt x hx).1)
        have HN2 : Hid (some B0 ≠ (Value.slice qk k mk).ownBlock) := HOK.out.puts.apart (by decide) HOK.out.box
        refine hK.out _ _ (HT.out _ hbW4) (hgrow.cell hSy HN2.out) (fun hTx hSx => ?_)
        clear hK K hTy hSy hat hlt4
        show wpAnyZ _ _ _ _ _ _ _ _ _ (Act.put _ (some 35) _) _
        simp only [Act.put, List.setIfInBounds_toArray, List.set_cons_zero, List.set_cons_succ]
        refine takeT 18 36 (v := ?_) rfl rfl (by kernel_rfl) (by kernel_rfl) (by kernel_rfl) (by kernel_rfl) (fun _ _ _ h => h) (by rfl) ?_ (by assumption) (by assumption) ?_
        rotate_left
        · intro w hTw; go_simp; first | done | with_reducible rfl
        simp only [Act.put, List.setIfInBounds_toArray, List.set_cons_zero, List.set_cons_succ]
        refine lastZ (by kernel_rfl) rfl (by rfl) (fun K hK => ?_)
        have hpd := hok2.pushed (s := s) (n := k + 1) (hxg.mono (show w.heap.size + 2 ≤ wr.drew.heap.size from hsz)) (by rw [HK.out]) hown4 hgrow
        have hbx : w4.heap[B0]? = some (.cells #[.int .i64 count, .slice pd data.length cd, .slice qk k mk] 25 (0, 0)) := (hgrow.block _ (by have := lt_heap hok2.box; rw [World.size_alloc]; omega) HN2.out).trans (((below_alloc w2 _).block _ (lt_heap hok2.box)).trans hok2.box)
        have hfr := frozen_of_row w4 B0 2 _ _ hbx
        have HPD : Hid _ := hpd
        clear hbx hpd
        go_simp
        refine hK.out _ _ (HT.out _ (hbW4.setCell HOK.out.hB _)) ?_
        clear hK K
        refine doneZ (by kernel_rfl) (NoPanic.normal ?_) _
        go_wp2
        go_roundw
        case rel => exact ⟨k + 1, _, _, vk ++ [_], by omega, by go_num, by rw [HTK.out]; exact HPD.out, hbW4.setCell HOK.out.hB _⟩
        case measure => simp [intOf]; omega
      · obtain rfl : k = ws.length := by omega
        rw [List.take_length] at hok
        have HV : Hid (DiskV wr w.heap.size (.agg #[.int .i64 count, .slice pd data.length cd, .slice qk ws.length mk]) count data ws) := hok.toV.mono (by omega)
        obtain ⟨r0, r1, r2⟩ := cells3 hres
        obtain ⟨f0, f1, f2⟩ := free3 hres
        have HR : Hid _ := hres
        clear hok hres hbx HG0
        go_wp2
        (try simp only [Exit.inBlock, Exit.then])
        refine bodyPost_ret (v := .agg #[.int .i64 count, .slice pd data.length cd, .slice qk ws.length mk]) ?_ rfl ⟨⟨_, rfl, HV.out.set3 HR.out _ _ _⟩, set3_below hbw (by omega) _ _ _⟩
        rw [results_cell_one rfl]
        go_simp
end Go.Proofs.Ytnajjfdbmdjcbaa
namespace Go.Proofs.Ytnajjfdbmdjcbaa
open Go.RowKit Go.WideShapes

theorem may_yes (v : Value) (count : Int) (data : List Nat) (ws : Puts) (w : World) (hd : DiskIn w v count data ws) (ho : Okay count data ws) :
    Calls Try.prog 70 #[v] w fun e w' => e = .returned (.bool true) ∧ Below w.heap.size w w' := may_any v count data ws w hd true ⟨fun _ => ho, fun _ => rfl⟩
theorem may_no (v : Value) (count : Int) (data : List Nat) (ws : Puts) (w : World) (hd : DiskIn w v count data ws) (ho : ¬ Okay count data ws) :
    Calls Try.prog 70 #[v] w fun e w' => e = .returned (.bool false) ∧ Below w.heap.size w w' := may_any v count data ws w hd false ⟨fun h => (by cases h), fun h => absurd h ho⟩
theorem box1 {w w1 : World} {o : Obj} (h : Below (w.alloc o).heap.size (w.alloc o) w1) : Below (w.heap.size + 1) (w.alloc o) w1 := by simpa using h

set_option maxRecDepth 20000 in
set_option maxHeartbeats 1000000 in
theorem rcheck_any (v : Value) (count : Int) (data : List Nat) (ws : Puts) (w : World) (hd : DiskIn w v count data ws) :
    Calls Try.prog 56 #[v] w fun e w' => e = .returned (.int .i64 (errC count data ws)) ∧ Below w.heap.size w w' := by
  obtain ⟨p, c, q, m, rfl, _⟩ := hd.parts
  have HD : Hid _ := hd
  clear hd
  by_cases ho : Okay count data ws
  · have HE : Hid _ := errC_ok ho
    go_enter Try.func56, Try.ntmps56
    go_wp2_with fail
    refine (may_yes _ count data ws _ (HD.out.below (below_alloc w _)) ho).mono ?_
    rintro e w1 ⟨rfl, hb1⟩
    go_wp2
    go_ret
    exact ⟨by rw [HE.out]; rfl, box_below (box1 hb1)⟩
  · have HE : Hid _ := errC_bad ho
    go_enter Try.func56, Try.ntmps56
    go_wp2_with fail
    refine (may_no _ count data ws _ (HD.out.below (below_alloc w _)) ho).mono ?_
    rintro e w1 ⟨rfl, hb1⟩
    go_wp2
    go_ret
    exact ⟨by rw [HE.out]; rfl, box_below (box1 hb1)⟩
set_option maxRecDepth 20000 in
set_option maxHeartbeats 1000000 in
theorem rsure0_any (v : Value) (n : Nat) (count : Int) (data : List Nat) (ws : Puts) (w : World) (hd : DiskIn w v count data ws) (ho : Okay count data ws) (hn : (n : Int) < count) :
    Calls Try.prog 69 #[v, .int .i64 n] w fun e w' => (∃ v', e = .returned v' ∧ RowG w' w.heap.size v' (secN data n)) ∧ Below w.heap.size w w' := by
  obtain ⟨p, c, q, m, rfl, hb, hc, hcm, _⟩ := hd.parts
  have hlen := ho.len
  have hhi := ho.hi
  have hnl : (n + 1) * 128 ≤ data.length := by omega
  have HL : Hid ((secN data n).length = 128) := secN_len hnl
  obtain ⟨b, o, rfl⟩ := hb.addr (by omega)
  have HB : Hid (BIn w (some ⟨b, o, none⟩) data) := hb
  have HLL : Hid ((secN data n).length ≤ 140737488355328) := by show _ ≤ _; rw [HL.out]; omega
  have HE : Hid (128 = (secN data n).length) := HL.out.symm
  clear hd ho hlen hb
  go_enter Try.func69, Try.ntmps69
  go_wp2_with fail
  refine (rbytes_any _ _ _ (secN data n) _ HE.out (bin_sec (HB.out.below (below_alloc w _)) n) (fun h => by cases h) HLL.out).mono ?_
  rintro e w1 ⟨v', rfl, hg, hb1⟩
  have HG : Hid _ := hg.mono (show w.heap.size ≤ _ by simp)
  clear hg
  go_wp2
  go_ret
  exact ⟨⟨_, rfl, HG.out⟩, box_below (box1 hb1)⟩
set_option maxRecDepth 20000 in
set_option maxHeartbeats 1000000 in
theorem rnow_any (v : Value) (n : Nat) (count : Int) (data : List Nat) (ws : Puts) (w : World) (hd : DiskIn w v count data ws) (ho : Okay count data ws) (hn : (n : Int) < count) :
    Calls Try.prog 55 #[v, .int .i64 n] w fun e w' => (∃ v', e = .returned v' ∧ RowG w' w.heap.size v' (nowN data ws n)) ∧ Below w.heap.size w w' := by
  obtain ⟨p, c, q, m, rfl, hb, hc, _, _, hqp, hqm, hqmm, _⟩ := hd.parts
  have hfew := ho.few
  have HQ : Hid (PutsIn w q ws) := hqp
  have HO : Hid _ := ho
  have HD : Hid _ := hd
  clear hd ho hb hqp
  go_enter Try.func55, Try.ntmps55
  go_wp2
  go_loopw [5] (fun i wr => ∃ j : Nat, j ≤ ws.length ∧ i = .int .i64 ((j : Int) - 1) ∧ Hid (nowK ws n ws.length = nowK ws n j) ∧ Below (w.heap.size + 1) (w.alloc (.cells #[.int .i64 count, .slice p data.length c, .slice q ws.length m] 25)) wr) (fun i _ => (intOf i + 1).toNat)
  case atStart => exact ⟨ws.length, by omega, rfl, rfl, Below.refl _ _⟩
  case round =>
    obtain ⟨j, hj, rfl, HN, hbk⟩ := hrel
    obtain ⟨r0, r1, r2⟩ := box_cells hbk
    have hz := box_size hbk
    by_cases hj0 : 0 < j
    · obtain ⟨t, rfl⟩ : ∃ t, j = t + 1 := ⟨j - 1, by omega⟩
      rw [show ((t + 1 : Nat) : Int) - 1 = (t : Int) from by omega]
      have htl : t < ws.length := by omega
      have hq := HQ.out.below (box_below hbk)
      obtain ⟨bq, oq, rfl⟩ := hq.addr (by omega)
      obtain ⟨e1, pk, ck, e2, hbi, _, _, hpk⟩ := hq.at htl
      rw [← Nat.add_assoc] at e2
      have hwt := HO.out.wait htl
      have HK : Hid (nowK ws n (t + 1) = if (ws.getD t (0, [])).1 = n then some (ws.getD t (0, [])).2 else nowK ws n t) := rfl
      generalize ws.getD t (0, []) = y at *
      obtain ⟨s, xs⟩ := y
      simp only at e1 e2 hbi hwt
      have HX : Hid (xs.length ≤ 140737488355328) := by show _ ≤ _; rw [hwt.2.2]; omega
      have HBI : Hid (BIn wr pk xs) := hbi
      have HPK : Hid (pk = none → ck = 0) := hpk
      clear hwt hbi hq hpk
      by_cases hs : s = n
      · have HF : Hid (nowN data ws n = xs) := nowN_some (by rw [HN.out, HK.out]; simp [hs])
        have hsb : (s == (n : Int)) = true := by simpa using hs
        clear hs
        go_wp2_with fail
        refine (rbytes_any pk ck _ xs _ rfl HBI.out HPK.out HX.out).mono ?_
        rintro e w3 ⟨v3, rfl, hg3, hb3⟩
        have HG : Hid _ := hg3.mono (show w.heap.size ≤ wr.heap.size by omega)
        have hb4 := (box_below hbk).trans (hb3.mono (by omega))
        clear hg3 hb3
        go_wp2
        go_ret
        refine ⟨⟨_, rfl, ?_⟩, hb4⟩
        rw [HF.out]
        exact HG.out
      · have HF : Hid (nowK ws n ws.length = nowK ws n t) := by show _ = _; rw [HN.out, HK.out]; simp [hs]
        have hsb : (s == (n : Int)) = false := by simpa using hs
        clear hs
        go_wp2
        go_roundw
        case rel => exact ⟨t, by omega, by go_num, HF, hbk⟩
        case measure => simp [intOf]
    · obtain rfl : j = 0 := by omega
      rw [show (((0 : Nat) : Int) - 1) = -1 from by omega]
      have HF : Hid (nowN data ws n = secN data n) := nowN_none (by rw [HN.out]; rfl)
      clear HN
      go_wp2_with fail
      refine (rsure0_any _ n count data ws _ (HD.out.below (box_below hbk)) HO.out hn).mono ?_
      rintro e w3 ⟨⟨v3, rfl, hg3⟩, hb3⟩
      have HG : Hid _ := hg3.mono (show w.heap.size ≤ wr.heap.size by omega)
      have hb4 := (box_below hbk).trans (hb3.mono (by omega))
      clear hg3 hb3
      go_wp2
      go_ret
      refine ⟨⟨_, rfl, ?_⟩, hb4⟩
      rw [HF.out]
      exact HG.out
end Go.Proofs.Ytnajjfdbmdjcbaa
namespace Go.Proofs.Ytnajjfdbmdjcbaa
open Go.RowKit Go.WideShapes

theorem head_take {count : Int} {data : List Nat} {ws : Puts} (h : HasLog count data ws) : (nowN data ws ((16 : Nat) : Int)).take 128 = (logN data ws).take 128 := by
  have h1 : secAt (logN data ws) 0 = nowN data ws ((16 + 0 : Nat) : Int) := sec_logK (now_len h) (by omega)
  have h2 : (nowN data ws ((16 : Nat) : Int)).length = 128 := now_len h 0 (by omega)
  rw [List.take_of_length_le (by omega)]
  unfold secAt at h1
  simpa using h1.symm
theorem zeros_iff {ys : List Nat} (hl : ys.length = 128) : (∀ c ∈ (ys.take 128).drop 8, c = 0) ↔ ∀ j, 8 ≤ j → j < 128 → ys.getD j 0 = 0 := by
  rw [List.take_of_length_le (by omega)]
  constructor
  · intro h j h1 h2
    refine h _ ?_
    rw [List.mem_iff_getElem?]
    refine ⟨j - 8, ?_⟩
    rw [List.getElem?_drop, show 8 + (j - 8) = j by omega, List.getD_eq_getElem?_getD, List.getElem?_eq_getElem (by omega)]
    rfl
  · intro h c hc
    obtain ⟨i, hi⟩ := List.mem_iff_getElem?.1 hc
    rw [List.getElem?_drop] at hi
    have hlt : 8 + i < ys.length := by
      rcases Nat.lt_or_ge (8 + i) ys.length with h1 | h1
      · exact h1
      · rw [List.getElem?_eq_none h1] at hi; cases hi
    have := h (8 + i) (by omega) (by omega)
    rw [List.getD_eq_getElem?_getD, hi] at this
    exact this
set_option maxRecDepth 8000 in
set_option maxHeartbeats 1000000 in
theorem rhead_any (v : Value) (count : Int) (data : List Nat) (ws : Puts) (w : World) (hd : DiskIn w v count data ws) (h : HasLog count data ws) (E : Nat) (hE : epochN (logN data ws) = E) :
    Calls Try.prog 57 #[v] w fun e w' => e = .returned (.int .u32 E) ∧ Below w.heap.size w w' := by
  obtain ⟨p, c, q, m, rfl, _⟩ := hd.parts
  obtain ⟨ys, hys⟩ : ∃ ys, nowN data ws ((16 : Nat) : Int) = ys := ⟨_, rfl⟩
  have hlen : ys.length = 128 := by rw [← hys]; exact now_len h 0 (by omega)
  obtain ⟨J, hJ⟩ : ∃ J, joinN (ys.getD 0 0) (ys.getD 1 0) (ys.getD 2 0) (ys.getD 3 0) (ys.getD 4 0) (ys.getD 5 0) (ys.getD 6 0) (ys.getD 7 0) = J := ⟨_, rfl⟩
  have HR : Hid (((J < 4294967296 ∧ ∀ j, 8 ≤ j → j < 128 → ys.getD j 0 = 0) → J = E) ∧ (¬ (J < 4294967296 ∧ ∀ j, 8 ≤ j → j < 128 → ys.getD j 0 = 0) → 0 = E)) := by
    have := epoch_take (head_take h)
    rw [hys, hE] at this
    unfold epochN at this
    rw [hJ] at this
    refine ⟨fun h1 => ?_, fun h1 => ?_⟩
    · rw [if_pos ⟨h1.1, (zeros_iff hlen).2 h1.2⟩] at this; exact this
    · rw [if_neg (fun h2 => h1 ⟨h2.1, (zeros_iff hlen).1 h2.2⟩)] at this; exact this
  have HP : Hid (DiskIn w (.agg #[.int .i64 count, .slice p data.length c, .slice q ws.length m]) count data ws ∧ HasLog count data ws ∧ nowN data ws ((16 : Nat) : Int) = ys ∧ ys.length = 128) := ⟨hd, h, hys, hlen⟩
  have HJ : Hid _ := hJ
  clear hd h hys hE hJ hlen
  go_enter Try.func57, Try.ntmps57
  go_wp2_with fail
  refine (rnow_any _ 16 count data ws _ (HP.out.1.below (below_alloc w _)) HP.out.2.1.ok (by have := HP.out.2.1.big; omega)).mono ?_
  rintro e w1 ⟨⟨v1, rfl, hrow⟩, hb1⟩
  rw [HP.out.2.2.1] at hrow
  obtain ⟨p1, c1, rfl, hbi, hc1, hc2, _⟩ := hrow.form
  obtain ⟨b, o, rfl⟩ := hbi.addr (by have := HP.out.2.2.2; omega)
  have HB1 : Hid (Below w.heap.size w w1) := below_bt (below_alloc w _) hb1
  have HBI : Hid (BIn w1 (some ⟨b, o, none⟩) ys) := hbi
  rw [HP.out.2.2.2] at hc1 ⊢
  have hc1I : (128 : Int) ≤ (c1 : Int) := by omega
  have HG : Hid (∀ c', Calls Try.prog 68 #[.slice (some ⟨b, o, none⟩) 8 c'] w1 fun e w2 => e = .returned (.tuple #[.int .u64 J, .int .i64 0]) ∧ w2 = w1) := fun c' => by
    have h8 := HBI.out.take' 8
    rw [take8 (by have := HP.out.2.2.2; omega)] at h8
    have := refGet_ok (some ⟨b, o, none⟩) c' _ _ _ _ _ _ _ _ w1 h8
    rw [HJ.out] at this
    exact this
  clear hrow hbi hb1 hc2 HJ
  go_wp2_with fail
  refine (HG.out _).mono ?_
  rintro e w2 ⟨rfl, rfl⟩
  clear HG
  go_wp2
  go_loopw [6] (fun i wr => ∃ k : Nat, k ≤ 128 ∧ 8 ≤ k ∧ i = .int .i64 k ∧ wr = w2 ∧ Hid (∀ j, 8 ≤ j → j < k → ys.getD j 0 = 0)) (fun i _ => 128 - (intOf i).toNat)
  case atStart => exact ⟨8, by omega, by omega, rfl, rfl, fun j h1 h2 => by omega⟩
  case round =>
    obtain ⟨k, hk, hk8, rfl, rfl, HZ⟩ := hrel
    by_cases hkn : k < 128
    · have hkI : (k : Int) < 128 := by omega
      obtain ⟨y, hy⟩ : ∃ y, ys.getD k 0 = y := ⟨_, rfl⟩
      have x0 := HBI.out.cell k (by have := HP.out.2.2.2; omega)
      rw [hy] at x0
      have HY : Hid (ys.getD k 0 = y ∧ k < 128 ∧ 8 ≤ k) := ⟨hy, hkn, hk8⟩
      clear hy
      by_cases hy0 : y = 0
      · subst hy0
        go_wp2
        go_roundw
        case rel => exact ⟨k + 1, by omega, by omega, by go_num, by trivial, fun j h1 h2 => by
          by_cases hj : j = k
          · subst hj; exact HY.out.1
          · exact HZ.out j h1 (by omega)⟩
        case measure => simp [intOf]; omega
      · have g1 : ((y : Int) != 0) = true := by simpa using hy0
        have HF : Hid (0 = E) := HR.out.2 (fun h => hy0 (HY.out.1.symm.trans (h.2 k HY.out.2.2 HY.out.2.1)))
        go_wp2
        go_ret
        exact ⟨by rw [← HF.out]; rfl, HB1.out⟩
    · have hkE : k = 128 := by omega
      subst hkE
      clear hkn hk hk8
      by_cases hj : J < 4294967296
      · have g1 : decide ((4294967295 : Int) < (J : Int)) = false := decide_eq_false (by omega)
        have kw : IntKind.u32.wrap (J : Int) = J := by rw [IntKind.wrap_u32']; omega
        have HF : Hid (J = E) := HR.out.1 ⟨hj, HZ.out⟩
        clear hj
        go_wp2
        go_ret
        exact ⟨by rw [HF.out]; rfl, HB1.out⟩
      · have g1 : decide ((4294967295 : Int) < (J : Int)) = true := decide_eq_true (by omega)
        have HF : Hid (0 = E) := HR.out.2 (fun h => hj h.1)
        clear hj
        go_wp2
        go_ret
        exact ⟨by rw [← HF.out]; rfl, HB1.out⟩
end Go.Proofs.Ytnajjfdbmdjcbaa
namespace Go.Proofs.Ytnajjfdbmdjcbaa
open Go.RowKit Go.WideShapes

def zr : Array Value := #[.int .u32 0, .slice none 0 0, .int .i64 0, .int .u32 0]
theorem four4 {w : World} {g : Nat} {a b c d : Value} {t : TypeId} (h : w.heap[g]? = some (.cells #[a, b, c, d] t (0, 0))) : (w.cell? ⟨g, 0, none⟩ = some a ∧ w.cell? ⟨g, 1, none⟩ = some b ∧ w.cell? ⟨g, 2, none⟩ = some c ∧ w.cell? ⟨g, 3, none⟩ = some d) ∧ w.frozen? ⟨g, 0, none⟩ = false ∧ w.frozen? ⟨g, 1, none⟩ = false ∧ w.frozen? ⟨g, 2, none⟩ = false ∧ w.frozen? ⟨g, 3, none⟩ = false :=
  ⟨⟨cell_of_row w _ 0 _ _ _ h, cell_of_row w _ 1 _ _ _ h, cell_of_row w _ 2 _ _ _ h, cell_of_row w _ 3 _ _ _ h⟩, by simp [World.frozen?, h], by simp [World.frozen?, h], by simp [World.frozen?, h], by simp [World.frozen?, h]⟩
theorem below_set4 {w w' : World} {a b c d : Value} (h : Below w.heap.size w w') : Below w.heap.size w ((((w'.setCell ⟨w.heap.size + 1, 0, none⟩ a).setCell ⟨w.heap.size + 1, 1, none⟩ b).setCell ⟨w.heap.size + 1, 2, none⟩ c).setCell ⟨w.heap.size + 1, 3, none⟩ d) := (((h.setCell (Nat.le_succ _) _).setCell (Nat.le_succ _) _).setCell (Nat.le_succ _) _).setCell (Nat.le_succ _) _
theorem errL_cases {count : Int} {data : List Nat} {ws : Puts} {er : Int} (h : errL count data ws = er) (hne : er ≠ 0) : (¬ Okay count data ws ∧ er = 20) ∨ (Okay count data ws ∧ count < 80 ∧ er = 50) ∨ (HasLog count data ws ∧ epochN (logN data ws) = 0 ∧ er = 50) := by
  unfold errL at h
  by_cases h1 : Okay count data ws
  · by_cases h2 : count < 80
    · simp [h1, h2] at h; exact .inr (.inl ⟨h1, h2, h.symm⟩)
    · by_cases h3 : epochN (logN data ws) = 0
      · simp [h1, h2, h3] at h; exact .inr (.inr ⟨⟨h1, by omega⟩, h3, h.symm⟩)
      · simp [h1, h2, h3] at h; exact absurd h.symm hne
  · simp [h1] at h; exact .inl ⟨h1, h.symm⟩
set_option maxRecDepth 8000 in
set_option maxHeartbeats 1000000 in
theorem rOf_err (v : Value) (count : Int) (data : List Nat) (ws : Puts) (w : World) (hd : DiskIn w v count data ws) (er : Int) (he : errL count data ws = er) (hne : er ≠ 0) :
    Calls Try.prog 54 #[v] w fun e w' => e = .returned (.tuple #[.agg #[.int .u32 0, .slice none 0 0, .int .i64 0, .int .u32 0], .int .i64 er]) ∧ Below w.heap.size w w' := by
  obtain ⟨p, c, q, m, rfl, _⟩ := hd.parts
  have HD : Hid _ := hd
  have hcs := errL_cases he hne
  clear hd he
  go_enter Try.func54, Try.ntmps54
  go_wp2_with fail
  refine (rcheck_any _ count data ws _ (HD.out.below ((below_alloc w _).alloc (by simp) _))).mono ?_
  rintro e w1 ⟨rfl, hb1⟩
  have HB1 : Hid (Below w.heap.size w w1) := below_bt ((below_alloc w _).alloc (by simp) _) hb1
  have HX : Hid (w1.heap[w.heap.size + 1]? = some (.cells zr 107 (0, 0))) := (hb1.block _ (by simp)).trans (heap_alloc2_new w _ _)
  have HY : Hid (w1.heap[w.heap.size]? = some (.cells #[.int .i64 count, .slice p data.length c, .slice q ws.length m] 25 (0, 0))) := (hb1.block _ (by simp; omega)).trans (heap_alloc2_old w _ _)
  obtain ⟨⟨x0, x1, x2, x3⟩, y0, y1, y2, y3⟩ := four4 (show w1.heap[w.heap.size + 1]? = some (.cells #[.int .u32 0, .slice none 0 0, .int .i64 0, .int .u32 0] 107 (0, 0)) from HX.out)
  obtain ⟨d0, d1, d2, _⟩ := box3 HY.out
  clear hb1
  rcases hcs with ⟨h1, rfl⟩ | ⟨h1, h2, rfl⟩ | ⟨h1, h2, rfl⟩
  · rw [errC_bad h1]
    clear h1 hne
    go_wp2
    (try simp only [Exit.inBlock, Exit.then])
    refine bodyPost_ret (v := .tuple #[.agg #[.int .u32 0, .slice none 0 0, .int .i64 0, .int .u32 0], .int .i64 20]) ?_ rfl ⟨rfl, below_set4 HB1.out⟩
    rw [results_cell_tmp rfl]
    go_simp
  · rw [errC_ok h1]
    clear h1 hne
    go_wp2
    (try simp only [Exit.inBlock, Exit.then])
    refine bodyPost_ret (v := .tuple #[.agg #[.int .u32 0, .slice none 0 0, .int .i64 0, .int .u32 0], .int .i64 50]) ?_ rfl ⟨rfl, below_set4 HB1.out⟩
    rw [results_cell_tmp rfl]
    go_simp
  · rw [errC_ok h1.ok]
    have HH : Hid (HasLog count data ws ∧ epochN (logN data ws) = 0) := ⟨h1, h2⟩
    have hc80 : ¬ count < 80 := by have := h1.big; omega
    clear h1 h2 hne
    go_wp2_with fail
    refine (rhead_any _ count data ws _ (HD.out.below HB1.out) HH.out.1 0 HH.out.2).mono ?_
    rintro e w2 ⟨rfl, hb2⟩
    have HB2 : Hid (Below w.heap.size w w2) := below_bt HB1.out hb2
    have HX2 : Hid (w2.heap[w.heap.size + 1]? = some (.cells zr 107 (0, 0))) := (hb2.block _ (lt_heap HX.out)).trans HX.out
    have hlt2 : w.heap.size + 1 < w2.heap.size := lt_heap HX2.out
    have HX3 : Hid ((w2.alloc (.cells #[.int .u32 0, .slice none 0 0, .int .i64 0, .int .u32 0] 107)).heap[w.heap.size + 1]? = some (.cells zr 107 (0, 0))) := ((below_alloc w2 _).block _ hlt2).trans HX2.out
    clear x0 x1 x2 x3 y0 y1 y2 y3 d0 d1 d2 hb2
    obtain ⟨⟨x0, x1, x2, x3⟩, y0, y1, y2, y3⟩ := four4 (show w2.heap[w.heap.size + 1]? = some (.cells #[.int .u32 0, .slice none 0 0, .int .i64 0, .int .u32 0] 107 (0, 0)) from HX2.out)
    go_wp2
    (try simp only [Exit.inBlock, Exit.then])
    refine bodyPost_ret (v := .tuple #[.agg #[.int .u32 0, .slice none 0 0, .int .i64 0, .int .u32 0], .int .i64 50]) ?_ rfl ⟨rfl, ?_⟩
    · rw [results_cell_tmp rfl]
      go_simp
    · first
        | exact below_set4 (below_bt HB2.out (below_alloc _ _))
        | exact below_bt (below_set4 HB2.out) (below_alloc _ _)
end Go.Proofs.Ytnajjfdbmdjcbaa
namespace Go.Proofs.Ytnajjfdbmdjcbaa
open Go.RowKit Go.WideShapes

theorem logK_len {count : Int} {data : List Nat} {ws : Puts} (h : HasLog count data ws) : ∀ k, k ≤ 64 → (logK data ws k).length = k * 128
  | 0, _ => rfl
  | k + 1, hk => by
    rw [logK_snoc, List.length_append, logK_len h k (by omega), now_len h k (by omega)]
    omega
theorem logT_snoc {count : Int} {data : List Nat} {ws : Puts} (h : HasLog count data ws) (k : Nat) (hk : k < 63) : (logK data ws (k + 1)).drop 128 ++ nowN data ws ((17 + k : Nat) : Int) = (logK data ws (k + 1 + 1)).drop 128 := by
  rw [logK_snoc data ws (k + 1), List.drop_append_of_le_length (by rw [logK_len h _ (by omega)]; omega)]
  rw [show 16 + (k + 1) = 17 + k by omega]
/-- What is known while the log is read. -/
structure Lr (w wr : World) (g b : Nat) (A C : Array Value) (rv : Value) (l : List (List Nat)) : Prop where
  own : wr.ownsRow w.heap.size 9 1 rv l.length (l.map fun r => .string (strOf r))
  bel : Below w.heap.size w wr
  box : wr.heap[g]? = some (.cells C 107 (0, 0))
  res : wr.heap[w.heap.size + 1]? = some (.cells zr 107 (0, 0))
  gt : w.heap.size + 1 < g
  blk : wr.heap[b]? = some (.cells A 5 (0, 0))
theorem Lr.call {w wr w1 : World} {g b : Nat} {A C : Array Value} {rv : Value} {l : List (List Nat)} (h : Lr w wr g b A C rv l) (hb : Below wr.heap.size wr w1) : Lr w w1 g b A C rv l :=
  ⟨own_below h.own hb, below_bt h.bel hb, (hb.block _ (lt_heap h.box)).trans h.box, (hb.block _ (lt_heap h.res)).trans h.res, h.gt, (hb.block _ (lt_heap h.blk)).trans h.blk⟩
theorem Lr.set {w wr : World} {g b : Nat} {A C : Array Value} {rv : Value} {l : List (List Nat)} (h : Lr w wr g b A C rv l) (i : Nat) (u : Value) : Lr w (wr.setCell ⟨g, i, none⟩ u) g b A (C.setIfInBounds i u) rv l :=
  ⟨World.ownsRow.kept h.own (grown_set wr g i u) (.inr (own_neT h.own h.box (by decide))), h.bel.setCell (by have := h.gt; show w.heap.size ≤ g; omega) _, block_set h.box u,
   (Below.heap_setCell wr ⟨g, i, none⟩ u _ (by have := h.gt; show w.heap.size + 1 ≠ g; omega)).trans h.res, h.gt, (Below.heap_setCell wr ⟨g, i, none⟩ u b (ne_type h.blk h.box (by decide))).trans h.blk⟩
theorem Lr.app {w wr w2 : World} {g b : Nat} {A C : Array Value} {rv v2 : Value} {l : List (List Nat)} {r : List Nat} (h : Lr w wr g b A C rv l) (ho : w2.ownsRow w.heap.size 9 1 v2 (l.length + 1) ((l.map fun r => .string (strOf r)) ++ [.string (strOf r)])) (hg : wr.grownBy w2 rv.ownBlock) : Lr w w2 g b A C v2 (l ++ [r]) :=
  ⟨by rw [List.length_append, List.map_append]; exact ho, h.bel.grown hg h.bel.size (fun k hk => (World.ownsRow.lt h.own k hk).1), blk_grownT h.own hg h.box (by decide), blk_grownT h.own hg h.res (by decide), h.gt, blk_grownT h.own hg h.blk (by decide)⟩
theorem Lr.three {w ua : World} {g b : Nat} {A : Array Value} {x0 x1 x2 x3 : Value} {rv : Value} {l : List (List Nat)} (h : Lr w ua g b A #[x0, x1, x2, x3] rv l) (v1 v2 v3 : Value) :
    Lr w (((ua.setCell ⟨g, 1, none⟩ v1).setCell ⟨g, 2, none⟩ v2).setCell ⟨g, 3, none⟩ v3) g b A #[x0, v1, v2, v3] rv l := ((h.set 1 v1).set 2 v2).set 3 v3
theorem fin_lr {w w2 : World} {g b : Nat} {A C : Array Value} {rv : Value} {l : List (List Nat)} (h : Lr w w2 g b A C rv l) (v0 v1 v2 v3 : Value) :
    ((((w2.setCell ⟨w.heap.size + 1, 0, none⟩ v0).setCell ⟨w.heap.size + 1, 1, none⟩ v1).setCell ⟨w.heap.size + 1, 2, none⟩ v2).setCell ⟨w.heap.size + 1, 3, none⟩ v3).ownsRow w.heap.size 9 1 rv l.length (l.map fun r => .string (strOf r)) ∧
    Below w.heap.size w ((((w2.setCell ⟨w.heap.size + 1, 0, none⟩ v0).setCell ⟨w.heap.size + 1, 1, none⟩ v1).setCell ⟨w.heap.size + 1, 2, none⟩ v2).setCell ⟨w.heap.size + 1, 3, none⟩ v3) := by
  have hn := own_neT h.own h.res (by decide)
  exact ⟨World.ownsRow.kept (World.ownsRow.kept (World.ownsRow.kept (World.ownsRow.kept h.own (grown_set _ _ _ _) (.inr hn)) (grown_set _ _ _ _) (.inr hn)) (grown_set _ _ _ _) (.inr hn)) (grown_set _ _ _ _) (.inr hn), below_set4 h.bel⟩
theorem fourB {w w' : World} {g : Nat} {a b c d : Value} {t : TypeId} (h : w.heap[g]? = some (.cells #[a, b, c, d] t (0, 0))) (hb : Below w.heap.size w w') : w'.cell? ⟨g, 0, none⟩ = some a ∧ w'.cell? ⟨g, 1, none⟩ = some b ∧ w'.cell? ⟨g, 2, none⟩ = some c ∧ w'.cell? ⟨g, 3, none⟩ = some d := (four4 ((hb.block _ (lt_heap h)).trans h)).1
def OfOk (w : World) (E : Nat) (ys : List Nat) (e : Ending) (w' : World) : Prop :=
  ∃ (rv : Value) (l : List (List Nat)) (a la : Nat) (t : List Nat), e = .returned (.tuple #[.agg #[.int .u32 E, rv, .int .i64 (a : Nat), .int .u32 (la : Nat)], .int .i64 0]) ∧ Recs E 0 ys l a la t ∧ w'.ownsRow w.heap.size 9 1 rv l.length (l.map fun r => .string (strOf r)) ∧ Below w.heap.size w w'
set_option maxRecDepth 8000 in
set_option maxHeartbeats 2000000 in
theorem rOf_ok (v : Value) (count : Int) (data : List Nat) (ws : Puts) (w : World) (hd : DiskIn w v count data ws) (h : HasLog count data ws) (E : Nat) (hE : epochN (logN data ws) = E) (hE0 : E ≠ 0) :
    Calls Try.prog 54 #[v] w (OfOk w E ((logN data ws).drop 128)) := by
  obtain ⟨p, c, q, m, rfl, _⟩ := hd.parts
  have HD : Hid _ := hd
  have HH : Hid (HasLog count data ws ∧ epochN (logN data ws) = E ∧ E ≠ 0) := ⟨h, hE, hE0⟩
  have hc80 : ¬ count < 80 := by have := h.big; omega
  have g0 := beq0 hE0
  have hok := h.ok
  clear hd h hE hE0
  go_enter Try.func54, Try.ntmps54
  go_wp2_with fail
  refine (rcheck_any _ count data ws _ (HD.out.below ((below_alloc w _).alloc (by simp) _))).mono ?_
  rintro e w1 ⟨rfl, hb1⟩
  rw [errC_ok hok]
  have HB1 : Hid (Below w.heap.size w w1) := below_bt ((below_alloc w _).alloc (by simp) _) hb1
  have HX : Hid (w1.heap[w.heap.size + 1]? = some (.cells zr 107 (0, 0))) := (hb1.block _ (by simp)).trans (heap_alloc2_new w _ _)
  have HY : Hid (w1.heap[w.heap.size]? = some (.cells #[.int .i64 count, .slice p data.length c, .slice q ws.length m] 25 (0, 0))) := (hb1.block _ (by simp; omega)).trans (heap_alloc2_old w _ _)
  obtain ⟨d0, d1, d2, _⟩ := box3 HY.out
  clear hb1 hok
  go_wp2_with fail
  refine (rhead_any _ count data ws _ (HD.out.below HB1.out) HH.out.1 E HH.out.2.1).mono ?_
  rintro e w2 ⟨rfl, hb2⟩
  have HB2 : Hid (Below w.heap.size w w2) := below_bt HB1.out hb2
  have HX2 : Hid (w2.heap[w.heap.size + 1]? = some (.cells zr 107 (0, 0))) := (hb2.block _ (lt_heap HX.out)).trans HX.out
  have HY2 : Hid (w2.heap[w.heap.size]? = some (.cells #[.int .i64 count, .slice p data.length c, .slice q ws.length m] 25 (0, 0))) := (hb2.block _ (lt_heap HY.out)).trans HY.out
  obtain ⟨g, hg⟩ : ∃ g, w2.heap.size = g := ⟨_, rfl⟩
  have HG : Hid (w2.heap.size = g ∧ w.heap.size + 1 < g) := ⟨hg, by rw [← hg]; exact lt_heap HX2.out⟩
  have HS0 : Hid (St w [(w.heap.size, #[.int .i64 count, .slice p data.length c, .slice q ws.length m], 25), (w.heap.size + 1, zr, 107), (g, #[.int .u32 E, .slice none 0 0, .int .i64 0, .int .u32 0], 107)] (w2.alloc (.cells #[.int .u32 E, .slice none 0 0, .int .i64 0, .int .u32 0] 107)) (.slice none 0 0) []) := by
    refine ⟨World.ownsRow_nil _ _ _ _, below_bt HB2.out (below_alloc _ _), fun y hy => ?_⟩
    simp only [List.mem_cons, List.not_mem_nil, or_false] at hy
    rcases hy with rfl | rfl | rfl
    · exact ⟨((below_alloc w2 _).block _ (lt_heap HY2.out)).trans HY2.out, by show (25 : Nat) ≠ 5; decide⟩
    · exact ⟨((below_alloc w2 _).block _ (lt_heap HX2.out)).trans HX2.out, by show (107 : Nat) ≠ 5; decide⟩
    · rw [← hg]; exact ⟨heap_alloc_new _ _, by show (107 : Nat) ≠ 5; decide⟩
  have HH0 : Hid (HasLog count data ws) := HH.out.1
  clear hb2 d0 d1 d2 hg
  go_wp2
  go_loopw [6, 7] (fun b i wr => ∃ k : Nat, k ≤ 63 ∧ i = .int .i64 ((17 + k : Nat) : Int) ∧ Hid (∀ c ∈ (logK data ws (k + 1)).drop 128, c < 256) ∧ St w [(w.heap.size, #[.int .i64 count, .slice p data.length c, .slice q ws.length m], 25), (w.heap.size + 1, zr, 107), (g, #[.int .u32 E, .slice none 0 0, .int .i64 0, .int .u32 0], 107)] wr b ((logK data ws (k + 1)).drop 128)) (fun _ i _ => 80 - (intOf i).toNat)
  case atStart =>
    have h0 : (logK data ws (0 + 1)).drop 128 = [] := List.drop_eq_nil_of_le (by rw [logK_len HH0.out 1 (by omega)]; omega)
    have h1 : Hid (∀ c ∈ (logK data ws (0 + 1)).drop 128, c < 256) := by show ∀ c ∈ _, _; rw [h0]; intro c hc; cases hc
    have h2 := HS0.out.eq h0.symm
    first
      | exact ⟨0, by omega, rfl, h1, h2⟩
      | exact ⟨0, by omega, rfl, rfl, h1, h2⟩
  case round =>
    obtain ⟨k, hk, rfl, HBY, hst⟩ := hrel
    clear HS0 HX HY HX2 HY2 HB1 HB2
    have HST : Hid _ := hst
    by_cases hk63 : k < 63
    · have hkI : ((17 + k : Nat) : Int) < 80 := by omega
      have r0 : wr.cell? ⟨w.heap.size, 0, none⟩ = some (.int .i64 count) := hst.cell (List.Mem.head _) 0
      have r1 : wr.cell? ⟨w.heap.size, 1, none⟩ = some (.slice p data.length c) := hst.cell (List.Mem.head _) 1
      have r2 : wr.cell? ⟨w.heap.size, 2, none⟩ = some (.slice q ws.length m) := hst.cell (List.Mem.head _) 2
      have HK : Hid (k < 63) := hk63
      clear hst hk63
      obtain ⟨j, hj⟩ : ∃ j, 17 + k = j := ⟨_, rfl⟩
      have HJ : Hid (17 + k = j) := hj
      rw [hj] at hkI ⊢
      clear hj
      go_wp2_with fail
      refine (rnow_any _ j count data ws _ (HD.out.below HST.out.bel) HH0.out.ok (by omega)).mono ?_
      rintro e w3 ⟨⟨v3, rfl, hrow⟩, hb3⟩
      have hl3 : (nowN data ws j).length = 128 := nowN_len HH0.out.ok (by omega)
      obtain ⟨p3, c3, rfl, hbi, hc3, hc4, _⟩ := hrow.form
      obtain ⟨b3, o3, rfl⟩ := hbi.addr (by omega)
      rw [hl3]
      have HI2 : Hid (BIn w3 (some ⟨b3, o3, none⟩) (nowN data ws j)) := hbi
      have HN : Hid ((nowN data ws j).length = 128 ∧ ∀ c ∈ nowN data ws j, c < 256) := ⟨hl3, hbi.2⟩
      have S2 := HST.out.call hb3
      have hsz2 := S2.size
      have HS2 : Hid _ := S2
      clear S2 hb3 HST r0 r1 r2 hrow hbi hl3 hc3 hc4
      go_wp2_with (at_builtin; refine wpList_append_bytes _ rfl _ _ rfl w.heap.size _ _ (nowN data ws j) (some ⟨b3, o3, none⟩) _ c3 rfl rfl HN.out.1.symm HS2.out.own HI2.out (fun h => by cases h) (by have := HN.out.1; have := logK_len HH0.out (k + 1) (by have := HK.out; omega); have := HK.out; rw [List.length_drop]; omega) hsz2 ?_; intro v4 w4 ho4 hg4; have S3 := HS2.out.app ho4 hg4; have HS3 : Hid _ := S3; clear S3 ho4 hg4)
      go_roundw
      case rel =>
        have hj := HJ.out
        subst hj
        refine ⟨k + 1, by have := HK.out; omega, by go_num, fun c hc => ?_, HS3.out.eq (logT_snoc HH0.out k HK.out)⟩
        rw [← logT_snoc HH0.out k HK.out] at hc
        rcases List.mem_append.1 hc with h1 | h1
        · exact HBY.out c h1
        · exact HN.out.2 c h1
      case measure => simp [intOf]; omega
    · obtain rfl : k = 63 := by omega
      clear hst hk hk63
      rw [show ((17 + 63 : Nat) : Int) = 80 from rfl]
      obtain ⟨zs, hzs⟩ : ∃ zs, (logK data ws (63 + 1)).drop 128 = zs := ⟨_, rfl⟩
      have hzl : zs.length = 63 * 128 := by rw [← hzs, List.length_drop, logK_len HH0.out _ (by omega)]
      obtain ⟨bb, cc, A, hv, hbg, hcc1, hcc2, hblk, hbin⟩ := own_row5 HST.out.own (by rw [hzs, hzl]; omega) rfl HBY.out
      subst hv
      rw [hzs] at hcc1 hbin ⊢
      obtain ⟨n, hn⟩ : ∃ n, zs.length = n := ⟨_, rfl⟩
      rw [hn] at hcc1 ⊢
      have HZS : Hid ((logN data ws).drop 128 = zs ∧ zs.length = 63 * 128 ∧ n = 63 * 128) := ⟨hzs, hzl, by omega⟩
      have HBI : Hid (∀ w' : World, w'.heap[bb]? = some (.cells A 5 (0, 0)) → BIn w' (some ⟨bb, 0, none⟩) zs) := hbin
      have HL0 : Hid (Lr w wr g bb A #[.int .u32 E, .slice none 0 0, .int .i64 0, .int .u32 0] (.slice none 0 0) []) :=
        ⟨World.ownsRow_nil _ _ _ _, HST.out.bel, (HST.out.box _ (List.Mem.tail _ (List.Mem.tail _ (List.Mem.head _)))).1, (HST.out.box _ (List.Mem.tail _ (List.Mem.head _))).1, HG.out.2, hblk⟩
      have HE32 : Hid (E < 4294967296) := by have := epochN_lt (logN data ws); have := HH.out.2.1; show _ < _; omega
      obtain ⟨i0, hi, hz0, hz1, hz2⟩ := info_parts info9
      have HC : Hid (n ≤ cc ∧ cc ≤ maxLen) := ⟨hcc1, hcc2⟩
      have hcI : (n : Int) ≤ cc := by omega
      clear hbg hcc1 hcc2 hblk hbin hzl hn HST HBY
      rw [HG.out.1]
      go_wp2
      go_loopw [10] (fun _ wr => ∃ (rv : Value) (l : List (List Nat)) (a la : Nat) (ai : Int), ai = a ∧ Lr w wr g bb A #[.int .u32 E, rv, .int .i64 ai, .int .u32 la] rv l ∧ a ≤ 63 ∧ la < 4294967296 ∧ l.length ≤ a ∧ (∀ l' a' la' t', Recs E la (zs.drop (a * 128)) l' a' la' t' → Recs E 0 zs (l ++ l') (a + a') la' t')) (fun _ wr => 63 - (intOf (cellAt wr ⟨g, 2, none⟩)).toNat)
      case atStart => exact ⟨_, [], 0, 0, 0, rfl, HL0.out, by omega, by omega, Nat.le_refl _, fun l' a' la' t' h => by simpa using h⟩
      case round =>
        obtain ⟨rv, l, a, la, ai, hai, hld, ha, hla, hll, hrec⟩ := hrel
        obtain ⟨rq, rm, rfl, hrm, hrm2, _⟩ := own_form hld.own
        clear HL0
        obtain ⟨xs, hxs⟩ : ∃ xs, zs.drop (a * 128) = xs := ⟨_, rfl⟩
        rw [hxs] at hrec
        have HXL : Hid (n - a * 128 = xs.length) := by show _ = _; rw [← hxs, List.length_drop, HZS.out.2.1, HZS.out.2.2]
        have HA : Hid (ai = a ∧ a ≤ 63 ∧ la < 4294967296 ∧ l.length ≤ a ∧ zs.drop (a * 128) = xs) := ⟨hai, ha, hla, hll, hxs⟩
        have HREC : Hid (∀ l' a' la' t', Recs E la xs l' a' la' t' → Recs E 0 zs (l ++ l') (a + a') la' t') := hrec
        have HL : Hid (Lr w wr g bb A #[.int .u32 E, .slice rq l.length rm, .int .i64 ai, .int .u32 la] (.slice rq l.length rm) l) := hld
        obtain ⟨⟨e0, e1, e2, e3⟩, _⟩ := four4 hld.box
        have HC2 : Hid (cellAt wr ⟨g, 2, none⟩ = .int .i64 ai) := cell_at e2
        have k2 : IntKind.i64.wrap (ai * 128) = ai * 128 := by rw [IntKind.wrap_i64]; omega
        have t1 : (ai * 128).toNat = a * 128 := by omega
        have hlo : (0 : Int) ≤ ai * 128 := by omega
        have hhi : ai * 128 ≤ (n : Int) := by have := HZS.out.2.2; omega
        have HBX : Hid (∀ (w' : World) (q' : Option Addr), w'.heap[bb]? = some (.cells A 5 (0, 0)) → (q' = some ⟨bb, a * 128, none⟩ ∨ a = 63) → BIn w' q' xs) := fun w' q' hw hq => by
          rcases hq with hq | hq
          · rw [hq, ← hxs]
            have := (HBI.out w' hw).drop' (a * 128)
            rw [Nat.zero_add] at this
            exact this
          · have h0 : xs = [] := by
              have h1 := HXL.out
              have h2 := HZS.out.2.2
              exact List.length_eq_zero_iff.1 (by omega)
            rw [h0]
            exact ⟨fun h => absurd h (by simp), fun c hc => by cases hc⟩
        obtain ⟨R1, R2, R3, R4, hR⟩ : ∃ R1 R2 R3 R4, openR E la xs = (R1, R2, R3, R4) := ⟨_, _, _, _, rfl⟩
        have HR : Hid (openR E la xs = (R1, R2, R3, R4)) := hR
        have HOP : Hid (∀ (w' : World) (q' : Option Addr) (c' : Nat), Below wr.heap.size wr w' → n - a * 128 ≤ c' → (q' = some ⟨bb, a * 128, none⟩ ∨ a = 63) → Calls Try.prog 21 #[.int .u32 E, .int .u32 la, .slice q' (n - a * 128) c'] w' fun x w2 => x = .returned (.tuple #[.string R1, .int .u32 R2, .int .i64 R3, .int .i64 R4]) ∧ Below w'.heap.size w' w2) := fun w' q' c' hb' hc' hq => rOpen_any E la _ c' q' xs w' HE32.out HA.out.2.2.1 HXL.out hc' (HBX.out _ _ (HL.out.call hb').blk hq) (by have := HZS.out.2.2; omega) _ HR.out
        clear hR
        have HCA : Hid (n - a * 128 ≤ cc - a * 128 ∧ (cc = a * 128 → a = 63)) := by have := HZS.out.2.2; have := HC.out; show _ ∧ _; omega
        clear hld hai ha hla hll hrec hxs
        go_upto_region 14 with fail
        by_cases hce : cc = a * 128
        · have HCE : Hid (a = 63) := HCA.out.2 hce
          have HNO : Hid (∀ s r, ¬ IsRec E la xs s r) := no_short (by have h1 := HXL.out; have h2 := HZS.out.2.2; have h3 := HCE.out; omega)
          go_region_held3 (fun w' => (w'.cell? ⟨g, 0, none⟩ = some (.int .u32 E) ∧ w'.cell? ⟨g, 1, none⟩ = some (.slice rq l.length rm) ∧ w'.cell? ⟨g, 2, none⟩ = some (.int .i64 ai) ∧ w'.cell? ⟨g, 3, none⟩ = some (.int .u32 la)) ∧ Below wr.heap.size wr w')
            (with_reducible first | exact ⟨fourB HL.out.box (Below.refl _ _).drew, (Below.refl _ _).drew⟩ | exact ⟨fourB HL.out.box (below_dw (by assumption)), below_dw (by assumption)⟩ | assumption)
            (first | (go_at_call 21; refine (HOP.out _ _ _ (Below.refl _ _).drew (by first | exact HCA.out.1 | (have := HCA.out; omega)) (.inr HCE.out)).mono ?_; rintro e5 w5 ⟨rfl, hb5⟩) | fail)
          rename_i hh
          have HB5 : Hid (Below wr.heap.size wr w5) := hh.2
          have HL5 : Hid (Lr w w5 g bb A #[.int .u32 E, .slice rq l.length rm, .int .i64 ai, .int .u32 la] (.slice rq l.length rm) l) := HL.out.call HB5.out
          have hg5 : g < w5.heap.size := lt_heap HL5.out.box
          have hg6 : ¬ g = w5.heap.size := by omega
          have hg7 : ¬ w5.heap.size = g := by omega
          clear e0 e1 e2 e3 HL HOP HBX HCA k2 t1 hlo hhi hh hb5
          obtain ⟨⟨e0, e1, e2, e3⟩, f0, f1, f2, f3⟩ := four4 HL5.out.box
          have hinj := HR.out.symm.trans (openR_no HH.out.2.2 HNO.out)
          simp only [Prod.mk.injEq] at hinj
          obtain ⟨rfl, rfl, rfl, rfl⟩ := hinj
          obtain ⟨⟨x0, x1, x2, x3⟩, y0, y1, y2, y3⟩ := four4 (show w5.heap[w.heap.size + 1]? = some (.cells #[.int .u32 0, .slice none 0 0, .int .i64 0, .int .u32 0] 107 (0, 0)) from HL5.out.res)
          go_wp2
          (try simp only [Exit.inBlock, Exit.then])
          refine bodyPost_ret (v := .tuple #[.agg #[.int .u32 E, .slice rq l.length rm, .int .i64 ai, .int .u32 la], .int .i64 0]) ?_ rfl ?_
          · rw [results_cell_tmp rfl]
            go_simp
          · obtain ⟨f1, f2⟩ := fin_lr HL5.out (.int .u32 E) (.slice rq l.length rm) (.int .i64 ai) (.int .u32 la)
            have h4 := HREC.out [] 0 la xs (.stop HNO.out)
            exact ⟨_, l, a, la, xs, by rw [HA.out.1], by rw [HZS.out.1]; simpa using h4, f1, f2⟩
        · have hce' : ¬ cc - a * 128 = 0 := by have := HC.out; have := HZS.out.2.2; have := HA.out; omega
          go_region_held3 (fun w' => (w'.cell? ⟨g, 0, none⟩ = some (.int .u32 E) ∧ w'.cell? ⟨g, 1, none⟩ = some (.slice rq l.length rm) ∧ w'.cell? ⟨g, 2, none⟩ = some (.int .i64 ai) ∧ w'.cell? ⟨g, 3, none⟩ = some (.int .u32 la)) ∧ Below wr.heap.size wr w')
            (with_reducible first | exact ⟨fourB HL.out.box (Below.refl _ _).drew, (Below.refl _ _).drew⟩ | exact ⟨fourB HL.out.box (below_dw (by assumption)), below_dw (by assumption)⟩ | assumption)
            (first | (go_at_call 21; refine (HOP.out _ _ _ (Below.refl _ _).drew HCA.out.1 (.inl rfl)).mono ?_; rintro e5 w5 ⟨rfl, hb5⟩) | fail)
          rename_i hh
          have HB5 : Hid (Below wr.heap.size wr w5) := hh.2
          have HL5 : Hid (Lr w w5 g bb A #[.int .u32 E, .slice rq l.length rm, .int .i64 ai, .int .u32 la] (.slice rq l.length rm) l) := HL.out.call HB5.out
          have hg5 : g < w5.heap.size := lt_heap HL5.out.box
          have hg6 : ¬ g = w5.heap.size := by omega
          have hg7 : ¬ w5.heap.size = g := by omega
          clear e0 e1 e2 e3 HL HOP HBX HCA k2 t1 hlo hhi hh hb5
          obtain ⟨⟨e0, e1, e2, e3⟩, f0, f1, f2, f3⟩ := four4 HL5.out.box
          by_cases hyes : ∃ s r, IsRec E la xs s r
          · obtain ⟨s, r, hsr⟩ := hyes
            have HSR : Hid (IsRec E la xs s r) := hsr
            obtain ⟨n', hn'⟩ : ∃ n', needsN r.length = n' := ⟨_, rfl⟩
            have hp' := needsN_pos r.length
            have hl' := rec_len hsr
            have hopen : openR E la xs = (strOf r, s, n', 0) := by rw [← hn']; exact openR_yes HH.out.2.2 HE32.out HA.out.2.2.1 hsr
            have hinj := HR.out.symm.trans hopen
            simp only [Prod.mk.injEq] at hinj
            obtain ⟨rfl, rfl, rfl, rfl⟩ := hinj
            rw [hn'] at hp' hl'
            have HN' : Hid (needsN r.length = R3 ∧ 0 < R3 ∧ R3 * 128 ≤ n - a * 128 ∧ R2 < 4294967296) := ⟨hn', hp', by rw [HXL.out]; exact hl', hsr.salt⟩
            have hn0 : ((R3 : Int) == 0) = false := by simp; omega
            have k1 : IntKind.i64.wrap (ai + (R3 : Int)) = ai + R3 := by rw [IntKind.wrap_i64]; have := HN'.out; have := HA.out; have := HZS.out.2.2; omega
            have hA : a + R3 ≤ 63 := by have := HN'.out; have := HZS.out.2.2; omega
            have HLN : Hid (l.length ≤ 63) := by have := HA.out; show _ ≤ _; omega
            have HNX : Hid (∀ l' a' la' t', Recs E R2 (zs.drop ((a + R3) * 128)) l' a' la' t' → Recs E 0 zs ((l ++ [r]) ++ l') (a + R3 + a') la' t') := fun l' a' la' t' h => by
              have e1 : zs.drop ((a + R3) * 128) = xs.drop (needsN r.length * 128) := by rw [HN'.out.1, ← HA.out.2.2.2.2, List.drop_drop]; congr 1; omega
              rw [e1] at h
              have := HREC.out _ _ _ _ (.next HSR.out h)
              rw [HN'.out.1] at this
              rw [List.append_assoc, Nat.add_assoc]
              exact this
            clear hsr hn' hp' hl' hopen HR
            have HW4 : Hid (Lr w (w5.alloc (.cells #[.string (strOf r)] 9)) g bb A #[.int .u32 E, .slice rq l.length rm, .int .i64 ai, .int .u32 la] (.slice rq l.length rm) l) := HL5.out.call (below_alloc _ _)
            have HCL : Hid (∀ j u, [Value.string (strOf r)][j]? = some u → (w5.alloc (.cells #[.string (strOf r)] 9)).cell? ((⟨w5.heap.size, 0, none⟩ : Addr).add j) = some u) := string_cells w5 (strOf r) 9
            have HONE : Hid (∀ v ∈ [Value.string (strOf r)], v.oneCell' = true) := by intro v hv; simp only [List.mem_cons, List.not_mem_nil, or_false] at hv; subst hv; rfl
            go_wp2_with (at_builtin; go_loud (refine wpList_append_own _ rfl _ _ 29 rfl w.heap.size 9 i0 _ 1 16 Try.underlying29 hi hz0 hz1 hz2 rfl (by omega) _ _ _ rfl HW4.out.own ⟨w5.heap.size, 0, none⟩ 1 1 [.string (strOf r)] rfl rfl HCL.out HONE.out (by have := HLN.out; unfold maxLen; omega) (by have := HLN.out; omega) HW4.out.bel.size ?_); intro va ua hoa hga _; obtain ⟨vq, vm, rfl, _, _, _⟩ := own_form hoa; have L5 := HW4.out.app hoa hga; obtain ⟨⟨d0, d1, d2, d3⟩, m0, m1, m2, m3⟩ := four4 L5.box; have HL6 : Hid _ := L5; clear L5)
            go_roundw
            case rel =>
              refine ⟨_, l ++ [r], a + R3, R2, ai + R3, ?_, HL6.out.three _ _ _, hA, HN'.out.2.2.2, ?_, HNX.out⟩
              · have := HA.out.1; omega
              · have := HA.out; have := HN'.out; simp; omega
            case measure =>
              rw [HC2.out, cell_at (four4 (HL6.out.three _ _ _).box).1.2.2.1]
              simp only [intOf]
              have := HN'.out
              have := HA.out
              omega
          · have HNO : Hid (∀ s r, ¬ IsRec E la xs s r) := fun s r h => hyes ⟨s, r, h⟩
            clear hyes
            have hinj := HR.out.symm.trans (openR_no HH.out.2.2 HNO.out)
            simp only [Prod.mk.injEq] at hinj
            obtain ⟨rfl, rfl, rfl, rfl⟩ := hinj
            obtain ⟨⟨x0, x1, x2, x3⟩, y0, y1, y2, y3⟩ := four4 (show w5.heap[w.heap.size + 1]? = some (.cells #[.int .u32 0, .slice none 0 0, .int .i64 0, .int .u32 0] 107 (0, 0)) from HL5.out.res)
            go_wp2
            (try simp only [Exit.inBlock, Exit.then])
            refine bodyPost_ret (v := .tuple #[.agg #[.int .u32 E, .slice rq l.length rm, .int .i64 ai, .int .u32 la], .int .i64 0]) ?_ rfl ?_
            · rw [results_cell_tmp rfl]
              go_simp
            · obtain ⟨f1, f2⟩ := fin_lr HL5.out (.int .u32 E) (.slice rq l.length rm) (.int .i64 ai) (.int .u32 la)
              have h4 := HREC.out [] 0 la xs (.stop HNO.out)
              exact ⟨_, l, a, la, xs, by rw [HA.out.1], by rw [HZS.out.1]; simpa using h4, f1, f2⟩
end Go.Proofs.Ytnajjfdbmdjcbaa
