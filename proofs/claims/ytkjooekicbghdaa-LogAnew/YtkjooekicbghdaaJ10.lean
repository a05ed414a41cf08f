/-
  Add in one word.
-/
import Derived.Test.YtkjooekicbghdaaJ09
import Derived.Deep.CutRange
import Derived.SliceStrings
import Derived.OpenShut
namespace Go.Proofs.Ytkjooekicbghdaa

def lastK (P : Acts) : Nat → Nat
  | 0 => 0
  | k + 1 => if (P.getD k (false, 0, [])).1 = true then k else lastK P k
def lastN (P : Acts) : Nat := lastK P P.length
/-- How many records are sure. -/
def sureN (P : Acts) : Nat := begins (P.take (lastN P))
theorem lastK_spec (P : Acts) : ∀ k, k ≤ P.length → lastK P k = 0 ∨ (lastK P k < k ∧ ∃ y, P[lastK P k]? = some y ∧ y.1 = true)
  | 0, _ => .inl rfl
  | k + 1, hk => by
    unfold lastK
    by_cases h : (P.getD k (false, 0, [])).1 = true
    · rw [if_pos h]
      right
      refine ⟨by omega, _, List.getElem?_eq_getElem (show k < P.length by omega), ?_⟩
      rw [List.getD_eq_getElem?_getD, List.getElem?_eq_getElem (show k < P.length by omega)] at h
      exact h
    · rw [if_neg h]
      rcases lastK_spec P k (by omega) with h1 | ⟨h1, h2⟩
      · exact .inl h1
      · exact .inr ⟨by omega, h2⟩
theorem Recs.last {E p : Nat} {ys : List Nat} {l : List (List Nat)} {a la : Nat} {t : List Nat} (h : Recs E p ys l a la t) : ∀ s r, ¬ IsRec E la t s r := by
  induction h with
  | stop h => exact h
  | next _ _ ih => exact ih
theorem epoch_take {xs ys : List Nat} (h : xs.take 128 = ys.take 128) : epochN xs = epochN ys := by
  have g : ∀ j, j < 128 → xs.getD j 0 = ys.getD j 0 := fun j hj => by
    have := congrArg (fun l => l.getD j 0) h
    simpa [List.getD, List.getElem?_take, hj] using this
  unfold epochN
  rw [g 0 (by omega), g 1 (by omega), g 2 (by omega), g 3 (by omega), g 4 (by omega), g 5 (by omega), g 6 (by omega), g 7 (by omega), h]
theorem now_none (Y : List Nat) (s : Nat) : nowN Y [] (s : Int) = secN Y s := by simp [nowN, nowK]
theorem sec_of_log {count : Int} {Y : List Nat} (h : HasLog count Y []) {j : Nat} (hj : j < 64) : secAt (logN Y []) j = secN Y (16 + j) := by
  rw [show secAt (logN Y []) j = nowN Y [] ((16 + j : Nat) : Int) from sec_logK (now_len h) hj]
  exact now_none Y (16 + j)
theorem ar3 {a i : Nat} (h : (i + 1) * 128 ≤ (63 - a) * 128) : a + i < 63 := by
  have := Nat.le_of_mul_le_mul_right h (by decide)
  omega
theorem torn_log {count : Int} {data D Y : List Nat} {W : Puts} {E a la a' p' : Nat} {l rs : List (List Nat)} {t F t' : List Nat} {B : Acts} (n : Nat) (keep : List Bool) (h : HasLog count data []) (hE : epochN (logN data []) = E) (hrec : Recs E 0 ((logN data []).drop 128) l a la t) (hA : Adds E a la t rs B F a' p' t')
    (hdo : doAny count data [] (B.take n) = .ok (D, W)) (hY : crashN D W keep = Y) :
    HasLog count Y [] ∧ epochN (logN Y []) = E ∧ ∃ j a2 la2 t2, j ≤ rs.length ∧ sureN (B.take n) ≤ j ∧ Recs E 0 ((logN Y []).drop 128) (l ++ rs.take j) a2 la2 t2 := by
  have hb := h.big
  have hE32 : E < 4294967296 := hE ▸ epochN_lt _
  have hokD : Okay count D W := doAny_okay hdo
  have hY0 : HasLog count Y [] := ⟨hY ▸ okay_crashed hokD keep, h.big⟩
  rw [doAny_ok _ h.ok] at hdo
  have l1 := log_len h
  have l2 := log_len hY0
  obtain ⟨f1, f2, hla⟩ := hrec.facts (n := 63) (by rw [List.length_drop, l1]) (by omega)
  have htl : t.length = (63 - a) * 128 := by rw [f2]; exact drop_len (by rw [List.length_drop, l1])
  obtain ⟨hnews, hFl, _⟩ := hA.to
  have hFt := hnews.news.len.2
  have cand : ∀ s : Nat, (s : Int) < count → Cand data (B.take n) s (secN Y s) := fun s hs => by rw [← hY]; exact crash_cand h.ok hdo keep s hs
  -- no write ahead of the log's end
  have before : ∀ j, j ≤ a → secAt (logN Y []) j = secAt (logN data []) j := fun j hj => by
    rw [sec_of_log hY0 (by omega), sec_of_log h (by omega)]
    rcases cand (16 + j) (by omega) with h1 | h1
    · exact h1
    · exfalso
      obtain ⟨i, _, h3, _⟩ := hA.puts _ (List.mem_of_mem_take h1) rfl
      simp only at h3
      omega
  have htake : (logN Y []).take ((a + 1) * 128) = (logN data []).take ((a + 1) * 128) := take_of_secs (by rw [l2]; exact Nat.mul_le_mul_right 128 (by omega)) (by rw [l1]; exact Nat.mul_le_mul_right 128 (by omega)) (fun i hi => before i (by omega))
  have hep : epochN (logN Y []) = E := by
    rw [← hE]
    apply epoch_take
    exact take_take_le htake (Nat.le_trans (by decide : 128 ≤ 1 * 128) (Nat.mul_le_mul_right 128 (by omega)))
  have htk : ((logN Y []).drop 128).take (a * 128) = ((logN data []).drop 128).take (a * 128) := by
    apply drop_take_eq
    rw [show 128 + a * 128 = (a + 1) * 128 from by rw [Nat.add_mul, Nat.one_mul, Nat.add_comm]]
    exact htake
  obtain ⟨y, hy⟩ : ∃ y, ((logN Y []).drop 128).drop (a * 128) = y := ⟨_, rfl⟩
  have hyl : y.length = (63 - a) * 128 := by rw [← hy]; exact drop_len (by rw [List.length_drop, l2])
  have secy : ∀ i, a + i < 63 → secAt y i = secN Y (17 + a + i) := fun i hi => by
    rw [← hy, sec_drop, show (128 : Nat) = 1 * 128 from rfl, sec_drop, sec_of_log hY0 (by omega), show 16 + (1 + (a + i)) = 17 + a + i from by omega]
  have sect : ∀ i, a + i < 63 → secAt t i = secN data (17 + a + i) := fun i hi => by
    rw [f2, sec_drop, show (128 : Nat) = 1 * 128 from rfl, sec_drop, sec_of_log h (by omega), show 16 + (1 + (a + i)) = 17 + a + i from by omega]
  have uniq : ∀ i x, (false, ((17 + a + i : Nat) : Int), x) ∈ B → i < secsOf rs ∧ x = secAt F i := fun i x hx => by
    obtain ⟨i', h2, h3, h4⟩ := hA.puts _ hx rfl
    simp only at h3 h4
    obtain rfl : i = i' := by omega
    exact ⟨h2, h4⟩
  have hmix : Mix t F y := by
    refine ⟨by rw [hyl, htl], fun i hi => ?_⟩
    rw [htl] at hi
    have hi63 := ar3 hi
    rw [secy i hi63, sect i hi63]
    rcases cand (17 + a + i) (by omega) with h1 | h1
    · exact .inl h1
    · obtain ⟨h2, h3⟩ := uniq i _ (List.mem_of_mem_take h1)
      exact .inr ⟨by rw [hFl]; exact Nat.mul_le_mul_right 128 h2, h3⟩
  obtain ⟨j, a2, la2, t2, hj, hr2, hlow⟩ := torn hnews.news hE32 hla hrec.last (N := 63 - a) htl hmix
  refine ⟨hY0, hep, j, a + a2, la2, t2, hj, ?_, hrec.swap htk (by rw [hy]; exact hr2)⟩
  -- what is sure
  unfold sureN
  rcases lastK_spec (B.take n) (B.take n).length (Nat.le_refl _) with h0 | ⟨hlt, yf, hyf, hyt⟩
  · have e0 : lastN (B.take n) = 0 := h0
    rw [e0]
    exact Nat.zero_le _
  · obtain ⟨f, hf⟩ : ∃ f, lastN (B.take n) = f := ⟨_, rfl⟩
    have hf' : lastK (B.take n) (B.take n).length = f := hf
    rw [hf'] at hlt hyf
    rw [hf]
    have hfn : f < n := by rw [List.length_take] at hlt; omega
    have hBf : B[f]? = some yf := by rw [List.getElem?_take_of_lt hfn] at hyf; exact hyf
    obtain ⟨c1, c2⟩ := hA.flush hE32 hla f yf hBf hyt
    have etk : (B.take n).take f = B.take f := by rw [List.take_take, Nat.min_eq_left (by omega)]
    rw [etk]
    refine hlow _ c1 (fun i hi => ?_)
    have hin := c2 i hi
    have hi2 := (uniq i _ (List.mem_of_mem_take hin)).1
    have hi63 : a + i < 63 := by
      rw [hFl, htl] at hFt
      have := Nat.le_of_mul_le_mul_right hFt (by decide)
      omega
    rw [secy i hi63, ← hY]
    have esp : B.take n = B.take f ++ yf :: (B.take n).drop (f + 1) := by
      have h1 := List.take_append_drop f (B.take n)
      rw [etk, List.drop_eq_getElem_cons hlt] at h1
      have h2 : (B.take n)[f]'hlt = yf := (List.getElem?_eq_some_iff.1 hyf).2
      rw [h2] at h1
      exact h1.symm
    refine crash_sure (B1 := B.take f) (B2 := (B.take n).drop (f + 1)) (y := yf) h.ok hyt (by rw [← esp]; exact hdo) keep (17 + a + i) (by omega) _ (fun x hx => ?_) hin
    rw [← esp] at hx
    exact (uniq i x (List.mem_of_mem_take hx)).2
end Go.Proofs.Ytkjooekicbghdaa
namespace Go.Proofs.Ytkjooekicbghdaa
open Go.RowKit Go.WideShapes

theorem begins_take (P : Acts) (k : Nat) (hk : k < P.length) : begins (P.take (k + 1)) = begins (P.take k) + if ((P.getD k (false, 0, [])).1 = false ∧ (P.getD k (false, 0, [])).2.2.getD 12 0 = 0) then 1 else 0 := by
  rw [take_succ_getD hk, begins_app]
  congr 1
  obtain ⟨f, s, x⟩ := P.getD k (false, 0, [])
  cases f with
  | true => rw [if_neg (by simp)]; rfl
  | false =>
    rw [begins_one s x _ rfl]
    by_cases h : x.getD 12 0 = 0
    · rw [if_pos h, if_pos ⟨rfl, h⟩]
    · rw [if_neg h, if_neg (fun hh => h hh.2)]
theorem begins_le (P : Acts) : begins P ≤ P.length := List.length_filter_le _ _
theorem lastK_le (P : Acts) : ∀ k, lastK P k ≤ k
  | 0 => Nat.le_refl _
  | k + 1 => by
    unfold lastK
    split
    · omega
    · have := lastK_le P k; omega
theorem ActsIn.get {w : World} {b o : Nat} {l : Acts} (h : ActsIn w (some ⟨b, o, none⟩) l) {k : Nat} (hk : k < l.length) : w.cell? ⟨b, o + k * 3, none⟩ = some (.bool (l.getD k (false, 0, [])).1) ∧ ∃ v, w.cell? ⟨b, o + k * 3 + 2, none⟩ = some v ∧ Row w v (l.getD k (false, 0, [])).2.2 := by
  obtain ⟨b', o', e, hc⟩ := h (by omega)
  simp only [Option.some.injEq, Addr.mk.injEq, and_true] at e
  obtain ⟨rfl, rfl⟩ := e
  obtain ⟨h0, _, v, h2, h3⟩ := hc k hk
  exact ⟨h0, v, by rw [Nat.add_assoc]; exact h2, h3⟩
set_option maxRecDepth 8000 in
set_option maxHeartbeats 2000000 in
theorem sure_any (q : Option Addr) (n c : Nat) (P : Acts) (w : World) (hn : n = P.length) (hl : ActsIn w q P) (hd : ∀ y ∈ P, y.1 = false → y.2.2.length = 128) (hN : (n : Int) ≤ 10000) :
    Calls Try.prog 34 #[.slice q n c] w fun e w' => e = .returned (.int .i64 (sureN P : Nat)) ∧ w' = w := by
  have HA : Hid (n = P.length ∧ ActsIn w q P ∧ ∀ y ∈ P, y.1 = false → y.2.2.length = 128) := ⟨hn, hl, hd⟩
  clear hn hl hd
  go_enter Try.func34, Try.ntmps34
  go_wp2
  go_loop [3, 4] (fun s i => ∃ k : Nat, k ≤ n ∧ i = .int .i64 k ∧ s = .int .i64 (lastK P k : Nat)) (fun _ i => n - (intOf i).toNat)
  case atStart => exact ⟨0, by omega, rfl, rfl⟩
  case round =>
    obtain ⟨k, hk, rfl, rfl⟩ := hrel
    by_cases hkn : k < n
    · have hkI : (k : Int) < (n : Int) := by omega
      obtain ⟨b, o, rfl⟩ := HA.out.2.1.addr (by have := HA.out.1; omega)
      obtain ⟨x0, _, _, _⟩ := HA.out.2.1.get (k := k) (by have := HA.out.1; omega)
      have HK : Hid (k < n ∧ lastK P (k + 1) = if (P.getD k (false, 0, [])).1 = true then k else lastK P k) := ⟨hkn, rfl⟩
      obtain ⟨lk, hlk⟩ : ∃ lk, lastK P k = lk := ⟨_, rfl⟩
      rw [hlk] at HK
      rw [hlk]
      obtain ⟨f, hf⟩ : ∃ f, (P.getD k (false, 0, [])).1 = f := ⟨_, rfl⟩
      rw [hf] at x0 HK
      clear hkn hf hlk
      cases f
      · go_wp2
        go_round
        case rel => exact ⟨k + 1, by have := HK.out; omega, by go_num, by rw [HK.out.2]; rfl⟩
        case measure => have := HK.out; simp [intOf]; omega
      · go_wp2
        go_round
        case rel => exact ⟨k + 1, by have := HK.out; omega, by go_num, by rw [HK.out.2]; rfl⟩
        case measure => have := HK.out; simp [intOf]; omega
    · obtain rfl : k = n := by omega
      have HLn : Hid (lastK P k = lastN P ∧ lastK P k ≤ k) := ⟨by unfold lastN; rw [HA.out.1], lastK_le P k⟩
      obtain ⟨L, hL⟩ : ∃ L, lastK P k = L := ⟨_, rfl⟩
      rw [hL] at HLn ⊢
      have hLk : (L : Int) ≤ (k : Int) := by have := HLn.out.2; omega
      clear hkn hk hL
      go_wp2
      go_loop [5, 6] (fun s i => ∃ j : Nat, j ≤ L ∧ i = .int .i64 j ∧ s = .int .i64 (begins (P.take j) : Nat)) (fun _ i => L - (intOf i).toNat)
      case atStart => exact ⟨0, by omega, rfl, rfl⟩
      case round =>
        obtain ⟨j, hj, rfl, rfl⟩ := hrel
        by_cases hjL : j < L
        · have hjI : (j : Int) < (L : Int) := by omega
          have hjk : (j : Int) < (k : Int) := by omega
          obtain ⟨b, o, rfl⟩ := HA.out.2.1.addr (by have := HA.out.1; omega)
          obtain ⟨x0, v, x2, hrow⟩ := HA.out.2.1.get (k := j) (by have := HA.out.1; omega)
          have hbt := begins_take P j (by have := HA.out.1; omega)
          have hle : begins (P.take j) ≤ j := Nat.le_trans (begins_le _) (List.length_take_le _ _)
          obtain ⟨y, hy⟩ : ∃ y, P.getD j (false, 0, []) = y := ⟨_, rfl⟩
          rw [hy] at x0 hrow hbt
          have hlen : y.1 = false → y.2.2.length = 128 := fun hf => HA.out.2.2 y (by rw [← hy, List.getD_eq_getElem?_getD, List.getElem?_eq_getElem (show j < P.length by have := HA.out.1; omega)]; exact List.getElem_mem _) hf
          have HBT : Hid (begins (P.take (j + 1)) = begins (P.take j) + if (y.1 = false ∧ y.2.2.getD 12 0 = 0) then 1 else 0) := hbt
          obtain ⟨bg, hbg⟩ : ∃ bg, begins (P.take j) = bg := ⟨_, rfl⟩
          rw [hbg] at HBT hle
          rw [hbg]
          obtain ⟨f, s, xs⟩ := y
          have HJ : Hid (j < L) := hjL
          have hbI : (bg : Int) ≤ 10000 := by omega
          clear hbt hy hbg hjL hle
          cases f
          · have hx := hlen rfl
            obtain ⟨p, cc, rfl, hbin, _, _, _⟩ := hrow.lies
            simp only at hx hbin x2
            obtain ⟨b2, o2, rfl, hc2⟩ := hbin.1 (by omega)
            have c12 := hc2 12 (by omega)
            rw [hx] at x2
            obtain ⟨z, hz⟩ : ∃ z, xs.getD 12 0 = z := ⟨_, rfl⟩
            simp only [hz] at HBT
            rw [hz] at c12
            clear hc2 hbin hrow hlen hx hz
            by_cases hz0 : z = 0
            · have g1 : ((z : Int) == 0) = true := by simp [hz0]
              have HZ : Hid (z = 0) := hz0
              clear hz0
              go_wp2
              go_round
              case rel => exact ⟨j + 1, by have := HJ.out; omega, by go_num, by rw [HBT.out, if_pos ⟨trivial, HZ.out⟩]; go_num⟩
              case measure => have := HJ.out; simp [intOf]; omega
            · have g1 : ((z : Int) == 0) = false := by simp; omega
              have HZ : Hid (z ≠ 0) := hz0
              clear hz0
              go_wp2
              go_round
              case rel => exact ⟨j + 1, by have := HJ.out; omega, by go_num, by rw [HBT.out, if_neg (fun hh => HZ.out hh.2)]; rfl⟩
              case measure => have := HJ.out; simp [intOf]; omega
          · clear hrow hlen x2
            go_wp2
            go_round
            case rel => exact ⟨j + 1, by have := HJ.out; omega, by go_num, by rw [HBT.out, if_neg (by simp)]; rfl⟩
            case measure => have := HJ.out; simp [intOf]; omega
        · obtain rfl : j = L := by omega
          go_wp2
          go_ret
          exact ⟨by unfold sureN; rw [← HLn.out.1]; rfl, rfl⟩
end Go.Proofs.Ytkjooekicbghdaa
namespace Go.Proofs.Ytkjooekicbghdaa
open Go.RowKit Go.WideShapes

theorem new_100 (w : World) : Calls Try.prog 9 #[.int .i64 100] w fun e w' => ∃ v, e = .returned (.tuple #[v, .int .i64 0]) ∧ (∀ w2, Below w'.heap.size w' w2 → DiskIn w2 v 100 zeroD []) ∧ Below w.heap.size w w' :=
  (new_ok 100 w (by decide) (by decide)).mono (by
    rintro e w' ⟨v, rfl, hn, hb⟩
    exact ⟨v, rfl, fun w2 h2 => (hn.toIn okay_zero).below h2, hb⟩)
theorem hasZero : HasLog 100 zeroD [] := ⟨okay_zero, by decide⟩
theorem hasFirst : HasLog 100 firstD [] := ⟨okay_first, by decide⟩
theorem hasAbc : HasLog 100 firstD [(17, abcF)] := ⟨okay_abc, by decide⟩
theorem do_first_any (v : Value) (w : World) (q : Option Addr) (n m : Nat) (l : List ActC) (hd : DiskIn w v 100 zeroD []) (ha : AOwn w 0 (.slice q n m) l) (hl : l.map Prod.fst = clearActs 1) :
    Calls Try.prog 15 #[v, .slice q n m] w fun e w' => ∃ v', e = .returned (.tuple #[v', .int .i64 0]) ∧ DiskF w.heap.size w' v' 100 firstD [] ∧ Below w.heap.size w w' := by
  obtain ⟨hn, hi, _, _⟩ := ha.lies
  rw [hl] at hi
  have hln : n = (clearActs 1).length := by rw [hn, ← hl, List.length_map]
  refine (do_all v 100 zeroD [] w hd q n m (clearActs 1) hln hi (by decide) _ do_first).mono ?_
  rintro e w' ⟨⟨v', he, hf⟩, hb⟩
  exact ⟨v', he, hf, hb⟩
theorem do_abc_any (v : Value) (w : World) (q : Option Addr) (n m : Nat) (l : List ActC) (hd : DiskIn w v 100 firstD []) (ha : AOwn w 0 (.slice q n m) l) (hl : l.map Prod.fst = [(false, 17, abcF)]) :
    Calls Try.prog 15 #[v, .slice q n m] w fun e w' => ∃ v', e = .returned (.tuple #[v', .int .i64 0]) ∧ DiskF w.heap.size w' v' 100 firstD [(17, abcF)] ∧ Below w.heap.size w w' := by
  obtain ⟨hn, hi, _, _⟩ := ha.lies
  rw [hl] at hi
  have hln : n = [(false, (17 : Int), abcF)].length := by rw [hn, ← List.length_map (f := Prod.fst), hl]
  refine (do_all v 100 firstD [] w hd q n m _ hln hi (by simp) _ do_abc).mono ?_
  rintro e w' ⟨⟨v', he, hf⟩, hb⟩
  exact ⟨v', he, hf, hb⟩
theorem AOwn.zero {w : World} {base : Nat} {v : Value} {l : List ActC} (h : AOwn w base v l) : AOwn w 0 v l := ⟨own_mono h.row (Nat.zero_le _), fun y hy => (h.data y hy).mono (Nat.zero_le _)⟩
theorem clear_zero (v : Value) (w : World) (hd : DiskIn w v 100 zeroD []) : Calls Try.prog 11 #[v] w fun e w' => ∃ q n m l, e = .returned (.tuple #[.slice q n m, .int .i64 0]) ∧ AOwn w' 0 (.slice q n m) l ∧ l.map Prod.fst = clearActs 1 ∧ Below w.heap.size w w' :=
  (Clear_ok v 100 zeroD [] w hd hasZero 1 (by rw [log_zero, mostE_zero]) (by decide)).mono (by
    rintro e w' ⟨v', l, rfl, ha, hm, hb⟩
    obtain ⟨q, m, rfl, _, _⟩ := ha.form
    exact ⟨q, _, m, l, rfl, ha.zero, hm, hb⟩)
theorem fin3 {w w3 : World} {base : Nat} {v : Value} {count : Int} {data : List Nat} {ws : Puts} (h : DiskF base w3 v count data ws) (hb : Below w.heap.size w w3) (hlt : w.heap.size < base) (o : Obj) (a b c : Value) :
    (∀ w2, Below (((((w3.setCell ⟨w.heap.size, 0, none⟩ a).setCell ⟨w.heap.size, 1, none⟩ b).setCell ⟨w.heap.size, 2, none⟩ c).alloc o).heap.size) ((((w3.setCell ⟨w.heap.size, 0, none⟩ a).setCell ⟨w.heap.size, 1, none⟩ b).setCell ⟨w.heap.size, 2, none⟩ c).alloc o) w2 → DiskIn w2 v count data ws) ∧ Below w.heap.size w ((((w3.setCell ⟨w.heap.size, 0, none⟩ a).setCell ⟨w.heap.size, 1, none⟩ b).setCell ⟨w.heap.size, 2, none⟩ c).alloc o) := by
  have e1 : ∀ k, base ≤ k → k < w3.heap.size → (((w3.setCell ⟨w.heap.size, 0, none⟩ a).setCell ⟨w.heap.size, 1, none⟩ b).setCell ⟨w.heap.size, 2, none⟩ c).heap[k]? = w3.heap[k]? := fun k hk hk2 =>
    ((set_other c (by simpa using hk2) (by omega)).trans (set_other b (by simpa using hk2) (by omega))).trans (set_other a hk2 (by omega))
  have e2 : (((w3.setCell ⟨w.heap.size, 0, none⟩ a).setCell ⟨w.heap.size, 1, none⟩ b).setCell ⟨w.heap.size, 2, none⟩ c).heap.size = w3.heap.size := by simp
  have e3 := below_set3 (a := a) (b := b) (c := c) hb
  generalize ((w3.setCell ⟨w.heap.size, 0, none⟩ a).setCell ⟨w.heap.size, 1, none⟩ b).setCell ⟨w.heap.size, 2, none⟩ c = W at *
  refine ⟨fun w2 h2 => h w2 (fun k hk hk2 => ?_), below_bt e3 (below_alloc _ _)⟩
  have h3 := below_bt (below_alloc W o) h2
  rw [h3.block k (by omega)]
  exact e1 k hk hk2
set_option maxRecDepth 8000 in
set_option maxHeartbeats 1000000 in
theorem cleared_any (w : World) : Calls Try.prog 12 #[.int .i64 100] w fun e w' => ∃ v, e = .returned (.tuple #[v, .bool true]) ∧ (∀ w2, Below w'.heap.size w' w2 → DiskIn w2 v 100 firstD []) ∧ Below w.heap.size w w' := by
  go_enter Try.func12, Try.ntmps12
  go_wp2_with fail
  refine (new_100 _).mono ?_
  rintro e w1 ⟨v1, rfl, hd1, hb1⟩
  obtain ⟨p, c, q, m, rfl, _⟩ := (hd1 _ (Below.refl _ _)).parts
  obtain ⟨D, hD⟩ : ∃ D, zeroD.length = D := ⟨_, rfl⟩
  rw [hD] at hd1 ⊢
  have HD1 : Hid (∀ w2, Below w1.heap.size w1 w2 → DiskIn w2 (.agg #[.int .i64 100, .slice p D c, .slice q (List.length (α := Int × List Nat) []) m]) 100 zeroD []) := hd1
  have HB1 : Hid (Below w.heap.size w w1) := below_bt (below_alloc w _) hb1
  have HX : Hid (w1.heap[w.heap.size]? = some (.cells #[.int .i64 0, .slice none 0 0, .slice none 0 0] 25 (0, 0))) := (hb1.block _ (by simp)).trans (heap_alloc_new w _)
  obtain ⟨z, hz⟩ : ∃ z, List.length (α := Int × List Nat) [] = z := ⟨_, rfl⟩
  rw [hz] at HD1 ⊢
  clear hd1 hb1 hD hz
  go_wp2_with fail
  refine (clear_zero _ _ (HD1.out _ (below_alloc _ _))).mono ?_
  rintro e w2 ⟨lq, ln, lm, l, rfl, ha2, hm2, hb2⟩
  have HX2 : Hid (w2.heap[w1.heap.size]? = some (.cells #[.int .i64 100, .slice p D c, .slice q z m] 25 (0, 0))) := (hb2.block _ (by simp)).trans (heap_alloc_new w1 _)
  obtain ⟨c0, c1, c2, _⟩ := box3 HX2.out
  have hb12 : Below w1.heap.size w1 w2 := below_bt (below_alloc _ _) hb2
  have HA2 : Hid (AOwn w2 0 (.slice lq ln lm) l ∧ l.map Prod.fst = clearActs 1) := ⟨ha2, hm2⟩
  have HB2 : Hid (Below w1.heap.size w1 w2) := hb12
  clear ha2 hm2 hb2 hb12
  go_wp2_with fail
  refine (do_first_any _ _ lq ln lm l (HD1.out _ HB2.out) HA2.out.1 HA2.out.2).mono ?_
  rintro e w3 ⟨v3, rfl, hf3, hb3⟩
  obtain ⟨p3, c3, q3, m3, rfl, _⟩ := hf3.self.parts
  obtain ⟨D3, hD3⟩ : ∃ D, firstD.length = D := ⟨_, rfl⟩
  rw [hD3] at hf3 ⊢
  have hb13 := below_bt HB2.out hb3
  have HX3 : Hid (w3.heap[w.heap.size]? = some (.cells #[.int .i64 0, .slice none 0 0, .slice none 0 0] 25 (0, 0))) := (hb13.block _ (lt_heap HX.out)).trans HX.out
  obtain ⟨x0, x1, x2, y0, y1, y2⟩ := box3 HX3.out
  have hlt3 : w.heap.size < w3.heap.size := lt_heap HX3.out
  have HF3 : Hid (DiskF w2.heap.size w3 (.agg #[.int .i64 100, .slice p3 D3 c3, .slice q3 (List.length (α := Int × List Nat) []) m3]) 100 firstD []) := hf3
  have HB3 : Hid (Below w.heap.size w w3) := below_bt HB1.out hb13
  have HLT : Hid (w.heap.size < w2.heap.size) := by have := lt_heap HX.out; have := HB2.out.size; show _ < _; omega
  obtain ⟨z3, hz3⟩ : ∃ z, List.length (α := Int × List Nat) [] = z := ⟨_, rfl⟩
  rw [hz3] at HF3 ⊢
  clear hf3 hb3 hD3 hb13 c0 c1 c2 hz3
  go_wp2
  (try simp only [Exit.inBlock, Exit.then])
  refine bodyPost_ret (v := .tuple #[.agg #[.int .i64 100, .slice p3 D3 c3, .slice q3 z3 m3], .bool true]) ?_ rfl ⟨_, rfl, ?_⟩
  · rw [results_cell_tmp rfl]
    go_simp
  · exact fin3 HF3.out HB3.out HLT.out _ _ _ _
end Go.Proofs.Ytkjooekicbghdaa
namespace Go.Proofs.Ytkjooekicbghdaa
open Go.RowKit Go.WideShapes

def abcS : ByteArray := { data := #[97, 98, 99] }
theorem add_abc (v : Value) (w : World) (hd : DiskIn w v 100 firstD []) : Calls Try.prog 14 #[v, .string { data := #[97, 98, 99] }] w fun e w' => ∃ q n m l, e = .returned (.tuple #[.slice q n m, .int .i64 0]) ∧ AOwn w' 0 (.slice q n m) l ∧ l.map Prod.fst = [(false, 17, abcF)] ∧ Below w.heap.size w w' := by
  have hdrop : (logN firstD []).drop 128 = List.replicate 8064 0 := by rw [log_first]; exact List.drop_left' (headL_len 1)
  refine (Add_ok v { data := #[97, 98, 99] } 100 firstD [] w hd hasFirst (by rw [log_first, List.length_append, headL_len, List.length_replicate]) 1 (by rw [log_first, epoch_head]) (by decide) (by decide) [] 0 0 (List.replicate 8064 0) 1 (by rw [hdrop]; exact recs_zero _ (by decide) (by decide)) (by rw [mostS_zero]) (by decide) (by decide)).mono ?_
  rintro e w' ⟨v', l, rfl, ha, hm, hb⟩
  obtain ⟨q, m, rfl, _, _⟩ := ha.form
  refine ⟨q, _, m, l, rfl, ha.zero, ?_, hb⟩
  rw [hm]
  exact actsK_head 17 abcF abc_len
theorem str_abc : strOf abcL = { data := #[97, 98, 99] } := by decide
theorem records_abc (v : Value) (w : World) (hd : DiskIn w v 100 firstD [(17, abcF)]) : Calls Try.prog 10 #[v] w fun e w' => ∃ g c, e = .returned (.tuple #[.slice (some ⟨g, 0, none⟩) 1 c, .int .i64 0]) ∧ w'.cell? ⟨g, 0, none⟩ = some (.string { data := #[97, 98, 99] }) ∧ Below w.heap.size w w' := by
  have hdrop : (logN firstD [(17, abcF)]).drop 128 = abcF ++ List.replicate 7936 0 := by rw [log_abc]; exact List.drop_left' (headL_len 1)
  refine (Records_ok v 100 firstD [(17, abcF)] w hd hasAbc 1 (by rw [log_abc, epoch_head]) (by decide)).mono ?_
  rintro e w' ⟨rv, l, a, la, t, rfl, hrec, hown, hb⟩
  rw [hdrop] at hrec
  obtain ⟨rfl, rfl, rfl, rfl⟩ := recs_abc.only (by decide) (by decide) hrec
  rcases hown.2 with ⟨_, h0⟩ | ⟨g, cap, cur, rfl, _, hg, h1, h2, _, h3⟩
  · cases h0
  · refine ⟨g, cap, rfl, ?_, hb⟩
    have h4 := hown.cellAt 0 (by decide)
    rw [h4]
    simp [str_abc]
set_option maxRecDepth 8000 in
set_option maxHeartbeats 1000000 in
theorem alive_any (w : World) : Calls Try.prog 18 #[] w fun e w' => e = .returned (.bool true) ∧ Below w.heap.size w w' := by
  go_enter Try.func18, Try.ntmps18
  go_wp2_with fail
  refine (cleared_any _).mono ?_
  rintro e w1 ⟨v1, rfl, hd1, hb1⟩
  obtain ⟨p, c, q, m, rfl, _⟩ := (hd1 _ (Below.refl _ _)).parts
  obtain ⟨D, hD⟩ : ∃ D, firstD.length = D := ⟨_, rfl⟩
  obtain ⟨z, hz⟩ : ∃ z, List.length (α := Int × List Nat) [] = z := ⟨_, rfl⟩
  rw [hD, hz] at hd1 ⊢
  have HD1 : Hid (∀ w2, Below w1.heap.size w1 w2 → DiskIn w2 (.agg #[.int .i64 100, .slice p D c, .slice q z m]) 100 firstD []) := hd1
  have HB1 : Hid (Below w.heap.size w w1) := hb1
  clear hd1 hb1 hD hz
  go_wp2_with fail
  refine (add_abc _ _ (HD1.out _ (below_alloc _ _))).mono ?_
  rintro e w2 ⟨lq, ln, lm, l, rfl, ha2, hm2, hb2⟩
  have HX2 : Hid (w2.heap[w1.heap.size]? = some (.cells #[.int .i64 100, .slice p D c, .slice q z m] 25 (0, 0))) := (hb2.block _ (by simp)).trans (heap_alloc_new w1 _)
  obtain ⟨c0, c1, c2, _⟩ := box3 HX2.out
  have hb12 : Below w1.heap.size w1 w2 := below_bt (below_alloc _ _) hb2
  have HA2 : Hid (AOwn w2 0 (.slice lq ln lm) l ∧ l.map Prod.fst = [(false, 17, abcF)]) := ⟨ha2, hm2⟩
  have HB2 : Hid (Below w1.heap.size w1 w2) := hb12
  clear ha2 hm2 hb2 hb12
  go_wp2_with fail
  refine (do_abc_any _ _ lq ln lm l (HD1.out _ HB2.out) HA2.out.1 HA2.out.2).mono ?_
  rintro e w3 ⟨v3, rfl, hf3, hb3⟩
  obtain ⟨p3, c3, q3, m3, rfl, _⟩ := hf3.self.parts
  obtain ⟨D3, hD3⟩ : ∃ D, firstD.length = D := ⟨_, rfl⟩
  obtain ⟨z3, hz3⟩ : ∃ z, List.length (α := Int × List Nat) [(17, abcF)] = z := ⟨_, rfl⟩
  rw [hD3, hz3] at hf3 ⊢
  have HF3 : Hid (DiskF w2.heap.size w3 (.agg #[.int .i64 100, .slice p3 D3 c3, .slice q3 z3 m3]) 100 firstD [(17, abcF)]) := hf3
  have HB3 : Hid (Below w.heap.size w w3) := below_bt (below_bt HB1.out HB2.out) hb3
  clear hf3 hb3 hD3 hz3 c0 c1 c2
  go_wp2_with fail
  refine (records_abc _ _ (HF3.out.below (below_alloc _ _))).mono ?_
  rintro e w4 ⟨g, cg, rfl, hcell, hb4⟩
  have HB4 : Hid (Below w.heap.size w w4) := below_bt (below_bt HB3.out (below_alloc _ _)) hb4
  clear hb4
  go_wp2
  go_ret
  exact ⟨rfl, HB4.out⟩
end Go.Proofs.Ytkjooekicbghdaa
namespace Go.Proofs.Ytkjooekicbghdaa
open Go.RowKit Go.WideShapes

/-- A disk in a box of the call's own. -/
structure Boxed (w0 w : World) (B : Nat) (count : Int) (p : Option Addr) (D c : Nat) (q : Option Addr) (z m : Nat) (data : List Nat) (ws : Puts) : Prop where
  box : w.heap[B]? = some (.cells #[.int .i64 count, .slice p D c, .slice q z m] 25 (0, 0))
  disk : DiskIn w (.agg #[.int .i64 count, .slice p D c, .slice q z m]) count data ws
  below : Below w0.heap.size w0 w
def zd : Array Value := #[.int .i64 0, .slice none 0 0, .slice none 0 0]
theorem boxz3 (w1 : World) {W w2 : World} (h : Below W.heap.size W w2) (hW : W.heap[w1.heap.size]? = some (.cells zd 25 (0, 0))) :
    Hid (w2.heap[w1.heap.size]? = some (.cells zd 25 (0, 0))) ∧ w2.cell? ⟨w1.heap.size, 0, none⟩ = some (.int .i64 0) ∧ w2.cell? ⟨w1.heap.size, 1, none⟩ = some (.slice none 0 0) ∧ w2.cell? ⟨w1.heap.size, 2, none⟩ = some (.slice none 0 0) ∧ w2.frozen? ⟨w1.heap.size, 0, none⟩ = false ∧ w2.frozen? ⟨w1.heap.size, 1, none⟩ = false ∧ w2.frozen? ⟨w1.heap.size, 2, none⟩ = false := by
  have hh := (h.block _ (lt_heap hW)).trans hW
  exact ⟨hh, cell_of_row _ _ 0 _ _ _ hh, cell_of_row _ _ 1 _ _ _ hh, cell_of_row _ _ 2 _ _ _ hh, frozen_of_row _ _ _ _ _ hh, frozen_of_row _ _ _ _ _ hh, frozen_of_row _ _ _ _ _ hh⟩
/-- The disk that Do answered, laid down. -/
theorem boxed_behind {w1 w2 : World} {count : Int} {p q : Option Addr} {D c z m base : Nat} {data : List Nat} {ws : Puts} (hf : DiskF base w2 (.agg #[.int .i64 count, .slice p D c, .slice q z m]) count data ws) (hb : Below w1.heap.size w1 w2) :
    Boxed w1 (w2.alloc (.cells #[.int .i64 count, .slice p D c, .slice q z m] 25)) w2.heap.size count p D c q z m data ws :=
  ⟨heap_alloc_new _ _, hf.below (below_alloc _ _), below_bt hb (below_alloc _ _)⟩
theorem boxed_ahead {w1 w2 : World} {count : Int} {p q : Option Addr} {D c z m base : Nat} {data : List Nat} {ws : Puts} (hf : DiskF base w2 (.agg #[.int .i64 count, .slice p D c, .slice q z m]) count data ws) (hlt : w1.heap.size < base) (hb : Below w1.heap.size w1 w2) (hz : w2.heap[w1.heap.size]? = some (.cells zd 25 (0, 0))) :
    Boxed w1 (((w2.setCell ⟨w1.heap.size, 0, none⟩ (.int .i64 count)).setCell ⟨w1.heap.size, 1, none⟩ (.slice p D c)).setCell ⟨w1.heap.size, 2, none⟩ (.slice q z m)) w1.heap.size count p D c q z m data ws :=
  ⟨set3_same w2 w1.heap.size _ _ _ _ _ _ _ hz, hf.set3 hlt _ _ _, set3_below hb (Nat.le_refl _) _ _ _⟩
theorem Boxed.drew {w0 w : World} {B : Nat} {count : Int} {p q : Option Addr} {D c z m : Nat} {data : List Nat} {ws : Puts} (h : Boxed w0 w B count p D c q z m data ws) : Boxed w0 w.drew B count p D c q z m data ws :=
  ⟨h.box, h.disk.below (by exact (Below.refl _ _).drew), h.below.drew⟩
end Go.Proofs.Ytkjooekicbghdaa
namespace Go.Proofs.Ytkjooekicbghdaa
open Go.RowKit Go.WideShapes Go.ChangeShapes

theorem StrsIn.addr {w : World} {q : Option Addr} {l : List ByteArray} (h : StrsIn w q l) (hp : 0 < l.length) : ∃ b o, q = some ⟨b, o, none⟩ := by
  obtain ⟨b, o, e, _⟩ := h hp
  exact ⟨b, o, e⟩
theorem StrsIn.at {w : World} {b o : Nat} {l : List ByteArray} (h : StrsIn w (some ⟨b, o, none⟩) l) {i : Nat} (hi : i < l.length) : w.cell? ⟨b, o + i, none⟩ = some (.string (l.getD i ByteArray.empty)) := by
  obtain ⟨b', o', e, hc⟩ := h (by omega)
  simp only [Option.some.injEq, Addr.mk.injEq, and_true] at e
  obtain ⟨rfl, rfl⟩ := e
  exact hc i hi
structure StrRow (w : World) (v : Value) (l : List ByteArray) : Prop where
  lies : ∃ q c, v = .slice q l.length c ∧ StrsIn w q l ∧ l.length ≤ c ∧ c ≤ maxLen ∧ (q = none → c = 0)
  each : ∀ s ∈ l, s.size ≤ maxLen
section
variable {P : Program} {w : World} {H : Type} {enc : TypeId × Value → H}
theorem open_strs {t e : TypeId} {n : Nat} {v : Value} {x : DataW H × List MemPlace} (ht : P.underlying t = some (.slice e)) (he : P.underlying e = some .string) (hc : P.cellsOf e = 1)
    (h : DataW.trod enc P w 0 (fun _ => true) true n t [v] = some x) : ∃ l, StrRow w v l := by
  rcases open_strings ht he hc h with ⟨hcs, _⟩ | ⟨a, len, cap, ss, hcs, _, hl, hm, hz, _, hcell, hsz⟩
  · simp only [List.cons.injEq, and_true] at hcs
    exact ⟨[], ⟨none, 0, hcs, fun h => absurd h (by simp), by simp, by unfold maxLen; omega, fun _ => rfl⟩, by simp⟩
  · simp only [List.cons.injEq, and_true] at hcs
    have hz' : ss.length = cap := by simpa using hz
    have hlen : (ss.take len).length = len := by simp; omega
    refine ⟨ss.take len, ⟨⟨some a, cap, by rw [hlen]; exact hcs, fun hp => ?_, by rw [hlen]; exact hl, hm, by simp⟩, fun s hs => hsz s (List.mem_of_mem_take hs)⟩⟩
    rw [hlen] at hp
    obtain ⟨b, o, s⟩ := a
    obtain rfl : s = none := by simpa [Addr.add] using World.cell?_spot (hcell 0 (by omega))
    refine ⟨b, o, rfl, fun i hi => ?_⟩
    rw [hlen] at hi
    rw [← add_plain, hcell i (by omega)]
    simp [List.getD, List.getElem?_take_of_lt hi]
end
def Ss (l : List ByteArray) : List Value := l.map fun s => Value.string s
theorem Ss_app (a b : List ByteArray) : Ss (a ++ b) = Ss a ++ Ss b := by simp [Ss]
theorem Ss_one (l : List ByteArray) : ∀ u ∈ Ss l, u.oneCell' = true := by
  intro u hu
  simp only [Ss, List.mem_map] at hu
  obtain ⟨b, _, rfl⟩ := hu
  rfl
theorem run_append_strs (w : World) (base : Nat) (ty : TypeId) (v : Value) (l l' : List ByteArray) (p : Option Addr) (c : Nat) (hown : w.ownsRow base 9 1 v l.length (Ss l)) (hin : StrsIn w p l') (hp : p = none → c = 0)
    (hlen : l.length + l'.length ≤ 100000) (hbase : base ≤ w.heap.size) :
    ∃ v' w', (Builtin.append_ #[29, 29] ty #[v, .slice p l'.length c]).run Try.prog w = .ok v' w' ∧ w'.ownsRow base 9 1 v' (l ++ l').length (Ss (l ++ l')) ∧ w.grownBy w' v.ownBlock := by
  obtain ⟨i0, hi, hz0, hz1, hz2⟩ := info_parts info9
  have hmax : l.length + l'.length ≤ maxLen := by unfold maxLen; omega
  cases p with
  | none =>
    obtain rfl : l' = [] := by
      cases l' with
      | nil => rfl
      | cons y ys => obtain ⟨b, o, e, _⟩ := hin (by simp); cases e
    obtain rfl := hp rfl
    exact ⟨v, w, run_append_owned_none (P := Try.prog) w base 29 ty 9 i0 1 Try.underlying29 hi v l.length (Ss l) hown, by simpa using hown, ⟨rfl, rfl, rfl, Nat.le_refl _, fun _ _ _ => rfl⟩⟩
  | some ad =>
    have hc : ∀ j u, (Ss l')[j]? = some u → w.cell? (ad.add j) = some u := by
      intro j u hu
      have hj : j < l'.length := by
        rcases Nat.lt_or_ge j l'.length with h | h
        · exact h
        · simp [Ss, List.getElem?_eq_none h] at hu
      obtain ⟨b, o, e, hcell⟩ := hin (by omega)
      simp at e
      subst e
      rw [add_plain, hcell j hj]
      simp [Ss, List.getElem?_eq_getElem hj] at hu
      simp [List.getD, List.getElem?_eq_getElem hj, ← hu]
    obtain ⟨v', w', h1, h2, h3, _⟩ := run_append_own (P := Try.prog) w base 29 ty 9 i0 (.string ByteArray.empty) 1 16 Try.underlying29 hi hz0 hz1 hz2 rfl (by decide) v l.length (Ss l) hown ad l'.length c (Ss l') (by simp [Ss]) hc (Ss_one l') hmax (by omega) hbase
    exact ⟨v', w', h1, by simpa [Ss_app] using h2, h3⟩
theorem wpList_append_strs (w : World) {ops : Array Oper} {rest : List Oper} {o : Oper} {a : Act} {Q : Exit → Act → World → Prop} (hgd : o.guard = none) (s x : Operand)
    (ho : o.op = .call { callee := .builtin .append, args := #[s, x], argTypes := #[29, 29] }) (base : Nat) (v : Value) (l l' : List ByteArray) (p : Option Addr) (m c : Nat) (hs : a.eval s = v) (hx : a.eval x = .slice p m c) (hm : m = l'.length)
    (hown : w.ownsRow base 9 1 v l.length (Ss l)) (hin : StrsIn w p l') (hp : p = none → c = 0) (hlen : l.length + l'.length ≤ 100000) (hbase : base ≤ w.heap.size)
    (h : ∀ v' w', w'.ownsRow base 9 1 v' (l ++ l').length (Ss (l ++ l')) → w.grownBy w' v.ownBlock → wpList Try.prog ops Q rest (a.put o.dst v') w') : wpList Try.prog ops Q (o :: rest) a w := by
  subst hm
  refine wpList_plain hgd fun K hK => ?_
  obtain ⟨v', w', hr, h2, h3⟩ := run_append_strs w base o.type v l l' p c hown hin hp hlen hbase
  unfold Oper.wp execOp
  simp only [ho, resolve, invoke, builtin, Sem.run_bind, Sem.run_pure, Result.andThen_ok, List.map_toArray, List.map_cons, List.map_nil, hs, hx, hr]
  exact hK _ _ (h v' w' h2 h3)
theorem own_strs2 {w : World} {base : Nat} {v : Value} {l : List ByteArray} (h : w.ownsRow base 9 1 v l.length (Ss l)) : ∃ q c, v = .slice q l.length c ∧ StrsIn w q l ∧ l.length ≤ c ∧ c ≤ maxLen := by
  rcases h.2 with ⟨hv, hn⟩ | ⟨g, cap, cur, hv, hb, hg, hle, hmax, hsz, htk⟩
  · exact ⟨none, 0, by rw [hv, hn], fun h0 => by omega, by omega, by unfold maxLen; omega⟩
  · refine ⟨some ⟨g, 0, none⟩, cap, hv, fun _ => ⟨g, 0, rfl, fun i hi => ?_⟩, hle, hmax⟩
    subst hv
    have := h.cells rfl i (.string (l.getD i ByteArray.empty)) (by simp [Ss, List.getD, List.getElem?_eq_getElem hi])
    rw [add_plain] at this
    exact this
end Go.Proofs.Ytkjooekicbghdaa
namespace Go.Proofs.Ytkjooekicbghdaa
open Go.RowKit Go.WideShapes

theorem cellsA_app (l l' : List ActC) : cellsA (l ++ l') = cellsA l ++ cellsA l' := by simp [cellsA]
theorem cellsA_one {w : World} {base : Nat} {l : List ActC} (h : ∀ y ∈ l, DataIs w base y.2 y.1.2.2) : ∀ u ∈ cellsA l, u.oneCell' = true := by
  intro u hu
  unfold cellsA at hu
  obtain ⟨y, hy, hu⟩ := List.mem_flatMap.1 hu
  simp only [List.mem_cons, List.not_mem_nil, or_false] at hu
  rcases hu with rfl | rfl | rfl
  · rfl
  · rfl
  · rcases h y hy with ⟨e, _⟩ | ⟨g, e, _⟩
    · rw [e]; rfl
    · rw [e]; rfl
theorem aown_cells {w : World} {base : Nat} {q : Option Addr} {n m : Nat} {l : List ActC} (h : AOwn w base (.slice q n m) l) : n = l.length ∧ (q = none → l = [] ∧ m = 0) ∧ ∀ ad, q = some ad → ∀ j u, (cellsA l)[j]? = some u → w.cell? (ad.add j) = some u := by
  rcases h.row.2 with ⟨hv, hn⟩ | ⟨g, cap, cur, hv, hb, hg, hle, hmax, hsz, htk⟩
  · simp only [Value.slice.injEq] at hv
    obtain ⟨rfl, rfl, rfl⟩ := hv
    exact ⟨hn.symm, fun _ => ⟨List.eq_nil_of_length_eq_zero hn, rfl⟩, fun ad e => by cases e⟩
  · simp only [Value.slice.injEq] at hv
    obtain ⟨rfl, rfl, rfl⟩ := hv
    refine ⟨rfl, fun e => (by cases e), fun ad e j u hu => ?_⟩
    simp only [Option.some.injEq] at e
    subst e
    exact h.row.cells rfl j u hu
/-- Appending acts to acts. -/
theorem run_append_acts (w : World) (base : Nat) (ty : TypeId) (v : Value) (q : Option Addr) (n m : Nat) (l l' : List ActC) (h : AOwn w base v l) (h' : AOwn w base (.slice q n m) l') (hlen : l.length + l'.length ≤ 100000) (hbase : base ≤ w.heap.size) :
    ∃ v' w', (Builtin.append_ #[32, 32] ty #[v, .slice q n m]).run Try.prog w = .ok v' w' ∧ AOwn w' base v' (l ++ l') ∧ w.grownBy w' v.ownBlock := by
  obtain ⟨j0, ji, jz0, jz1, jz2⟩ := info_parts info_act
  obtain ⟨hn, hnone, hcells⟩ := aown_cells h'
  have fin : ∀ (v' : Value) (w' : World), w'.ownsRow base 43 3 v' (l.length + l'.length) (cellsA l ++ cellsA l') → w.grownBy w' v.ownBlock → AOwn w' base v' (l ++ l') := by
    intro v' w' hown hgrow
    have hfar : ∀ (k : Nat) (cs : Array Value), w.heap[k]? = some (.cells cs 5 (0, 0)) → w'.heap[k]? = w.heap[k]? := by
      intro k cs hk
      refine hgrow.block k (lt_heap hk) ?_
      intro e
      rcases h.row.2 with ⟨hv, _⟩ | ⟨g', cap, cur, hv, _, h3, _⟩
      · rw [hv] at e; simp [Value.ownBlock] at e
      · rw [hv] at e
        simp only [Value.ownBlock, Option.some.injEq] at e
        subst e
        rw [hk] at h3
        simp at h3
    refine ⟨by rw [cellsA_app, List.length_append]; exact hown, fun y hy => ?_⟩
    rcases List.mem_append.1 hy with hy | hy
    · exact (h.data y hy).block hfar
    · exact (h'.data y hy).block hfar
  cases q with
  | none =>
    obtain ⟨rfl, rfl⟩ := hnone rfl
    subst hn
    refine ⟨v, w, run_append_owned_none (P := Try.prog) w base 32 ty 43 j0 3 Try.underlying32 ji v l.length (cellsA l) h.row, ?_, ⟨rfl, rfl, rfl, Nat.le_refl _, fun _ _ _ => rfl⟩⟩
    simpa using h
  | some ad =>
    obtain ⟨v', w', h1, h2, h3, _⟩ := run_append_own (P := Try.prog) w base 32 ty 43 j0 _ 3 40 Try.underlying32 ji jz0 jz1 jz2 rfl (by decide) v l.length (cellsA l) h.row ad n m (cellsA l') (by rw [cellsA_len, hn]) (hcells ad rfl) (cellsA_one h'.data) (by unfold maxLen; omega) (by omega) hbase
    rw [hn] at h2
    exact ⟨v', w', h1, fin v' w' h2 h3, h3⟩
theorem wpList_append_acts (w : World) {ops : Array Oper} {rest : List Oper} {o : Oper} {a : Act} {Q : Exit → Act → World → Prop} (hgd : o.guard = none) (s x : Operand)
    (ho : o.op = .call { callee := .builtin .append, args := #[s, x], argTypes := #[32, 32] }) (base : Nat) (v : Value) (q : Option Addr) (n m : Nat) (l l' : List ActC) (hs : a.eval s = v) (hx : a.eval x = .slice q n m)
    (h : AOwn w base v l) (h' : AOwn w base (.slice q n m) l') (hlen : l.length + l'.length ≤ 100000) (hbase : base ≤ w.heap.size)
    (hK : ∀ v' w', AOwn w' base v' (l ++ l') → w.grownBy w' v.ownBlock → wpList Try.prog ops Q rest (a.put o.dst v') w') : wpList Try.prog ops Q (o :: rest) a w := by
  refine wpList_plain hgd fun K hK' => ?_
  obtain ⟨v', w', hr, h2, h3⟩ := run_append_acts w base o.type v q n m l l' h h' hlen hbase
  unfold Oper.wp execOp
  simp only [ho, resolve, invoke, builtin, Sem.run_bind, Sem.run_pure, Result.andThen_ok, List.map_toArray, List.map_cons, List.map_nil, hs, hx, hr]
  exact hK' _ _ (hK v' w' h2 h3)
/-- Acts stay where a disk in a box is laid over. -/
theorem AOwn.set3 {w : World} {base B : Nat} {v : Value} {l : List ActC} {cs : Array Value} (h : AOwn w base v l) (hB : w.heap[B]? = some (.cells cs 25 (0, 0))) (a b c : Value) : AOwn (((w.setCell ⟨B, 0, none⟩ a).setCell ⟨B, 1, none⟩ b).setCell ⟨B, 2, none⟩ c) base v l := by
  have hg : w.grownBy (((w.setCell ⟨B, 0, none⟩ a).setCell ⟨B, 1, none⟩ b).setCell ⟨B, 2, none⟩ c) (some B) := ⟨rfl, rfl, rfl, by simp, fun k hk hne => set3_other w B k a b c (fun e => hne (by rw [e]))⟩
  refine ⟨h.row.kept hg ?_, fun y hy => (h.data y hy).block (fun k cs' hk => set3_other w B k a b c (fun e => ?_))⟩
  · rcases h.row.2 with ⟨hv, _⟩ | ⟨g', cap, cur, hv, _, h3, _⟩
    · left; rw [hv]; rfl
    · right
      rw [hv]
      intro e
      simp only [Value.ownBlock, Option.some.injEq] at e
      subst e
      rw [hB] at h3
      simp at h3
  · subst e
    rw [hB] at hk
    simp at hk
/-- The log behind a flush is the same. -/
theorem log_settled {count : Int} {data : List Nat} {ws : Puts} (h : HasLog count data ws) : logN (settleN data ws) [] = logN data ws := by
  have hb := h.big
  have h' : HasLog count (settleN data ws) [] := ⟨okay_settled h.ok, h.big⟩
  refine secs_ext (n := 64) (log_len h') (log_len h) (fun i hi => ?_)
  rw [show secAt (logN (settleN data ws) []) i = nowN (settleN data ws) [] ((16 + i : Nat) : Int) from sec_logK (now_len h') hi, show secAt (logN data ws) i = nowN data ws ((16 + i : Nat) : Int) from sec_logK (now_len h) hi]
  exact now_settled h.ok (by omega)
theorem adds_len {E a0 p0 a p : Nat} {t0 t F : List Nat} {rs : List (List Nat)} {B : Acts} (h : Adds E a0 p0 t0 rs B F a p t) : rs.length ≤ 100 → a ≤ 63 → B.length ≤ 1000 := by
  have key : B.length + a0 ≤ a + rs.length := by
    induction h with
    | nil => simp
    | @snoc rs B F a p t r S n f _ _ _ _ _ _ _ ih =>
      have : (actsK ((17 + a : Nat) : Int) (frameN E S p r) (needsN r.length)).length = needsN r.length := by simp [actsK]
      rw [List.length_append, List.length_append, this, List.length_append]
      cases f <;> simp <;> omega
  intro h1 h2
  omega
/-- One step of added: a record, and perhaps a flush. -/
theorem step_added {count : Int} {D : List Nat} {W : Puts} {E a p S : Nat} {l : List (List Nat)} {t r : List Nat} (f : Bool) (h : HasLog count D W) (hw : W.length ≤ 100) (hE : epochN (logN D W) = E) (hrec : Recs E 0 ((logN D W).drop 128) l a p t) (hS : mostS E t (63 - a) + 1 = S) (hS2 : S < 4294967296) (hr : r.length ≤ 4096) (hrb : ∀ c ∈ r, c < 256) (hfit : a + needsN r.length ≤ 63) :
    ∃ D' W', doAny count D W (actsK ((17 + a : Nat) : Int) (frameN E S p r) (needsN r.length) ++ if f then [(true, 0, [])] else []) = .ok (D', W') ∧ HasLog count D' W' ∧ W'.length ≤ W.length + needsN r.length ∧ epochN (logN D' W') = E ∧ Recs E 0 ((logN D' W').drop 128) (l ++ [r]) (a + needsN r.length) S (t.drop (needsN r.length * 128)) := by
  have hF := frameN_len E S p r
  have e1 := do_added h (by omega) hfit hF
  have hh := has_added h (by omega) hfit hF
  obtain ⟨g1, g2⟩ := recs_added h (by omega) hE hrec hS hS2 hr hrb hfit
  cases f with
  | false =>
    refine ⟨_, _, by simpa using e1, hh, by rw [List.length_append, putsK_len]; exact Nat.le_refl _, g1, g2⟩
  | true =>
    refine ⟨settleN D (W ++ putsK ((17 + a : Nat) : Int) (frameN E S p r) (needsN r.length)), [], ?_, ⟨okay_settled hh.ok, hh.big⟩, Nat.zero_le _, by rw [log_settled hh]; exact g1, by rw [log_settled hh]; exact g2⟩
    rw [doAny_ok _ h.ok] at e1 ⊢
    rw [doN_app, e1]
    rfl
end Go.Proofs.Ytkjooekicbghdaa
namespace Go.Proofs.Ytkjooekicbghdaa
open Go.RowKit Go.WideShapes

/-- What Add answers where there is a log. -/
structure AddOut (E S a la : Nat) (r : ByteArray) (w w' : World) (v : Value) (f : Int) : Prop where
  lies : (f = 0 ∧ r.size ≤ 4096 ∧ needsN r.size ≤ 63 - a ∧ S < 4294967296 ∧ ∃ q m l, v = .slice q (List.length (α := ActC) l) m ∧ AOwn w' w.heap.size v l ∧ l.map Prod.fst = actsK ((17 + a : Nat) : Int) (frameN E S la (numsOf r)) (needsN r.size)) ∨ (v = .slice none 0 0 ∧ f = 3 ∧ 4096 < r.size) ∨ (v = .slice none 0 0 ∧ f = 30 ∧ r.size ≤ 4096 ∧ ¬ (needsN r.size ≤ 63 - a ∧ S < 4294967296))
  below : Below w.heap.size w w'
theorem Add_u (v : Value) (r : ByteArray) (count : Int) (data : List Nat) (ws : Puts) (w : World) (hd : DiskIn w v count data ws) (hl : HasLog count data ws) (E : Nat) (hE : epochN (logN data ws) = E) (hE0 : E ≠ 0)
    (l : List (List Nat)) (a la : Nat) (t : List Nat) (S : Nat) (hrec : Recs E 0 ((logN data ws).drop 128) l a la t) (hS : mostS E t (63 - a) + 1 = S) :
    Calls Try.prog 14 #[v, .string r] w fun e w' => ∃ v' f, e = .returned (.tuple #[v', .int .i64 f]) ∧ AddOut E S a la r w w' v' f := by
  by_cases h1 : 4096 < r.size
  · exact (Add_text v r count data ws w hd hl E hE hE0 h1).mono fun e w' ⟨h, hb⟩ => ⟨_, _, h, .inr (.inl ⟨rfl, rfl, h1⟩), hb⟩
  · by_cases h2 : 63 - a < needsN r.size
    · exact (Add_room v r count data ws w hd hl (log_len hl) E hE hE0 (by omega) l a la t S hrec hS h2).mono fun e w' ⟨h, hb⟩ => ⟨_, _, h, .inr (.inr ⟨rfl, rfl, by omega, by omega⟩), hb⟩
    · by_cases h3 : S < 4294967296
      · refine (Add_ok v r count data ws w hd hl (log_len hl) E hE hE0 (by omega) l a la t S hrec hS h3 (by omega)).mono ?_
        rintro e w' ⟨v', l', he, ha, hm, hb⟩
        obtain ⟨q, m, hv, _, _⟩ := ha.form
        exact ⟨v', 0, he, .inl ⟨rfl, by omega, by omega, h3, q, m, l', hv, ha, hm⟩, hb⟩
      · exact (Add_salt v r count data ws w hd hl (log_len hl) E hE hE0 (by omega) l a la t S hrec hS h3 (by omega)).mono fun e w' ⟨h, hb⟩ => ⟨_, _, h, .inr (.inr ⟨rfl, rfl, by omega, fun h => h3 h.2⟩), hb⟩
theorem count_d (s k : Nat) (h : s ≤ 10000) (hk : needsN s = k) : ∃ d : Nat, ((s : Int) + 111) / 112 = (d : Int) ∧ ((s : Int) + 111).tdiv 112 = (d : Int) ∧ wrap64 (((s : Int) + 111).tdiv 112) = (d : Int) ∧ IntKind.i64.wrap (d : Int) = (d : Int) ∧ (((1 : Int) < (d : Int) ∧ k = d) ∨ (¬ (1 : Int) < (d : Int) ∧ k = 1)) := by
  have hI : ((s : Int) + 111) / 112 = (((s + 111) / 112 : Nat) : Int) := by omega
  have hT : ((s : Int) + 111).tdiv 112 = (((s + 111) / 112 : Nat) : Int) := by rw [Int.tdiv_eq_ediv_of_nonneg (by omega)]; exact hI
  refine ⟨(s + 111) / 112, hI, hT, by rw [hT]; unfold wrap64; omega, by rw [IntKind.wrap_i64]; omega, ?_⟩
  subst hk
  unfold needsN
  by_cases h1 : 1 < (s + 111) / 112
  · exact .inl ⟨by omega, by omega⟩
  · exact .inr ⟨by omega, by omega⟩
end Go.Proofs.Ytkjooekicbghdaa
