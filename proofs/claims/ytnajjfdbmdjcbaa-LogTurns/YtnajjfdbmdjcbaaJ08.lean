/-
  The call Do on whatever disk: its answer in one form; acts cut in two.
-/
import Derived.Test.YtnajjfdbmdjcbaaJ07
import Derived.Test.YtnajjfdbmdjcbaaJ06
import Derived.Deep.QuietTactic
import Derived.BigQuiet
namespace Go.Proofs.Ytnajjfdbmdjcbaa
open Go.RowKit Go.WideShapes

/-- A row of texts. -/
def StrsIn (w : World) (q : Option Addr) (l : List ByteArray) : Prop := 0 < l.length → ∃ b o, q = some ⟨b, o, none⟩ ∧ ∀ i, i < l.length → w.cell? ⟨b, o + i, none⟩ = some (.string (l.getD i ByteArray.empty))
theorem StrsIn.below {w w' : World} {q : Option Addr} {l : List ByteArray} (h : StrsIn w q l) (hb : Below w.heap.size w w') : StrsIn w' q l := fun h0 => by
  obtain ⟨b, o, hq, hc⟩ := h h0
  exact ⟨b, o, hq, fun i hi => (hb.cell (World.block_lt_of_cell? _ _ (hc i hi))).trans (hc i hi)⟩
theorem own_strs {w : World} {base : Nat} {q : Option Addr} {n m : Nat} {l : List (List Nat)} (h : w.ownsRow base 9 1 (.slice q n m) l.length (l.map fun r => .string (strOf r))) : n = l.length ∧ StrsIn w q (l.map strOf) ∧ l.length ≤ m ∧ m ≤ maxLen := by
  rcases h.2 with ⟨hv, hn⟩ | ⟨g, cap, cur, hv, hb, hg, hle, hmax, hsz, htk⟩
  · simp only [Value.slice.injEq] at hv
    obtain ⟨rfl, rfl, rfl⟩ := hv
    exact ⟨by omega, fun h0 => by rw [List.length_map] at h0; omega, by omega, by unfold maxLen; omega⟩
  · simp only [Value.slice.injEq] at hv
    obtain ⟨rfl, rfl, rfl⟩ := hv
    refine ⟨rfl, fun _ => ⟨g, 0, rfl, fun i hi => ?_⟩, hle, hmax⟩
    rw [List.length_map] at hi
    have e := h.cellAt i (by omega)
    rw [Nat.zero_add, e]
    simp [List.getD, hi]
theorem ba_same {a b : ByteArray} : a.data.toList = b.data.toList ↔ a = b := by
  constructor
  · intro h
    cases a; cases b
    simp only [ByteArray.mk.injEq] at *
    exact Array.toList_inj.1 h
  · rintro rfl; rfl
theorem list_ext_getD {l l' : List ByteArray} (hn : l.length = l'.length) (h : ∀ j, j < l.length → l.getD j ByteArray.empty = l'.getD j ByteArray.empty) : l = l' := by
  refine List.ext_getElem hn (fun i h1 h2 => ?_)
  have := h i h1
  simpa [List.getD, h1, h2] using this
set_option maxRecDepth 8000 in
set_option maxHeartbeats 1000000 in
theorem texts_any (q q' : Option Addr) (n n' c c' : Nat) (l l' : List ByteArray) (w : World) (hn : n = l.length) (hn' : n' = l'.length) (hnm : n ≤ maxLen) (h : StrsIn w q l) (h' : StrsIn w q' l') (r : Bool) (hr : decide (l = l') = r) :
    Calls Try.prog 29 #[.slice q n c, .slice q' n' c'] w fun e w' => e = .returned (.bool r) ∧ Below w.heap.size w w' := by
  have HR : Hid (decide (l = l') = r) := hr
  have HN : Hid (n = l.length ∧ n' = l'.length) := ⟨hn, hn'⟩
  have HS : Hid (StrsIn w q l ∧ StrsIn w q' l') := ⟨h, h'⟩
  unfold maxLen at hnm
  have hnI : (n : Int) ≤ 9223372036854775807 := by omega
  clear hr hn hn' h h' hnm
  by_cases hl : n = n'
  · subst hl
    have HN2 : Hid (l.length = l'.length) := HN.out.1.symm.trans HN.out.2
    go_enter Try.func29, Try.ntmps29
    go_wp2
    go_loopw [5] (fun i wr => ∃ k : Nat, k ≤ n ∧ i = .int .i64 k ∧ (∀ j, j < k → l.getD j ByteArray.empty = l'.getD j ByteArray.empty) ∧ Below w.heap.size w wr) (fun i _ => n - (intOf i).toNat)
    case atStart => exact ⟨0, by omega, rfl, fun j hj => absurd hj (by omega), Below.refl _ _⟩
    case round =>
      obtain ⟨k, hk, rfl, hall, hb⟩ := hrel
      have HB : Hid (Below w.heap.size w wr) := hb
      have HALL : Hid (∀ j, j < k → l.getD j ByteArray.empty = l'.getD j ByteArray.empty) := hall
      by_cases hkn : k < n
      · have hkI : (k : Int) < (n : Int) := by omega
        obtain ⟨b, o, rfl, hc⟩ := (HS.out.1.below hb) (by have := HN.out; omega)
        obtain ⟨b', o', rfl, hc'⟩ := (HS.out.2.below hb) (by have := HN.out; omega)
        have e1 := hc k (by have := HN.out; omega)
        have e2 := hc' k (by have := HN.out; omega)
        obtain ⟨s, hs⟩ : ∃ s, l.getD k ByteArray.empty = s := ⟨_, rfl⟩
        obtain ⟨s', hs'⟩ : ∃ s, l'.getD k ByteArray.empty = s := ⟨_, rfl⟩
        rw [hs] at e1
        rw [hs'] at e2
        have HK : Hid (k < n ∧ l.getD k ByteArray.empty = s ∧ l'.getD k ByteArray.empty = s') := ⟨hkn, hs, hs'⟩
        clear hc hc' hs hs' hall hb hkn
        by_cases hss : s = s'
        · subst hss
          go_wp2
          go_quiet (fail)
          go_wp2
          go_roundw
          case rel => exact ⟨k + 1, by have := HK.out; omega, by go_num, fun j hj => by
            rcases Nat.lt_or_ge j k with h1 | h1
            · exact HALL.out j h1
            · obtain rfl : j = k := by omega
              rw [HK.out.2.1, HK.out.2.2], below_bt HB.out (below_dr _ _)⟩
          case measure => simp [intOf]; omega
        · have HE : Hid (¬ l = l') := fun e => hss (by rw [← HK.out.2.1, ← HK.out.2.2, e])
          have g1 : (s.toList == s'.toList) = false := by rw [ByteArray.toList_eq, ByteArray.toList_eq]; exact beq_eq_false_iff_ne.2 (fun h => hss (ba_same.1 h))
          go_wp2
          go_quiet (fail)
          go_wp2
          go_ret
          exact ⟨by rw [← HR.out, decide_eq_false HE.out]; rfl, below_bt HB.out (below_dr _ _)⟩
      · obtain rfl : k = n := by omega
        have HE : Hid (l = l') := list_ext_getD HN2.out (fun j hj => HALL.out j (by have := HN.out; omega))
        clear hall hb
        go_wp2
        go_ret
        exact ⟨by rw [← HR.out, decide_eq_true HE.out]; rfl, HB.out⟩
  · have g1 : ((n : Int) != (n' : Int)) = true := by simp; omega
    have HE : Hid (¬ l = l') := fun e => hl (by rw [HN.out.1, HN.out.2, e])
    clear hl
    go_enter Try.func29, Try.ntmps29
    go_wp2
    go_ret
    exact ⟨by rw [← HR.out, decide_eq_false HE.out]; rfl, Below.refl _ _⟩
end Go.Proofs.Ytnajjfdbmdjcbaa
namespace Go.Proofs.Ytnajjfdbmdjcbaa
open Go.RowKit Go.WideShapes

/-- Is a disk larger than the statements go through? -/
def largeL (count : Int) (data : List Nat) (ws : Puts) : Prop := (40000 < data.length ∧ 0 < count ∧ count ≤ 4096) ∨ 600000 < data.length ∨ 300 < ws.length
instance (count : Int) (data : List Nat) (ws : Puts) : Decidable (largeL count data ws) := by unfold largeL; infer_instance
set_option maxRecDepth 20000 in
set_option maxHeartbeats 4000000 in
theorem large5_any (v : Value) (count : Int) (data : List Nat) (ws : Puts) (w : World) (hd : DiskIn w v count data ws) :
    Calls Try.prog 22 #[v] w fun e w' => e = .returned (.bool (decide (largeL count data ws))) ∧ Below w.heap.size w w' := by
  obtain ⟨p, c, q, m, rfl, _⟩ := hd.parts
  clear hd
  generalize hL : data.length = L at *
  generalize hM : ws.length = M at *
  have hl : largeL count data ws ↔ ((40000 < L ∧ 0 < count ∧ count ≤ 4096) ∨ 600000 < L ∨ 300 < M) := by unfold largeL; rw [hL, hM]
  have HL : Hid _ := hl
  clear hl hL hM
  have h : (40000 < L ∧ 0 < count ∧ count ≤ 4096) ∨ ((L ≤ 40000 ∨ (40000 < L ∧ count ≤ 0) ∨ (40000 < L ∧ 0 < count ∧ 4096 < count)) ∧ (600000 < L ∨ (L ≤ 600000 ∧ (300 < M ∨ M ≤ 300)))) := by omega
  rcases h with ⟨a1, a2, a3⟩ | ⟨a1 | ⟨a1, a2⟩ | ⟨a1, a2, a3⟩, b1 | ⟨b1, d1 | d1⟩⟩
  all_goals first | omega | skip
  all_goals
    obtain ⟨bb, HV⟩ : ∃ bb, Hid (decide (largeL count data ws) = bb) := ⟨_, rfl⟩
    have HW : Hid ((bb = true ∧ largeL count data ws) ∨ (bb = false ∧ ¬ largeL count data ws)) := by
      rw [← HV.out]
      by_cases h : largeL count data ws
      · exact .inl ⟨decide_eq_true h, h⟩
      · exact .inr ⟨decide_eq_false h, h⟩
    go_enter Try.func22, Try.ntmps22
    go_wp2
    go_ret
    refine ⟨?_, below_alloc _ _⟩
    rw [HV.out]
    rcases HW.out with ⟨rfl, h⟩ | ⟨rfl, h⟩ <;> rw [HL.out] at h <;> first | rfl | (exfalso; omega) | (simp; omega)
/-- What is wrong with a disk whose log is read: 0: nothing. -/
noncomputable def errL (count : Int) (data : List Nat) (ws : Puts) : Int := by
  classical
  exact if Okay count data ws then (if count < 80 then 50 else if epochN (logN data ws) = 0 then 50 else 0) else 20
theorem errL_ok {count : Int} {data : List Nat} {ws : Puts} (h : errL count data ws = 0) : HasLog count data ws ∧ epochN (logN data ws) ≠ 0 := by
  unfold errL at h
  by_cases h1 : Okay count data ws
  · by_cases h2 : count < 80
    · simp [h1, h2] at h
    · by_cases h3 : epochN (logN data ws) = 0
      · simp [h1, h2, h3] at h
      · exact ⟨⟨h1, by omega⟩, h3⟩
  · simp [h1] at h
theorem load_bad (v : Value) (count : Int) (data : List Nat) (ws : Puts) (w : World) (hd : DiskIn w v count data ws) (er : Int) (he : errL count data ws = er) (hne : er ≠ 0) :
    Calls Try.prog 36 #[v] w fun e w' => e = .returned (.tuple #[.agg #[.int .u32 0, .slice none 0 0, .int .i64 0, .int .u32 0, .slice none 0 0], .int .i64 er]) ∧ Below w.heap.size w w' := by
  unfold errL at he
  by_cases h1 : Okay count data ws
  · by_cases h2 : count < 80
    · obtain rfl : (50 : Int) = er := by simpa [h1, h2] using he
      exact load_err v count data ws w hd 50 (by decide) (fun u w' hu => now_few u count data ws w' hu h1 h2)
    · by_cases h3 : epochN (logN data ws) = 0
      · obtain rfl : (50 : Int) = er := by simpa [h1, h2, h3] using he
        refine (load_main v count data ws w hd h1 (by omega) 0 h3).mono ?_
        rintro e w' (⟨_, rfl, hb⟩ | ⟨h0, _⟩)
        · exact ⟨rfl, hb⟩
        · exact absurd rfl h0
      · exact absurd (show (0 : Int) = er by simpa [h1, h2, h3] using he) (fun e => hne e.symm)
  · obtain rfl : (20 : Int) = er := by simpa [h1] using he
    exact load_err v count data ws w hd 20 (by decide) (fun u w' hu => now_bad u count data ws w' hu h1)
set_option maxHeartbeats 1000000 in
theorem Records_err (v : Value) (count : Int) (data : List Nat) (ws : Puts) (w : World) (hd : DiskIn w v count data ws) (er : Int) (he : errL count data ws = er) (hne : er ≠ 0) :
    Calls Try.prog 10 #[v] w fun e w' => e = .returned (.tuple #[.slice none 0 0, .int .i64 er]) ∧ Below w.heap.size w w' := by
  obtain ⟨p, c, q, m, rfl, _⟩ := hd.parts
  have HD : Hid _ := hd
  have HE : Hid (errL count data ws = er ∧ er ≠ 0) := ⟨he, hne⟩
  have g1 : (er != 0) = true := by simpa using hne
  clear hd he hne
  go_enter Try.func10, Try.ntmps10
  go_wp2_with fail
  refine (load_bad _ count data ws _ (HD.out.below (below_alloc w _)) er HE.out.1 HE.out.2).mono ?_
  rintro e w1 ⟨rfl, hb1⟩
  have HB : Hid (Below w.heap.size w (w1.alloc (.cells #[.int .u32 0, .slice none 0 0, .int .i64 0, .int .u32 0, .slice none 0 0] 82))) := below_bt (below_bt (below_alloc w _) hb1) (below_alloc _ _)
  clear hb1
  go_wp2
  go_ret2
  exact ⟨rfl, HB.out⟩
set_option maxHeartbeats 1000000 in
theorem At_err (v : Value) (count : Int) (data : List Nat) (ws : Puts) (w : World) (hd : DiskIn w v count data ws) (er : Int) (he : errL count data ws = er) (hne : er ≠ 0) :
    Calls Try.prog 16 #[v] w fun e w' => e = .returned (.tuple #[.int .i64 0, .int .i64 er]) ∧ Below w.heap.size w w' := by
  obtain ⟨p, c, q, m, rfl, _⟩ := hd.parts
  have HD : Hid _ := hd
  have HE : Hid (errL count data ws = er ∧ er ≠ 0) := ⟨he, hne⟩
  have g1 : (er != 0) = true := by simpa using hne
  clear hd he hne
  go_enter Try.func16, Try.ntmps16
  go_wp2_with fail
  refine (load_bad _ count data ws _ (HD.out.below (below_alloc w _)) er HE.out.1 HE.out.2).mono ?_
  rintro e w1 ⟨rfl, hb1⟩
  have HB : Hid (Below w.heap.size w (w1.alloc (.cells #[.int .u32 0, .slice none 0 0, .int .i64 0, .int .u32 0, .slice none 0 0] 82))) := below_bt (below_bt (below_alloc w _) hb1) (below_alloc _ _)
  clear hb1
  go_wp2
  go_ret2
  exact ⟨rfl, HB.out⟩
set_option maxHeartbeats 1000000 in
theorem Epoch_err (v : Value) (count : Int) (data : List Nat) (ws : Puts) (w : World) (hd : DiskIn w v count data ws) (er : Int) (he : errL count data ws = er) (hne : er ≠ 0) :
    Calls Try.prog 13 #[v] w fun e w' => e = .returned (.tuple #[.int .u32 0, .int .i64 er]) ∧ Below w.heap.size w w' := by
  obtain ⟨p, c, q, m, rfl, _⟩ := hd.parts
  have HD : Hid _ := hd
  have HE : Hid (errL count data ws = er ∧ er ≠ 0) := ⟨he, hne⟩
  have g1 : (er != 0) = true := by simpa using hne
  clear hd he hne
  go_enter Try.func13, Try.ntmps13
  go_wp2_with fail
  refine (load_bad _ count data ws _ (HD.out.below (below_alloc w _)) er HE.out.1 HE.out.2).mono ?_
  rintro e w1 ⟨rfl, hb1⟩
  have HB : Hid (Below w.heap.size w (w1.alloc (.cells #[.int .u32 0, .slice none 0 0, .int .i64 0, .int .u32 0, .slice none 0 0] 82))) := below_bt (below_bt (below_alloc w _) hb1) (below_alloc _ _)
  clear hb1
  go_wp2
  go_ret2
  exact ⟨rfl, HB.out⟩
set_option maxHeartbeats 1000000 in
theorem Add_err (v : Value) (r : ByteArray) (count : Int) (data : List Nat) (ws : Puts) (w : World) (hd : DiskIn w v count data ws) (er : Int) (he : errL count data ws = er) (hne : er ≠ 0) :
    Calls Try.prog 14 #[v, .string r] w fun e w' => e = .returned (.tuple #[.slice none 0 0, .int .i64 er]) ∧ Below w.heap.size w w' := by
  obtain ⟨p, c, q, m, rfl, _⟩ := hd.parts
  have HD : Hid _ := hd
  have HE : Hid (errL count data ws = er ∧ er ≠ 0) := ⟨he, hne⟩
  have g1 : (er != 0) = true := by simpa using hne
  clear hd he hne
  go_enter Try.func14, Try.ntmps14
  go_wp2_with fail
  refine (load_bad _ count data ws _ (HD.out.below (below_alloc w _)) er HE.out.1 HE.out.2).mono ?_
  rintro e w1 ⟨rfl, hb1⟩
  have HB : Hid (Below w.heap.size w (w1.alloc (.cells #[.int .u32 0, .slice none 0 0, .int .i64 0, .int .u32 0, .slice none 0 0] 82))) := below_bt (below_bt (below_alloc w _) hb1) (below_alloc _ _)
  clear hb1
  go_wp2
  go_ret2
  exact ⟨rfl, HB.out⟩
end Go.Proofs.Ytnajjfdbmdjcbaa
namespace Go.Proofs.Ytnajjfdbmdjcbaa

theorem take_take_le {xs ys : List Nat} {a b : Nat} (h : xs.take b = ys.take b) (hab : a ≤ b) : xs.take a = ys.take a := by
  have := congrArg (List.take a) h
  rwa [List.take_take, List.take_take, Nat.min_eq_left hab] at this
theorem drop_take_eq {xs ys : List Nat} {a b : Nat} (h : xs.take (a + b) = ys.take (a + b)) : (xs.drop a).take b = (ys.drop a).take b := by
  have := congrArg (List.drop a) h
  rwa [List.drop_take, List.drop_take, Nat.add_sub_cancel_left] at this
/-- The records stay where what stands ahead of the log's end stays; others may follow. -/
theorem Recs.swap {E p : Nat} {ys : List Nat} {l : List (List Nat)} {a la : Nat} {t : List Nat} (h : Recs E p ys l a la t) : ∀ {ys' : List Nat} {l2 : List (List Nat)} {a2 la2 : Nat} {t2 : List Nat}, ys'.take (a * 128) = ys.take (a * 128) → Recs E la (ys'.drop (a * 128)) l2 a2 la2 t2 → Recs E p ys' (l ++ l2) (a + a2) la2 t2 := by
  induction h with
  | stop _ =>
    intro ys' l2 a2 la2 t2 _ h2
    simpa using h2
  | @next p s ys r l a la t hr _ ih =>
    intro ys' l2 a2 la2 t2 ht h2
    have e1 : (needsN r.length + a) * 128 = needsN r.length * 128 + a * 128 := by omega
    rw [e1] at ht h2
    have hr' : IsRec E p ys' s r := ⟨hr.salt0, hr.salt, hr.len, hr.byte, by rw [take_take_le ht (by omega)]; exact hr.pre⟩
    have := ih (ys' := ys'.drop (needsN r.length * 128)) (drop_take_eq ht) (by rw [List.drop_drop]; exact h2)
    have h3 := Recs.next hr' this
    rw [List.cons_append, Nat.add_assoc]
    exact h3
theorem mostS_mono (e : Nat) (ys : List Nat) (k : Nat) : mostS e ys k ≤ mostS e ys (k + 1) := by
  show _ ≤ (if _ then max _ (max _ _) else _)
  split
  · exact Nat.le_max_left _ _
  · exact Nat.le_refl _
theorem mostS_ge {e : Nat} {ys : List Nat} : ∀ {n i : Nat}, i < n → numAt ys (i * 128) = e → numAt ys (i * 128 + 4) ≤ mostS e ys n ∧ numAt ys (i * 128 + 8) ≤ mostS e ys n
  | n + 1, i, hi, he => by
    rcases Nat.lt_or_ge i n with h | h
    · have := mostS_ge (n := n) h he
      have := mostS_mono e ys n
      omega
    · obtain rfl : i = n := by omega
      have hm : mostS e ys (i + 1) = max (mostS e ys i) (max (numAt ys (i * 128 + 4)) (numAt ys (i * 128 + 8))) := if_pos he
      rw [hm]
      exact ⟨Nat.le_trans (Nat.le_max_left _ _) (Nat.le_max_right _ _), Nat.le_trans (Nat.le_max_right _ _) (Nat.le_max_right _ _)⟩
  | 0, _, h, _ => absurd h (by omega)
/-- Behind a new salt no record of the torn end goes on. -/
theorem no_behind {E S : Nat} {t : List Nat} {n : Nat} (hE : E < 4294967296) (hS : S < 4294967296) (ht : t.length = n * 128) (hm : mostS E t n < S) (i : Nat) : ∀ s r, ¬ IsRec E S (t.drop (i * 128)) s r := fun s r h => by
  have h1 := rec_len h
  have h2 := needsN_pos r.length
  rw [List.length_drop] at h1
  have hi : i < n := by omega
  obtain ⟨_, _, _, h4⟩ := rec_dec hE hS h
  have a := h4 0 h2
  have e0 : numAt (secAt (t.drop (i * 128)) 0) 0 = numAt t (i * 128) := by
    have g : ∀ j, j < 128 → (secAt (t.drop (i * 128)) 0).getD j 0 = t.getD (i * 128 + j) 0 := fun j hj => by rw [sec_getD _ _ _ hj]; simp [List.getD, Nat.zero_mul]
    unfold numAt
    rw [g 0 (by omega), g (0 + 1) (by omega), g (0 + 2) (by omega), g (0 + 3) (by omega)]
    rfl
  have e8 : numAt (secAt (t.drop (i * 128)) 0) 8 = numAt t (i * 128 + 8) := by
    have g : ∀ j, j < 128 → (secAt (t.drop (i * 128)) 0).getD j 0 = t.getD (i * 128 + j) 0 := fun j hj => by rw [sec_getD _ _ _ hj]; simp [List.getD, Nat.zero_mul]
    unfold numAt
    rw [g 8 (by omega), g (8 + 1) (by omega), g (8 + 2) (by omega), g (8 + 3) (by omega)]
  have b := mostS_ge hi (e0.symm.trans a.he)
  have c := e8.symm.trans a.hp
  omega
/-- A record written at the log's end is its last one. -/
theorem Recs.more {E : Nat} {ys ys' : List Nat} {l : List (List Nat)} {a la : Nat} {t r : List Nat} {n S : Nat} (h : Recs E 0 ys l a la t) (hE : E < 4294967296) (hy : ys.length = n * 128) (hS : mostS E t (n - a) + 1 = S) (hS2 : S < 4294967296) (hr : r.length ≤ 4096) (hrb : ∀ c ∈ r, c < 256)
    (h1 : ys'.take (a * 128) = ys.take (a * 128)) (h2 : (ys'.drop (a * 128)).take (needsN r.length * 128) = frameN E S la r) (h3 : (ys'.drop (a * 128)).drop (needsN r.length * 128) = t.drop (needsN r.length * 128)) :
    Recs E 0 ys' (l ++ [r]) (a + needsN r.length) S (t.drop (needsN r.length * 128)) := by
  obtain ⟨f1, f2, _⟩ := h.facts (n := n) hy (by omega)
  have htl : t.length = (n - a) * 128 := by rw [f2]; exact drop_len hy
  have hrec : IsRec E la (ys'.drop (a * 128)) S r := ⟨by omega, hS2, hr, hrb, h2⟩
  have hstop : Recs E S ((ys'.drop (a * 128)).drop (needsN r.length * 128)) [] 0 S (t.drop (needsN r.length * 128)) := by
    rw [h3]
    exact .stop (no_behind hE hS2 htl (by omega) _)
  have h4 := h.swap h1 (.next hrec hstop)
  simpa using h4
end Go.Proofs.Ytnajjfdbmdjcbaa
namespace Go.Proofs.Ytnajjfdbmdjcbaa
open Go.RowKit Go.WideShapes

theorem conv_bytes {w : World} {p : Option Addr} {xs : List Nat} (h : BIn w p xs) (c : Nat) : (convert 22 9 (.slice p xs.length c)).run Try.prog w = .ok (.string (strOf xs)) w :=
  bin_conv Try.underlying22 Try.underlying5 Try.underlying9 h rfl c
theorem str_eq {xs ys : List Nat} (hx : ∀ c ∈ xs, c < 256) (hy : ∀ c ∈ ys, c < 256) : ((strOf xs).toList == (strOf ys).toList) = decide (xs = ys) := by
  rw [ByteArray.toList_eq, ByteArray.toList_eq, Bool.eq_iff_iff]
  simp only [decide_eq_true_eq, beq_iff_eq]
  exact strOf_eq hx hy
theorem below_drewN {B : Nat} {a w : World} (h : Below B a w) (n : Nat) : Below B a (w.drewN n) := ⟨h.os, h.tape, h.output, h.size, h.block⟩
/-- Are two disks the same? -/
def SameD (c1 c2 : Int) (d1 d2 : List Nat) (w1 w2 : Puts) : Prop := c1 = c2 ∧ d1 = d2 ∧ w1 = w2
theorem same_step {w1 w2 : Puts} {k : Nat} (h1 : k < w1.length) (h2 : k < w2.length) (h : w1.take k = w2.take k) (he : w1.getD k (0, []) = w2.getD k (0, [])) : w1.take (k + 1) = w2.take (k + 1) := by
  rw [take_getD h1, take_getD h2, h, he]
theorem same_not {w1 w2 : Puts} {k : Nat} (he : w1.getD k (0, []) ≠ w2.getD k (0, [])) : w1 ≠ w2 := fun h => he (by rw [h])
theorem same_all {w1 w2 : Puts} (hl : w1.length = w2.length) (h : w1.take w1.length = w2.take w1.length) : w1 = w2 := by
  rw [List.take_length, hl, List.take_length] at h; exact h

end Go.Proofs.Ytnajjfdbmdjcbaa
namespace Go.Proofs.Ytnajjfdbmdjcbaa
open Go.RowKit Go.WideShapes

def onesK (x k : Nat) : List Nat := List.replicate k x ++ List.replicate (128 - k) 0
theorem onesK_len (x k : Nat) (h : k ≤ 128) : (onesK x k).length = 128 := by simp [onesK]; omega
theorem onesK_step (x k : Nat) (h : k < 128) : (onesK x k).set k x = onesK x (k + 1) := by
  unfold onesK
  rw [List.set_append_right _ _ (by simp), List.length_replicate, Nat.sub_self, show 128 - k = (128 - (k + 1)) + 1 from by omega, List.replicate_succ, List.set_cons_zero, List.replicate_succ', List.append_assoc]
  rfl
theorem Bs_set (xs : List Nat) (k x : Nat) : (Bs xs).toArray.setIfInBounds k (.int .u8 x) = (Bs (xs.set k x)).toArray := by
  simp [Bs, List.map_set]

/-- Is a disk larger than the statements go through? -/
def largeN (count : Int) (data : List Nat) (ws : Puts) : Prop := (40000 < data.length ∧ 0 < count ∧ count ≤ 4096) ∨ 600000 < data.length ∨ (300 < ws.length ∧ ws.length < 4090) ∨ 4200 < ws.length
instance (count : Int) (data : List Nat) (ws : Puts) : Decidable (largeN count data ws) := by unfold largeN; infer_instance
end Go.Proofs.Ytnajjfdbmdjcbaa
namespace Go.Proofs.Ytnajjfdbmdjcbaa
open Go.RowKit Go.WideShapes
attribute [local go_sem ↓] Go.wp_at_zero Go.wp_at_succ

def onesL (x : Nat) : List Nat := List.replicate 128 x
def zeroL (n : Nat) : List Nat := List.replicate (n * 128) 0
theorem onesL_len (x : Nat) : 128 = (onesL x).length := by simp only [onesL, List.length_replicate]
theorem onesL_mem (x : Nat) (h : x < 256) : ∀ c ∈ onesL x, c < 256 := fun c hc => by rw [(List.mem_replicate.1 hc).2]; exact h
theorem zeroL_len (n : Nat) : (zeroL n).length = n * 128 := List.length_replicate
theorem okay_new (n : Nat) (h1 : 1 ≤ n) (h2 : n ≤ 4096) : Okay n (zeroL n) [] := ⟨by omega, by omega, by rw [zeroL_len]; omega, by simp, by simp⟩
theorem sec_zero (n k : Nat) (h : k < n) : secN (zeroL n) k = onesL 0 := by
  unfold secN zeroL onesL
  rw [List.drop_replicate, List.take_replicate]
  congr 1
  omega
theorem new_at (n : Nat) (w : World) (h1 : 1 ≤ n) (h2 : n ≤ 4096) :
    Calls Try.prog 9 #[.int .i64 n] w fun e w' => ∃ v, e = .returned (.tuple #[v, .int .i64 0]) ∧ DiskNew w' w.heap.size v n (zeroL n) [] ∧ Below w.heap.size w w' := new_ok n w h1 h2
theorem DiskNew.form {w : World} {base : Nat} {v : Value} {count : Int} {data : List Nat} {ws : Puts} (h : DiskNew w base v count data ws) : ∃ gd L q M m, v = .agg #[.int .i64 count, .slice (some ⟨gd, 0, none⟩) L L, .slice q M m] := by
  obtain ⟨gd, q, m, gs, h1, _⟩ := h.lies
  exact ⟨gd, _, q, _, m, h1⟩
theorem SecNew.form {w : World} {base : Nat} {v : Value} {xs : List Nat} (h : SecNew w base v xs) : ∃ g, v = .slice (some ⟨g, 0, none⟩) 128 128 ∧ base ≤ g ∧ BIn w (some ⟨g, 0, none⟩) xs ∧ xs.length = 128 := by
  obtain ⟨g, h1, h2, h3, h4, h5⟩ := h
  exact ⟨g, h1, h2, bin_row h3 h5, h4⟩
theorem conv_atD {w : World} {p : Option Addr} {xs : List Nat} {n c : Nat} (h : BIn w p xs) (hn : n = xs.length) : (convert 22 9 (.slice p n c)).run Try.prog w = .ok (.string (strOf xs)) w := by
  subst hn; exact conv_bytes h c
theorem alive_step : stepA 2 (zeroL 2, []) (false, 1, onesL 1) = .ok (zeroL 2, [(1, onesL 1)]) := by
  have := onesL_len 1
  simp [stepA, ← this]
theorem alive_okay : Okay 2 (zeroL 2) [(1, onesL 1)] := okay_step (s := (zeroL 2, [])) (s' := (zeroL 2, [(1, onesL 1)])) (okay_new 2 (by decide) (by decide)) alive_step
theorem alive_now : nowN (zeroL 2) [(1, onesL 1)] ((1 : Nat) : Int) = onesL 1 := by simp [nowN, nowK]

/-- Two sectors that were read, read as strings. -/
theorem keepC0 {WS w' : World} {g6 g7 : Nat} {x y : Nat} (h6 : BIn WS (some ⟨g6, 0, none⟩) (onesL x)) (h7 : BIn WS (some ⟨g7, 0, none⟩) (onesL y)) (hb : Below WS.heap.size WS w') :
    (convert 22 9 (.slice (some ⟨g6, 0, none⟩) 128 128)).run Try.prog w' = .ok (.string (strOf (onesL x))) w' ∧ (convert 22 9 (.slice (some ⟨g7, 0, none⟩) 128 128)).run Try.prog w' = .ok (.string (strOf (onesL y))) w' ∧ Hid (Below WS.heap.size WS w') :=
  ⟨conv_atD (h6.below hb) (onesL_len x), conv_atD (h7.below hb) (onesL_len y), hb⟩
end Go.Proofs.Ytnajjfdbmdjcbaa
namespace Go.Proofs.Ytnajjfdbmdjcbaa
open Go.RowKit Go.WideShapes

theorem bools_one {X : World} {b : Bool} {t : TypeId} {H : Nat} (hH : H = X.heap.size) : BoolsIn (X.alloc (.cells #[.bool b] t)) (some ⟨H, 0, none⟩) [b] := by
  subst hH
  intro _
  refine ⟨X.heap.size, 0, rfl, fun i hi => ?_⟩
  obtain rfl : i = 0 := by simpa using hi
  exact cell_of_row _ _ _ _ _ _ (heap_alloc_new X _)
theorem names_a : secN (settleN (zeroL 2) [(1, onesL 1)]) 1 = onesL 1 := by
  have := sec_settle alive_okay (n := 1) (by decide) 1 (by decide)
  have e : settleN (zeroL 2) [(1, onesL 1)] = settleK (zeroL 2) [(1, onesL 1)] 1 := rfl
  rw [e, this]
  simp [nowK]
theorem names_b : secN (crashN (zeroL 2) [(1, onesL 1)] [true]) 1 = onesL 1 := by
  have e : crashN (zeroL 2) [(1, onesL 1)] [true] = settleN (zeroL 2) [(1, onesL 1)] := crash_all (fun k hk => by have : k = 0 := by simpa using hk
                                                                                                                  subst this; rfl) _ (Nat.le_refl _)
  rw [e, names_a]
theorem names_c : secN (crashN (zeroL 2) [(1, onesL 1)] []) 1 = onesL 0 := by
  rw [crashN, crash_none, sec_zero 2 1 (by decide)]
theorem diskIn_puts {w : World} {count : Int} {data : List Nat} {ws : Puts} {p q : Option Addr} {n c M m : Nat} (h : DiskIn w (.agg #[.int .i64 count, .slice p n c, .slice q M m]) count data ws) : PutsIn w q ws := by
  obtain ⟨p', c', q', m', e, _, _, _, _, hq, _⟩ := h.parts
  simp only [Value.agg.injEq, Array.mk.injEq, List.cons.injEq, Value.slice.injEq, and_true, true_and] at e
  rw [e.2.1]
  exact hq
end Go.Proofs.Ytnajjfdbmdjcbaa
namespace Go.Proofs.Ytnajjfdbmdjcbaa
open Go.RowKit Go.WideShapes

/-- What Do comes to, on whatever disk. -/
noncomputable def doAny (count : Int) (data : List Nat) (ws : Puts) (l : Acts) : Except Int (List Nat × Puts) := if errC count data ws = 0 then doN count (data, ws) l else .error 20
theorem doAny_ok {count : Int} {data : List Nat} {ws : Puts} (l : Acts) (h : Okay count data ws) : doAny count data ws l = doN count (data, ws) l := by simp [doAny, errC_ok h]
theorem doAny_bad {count : Int} {data : List Nat} {ws : Puts} (l : Acts) (h : ¬ Okay count data ws) : doAny count data ws l = .error 20 := by simp [doAny, errC_bad h]
def resE : Except Int (List Nat × Puts) → Int
  | .ok _ => 0
  | .error c => c
def resC (count : Int) : Except Int (List Nat × Puts) → Int
  | .ok _ => count
  | .error _ => 0
def resD : Except Int (List Nat × Puts) → List Nat
  | .ok s => s.1
  | .error _ => []
def resW : Except Int (List Nat × Puts) → Puts
  | .ok s => s.2
  | .error _ => []
theorem stepA_err {count : Int} {s : List Nat × Puts} {a : Bool × Int × List Nat} {c : Int} (h : stepA count s a = .error c) : c ≠ 0 := by
  unfold stepA at h
  split at h
  · cases h
  · split at h
    · cases h; decide
    · split at h
      · cases h; decide
      · split at h
        · cases h; decide
        · cases h
theorem doN_err {count : Int} (l : Acts) : ∀ {s : List Nat × Puts} {c : Int}, doN count s l = .error c → c ≠ 0 := by
  induction l with
  | nil => intro s c h; cases h
  | cons a l ih =>
    intro s c h
    simp only [doN] at h
    cases e : stepA count s a with
    | ok t => rw [e] at h; exact ih h
    | error d => rw [e] at h; cases h; exact stepA_err e
theorem doAny_err {count : Int} {data : List Nat} {ws : Puts} {l : Acts} {c : Int} (h : doAny count data ws l = .error c) : c ≠ 0 := by
  by_cases ho : Okay count data ws
  · rw [doAny_ok l ho] at h; exact doN_err l h
  · rw [doAny_bad l ho] at h; cases h; decide
theorem doAny_okay {count : Int} {data : List Nat} {ws : Puts} {l : Acts} {s : List Nat × Puts} (h : doAny count data ws l = .ok s) : Okay count s.1 s.2 := by
  by_cases ho : Okay count data ws
  · rw [doAny_ok l ho] at h; exact okay_do l (s := (data, ws)) ho h
  · rw [doAny_bad l ho] at h; cases h
theorem zero_in (w : World) : DiskIn w zeroDisk 0 [] [] :=
  ⟨⟨_, none, 0, rfl, ⟨none, 0, rfl, ⟨fun h => absurd h (by simp), by simp⟩, by simp, by unfold maxLen; omega, fun _ => rfl⟩, fun h => absurd h (by simp), by simp, by unfold maxLen; omega, fun _ => rfl⟩, by decide, by simp⟩
/-- A disk that reads so wherever the blocks from base on, that are there, are as they are. -/
def DiskF (base : Nat) (w : World) (v : Value) (count : Int) (data : List Nat) (ws : Puts) : Prop := ∀ w2 : World, (∀ k : Nat, base ≤ k → k < w.heap.size → w2.heap[k]? = w.heap[k]?) → DiskIn w2 v count data ws
theorem DiskF.self {base : Nat} {w : World} {v : Value} {count : Int} {data : List Nat} {ws : Puts} (h : DiskF base w v count data ws) : DiskIn w v count data ws := h w (fun _ _ _ => rfl)
theorem DiskF.below {base : Nat} {w w' : World} {v : Value} {count : Int} {data : List Nat} {ws : Puts} (h : DiskF base w v count data ws) (hb : Below w.heap.size w w') : DiskIn w' v count data ws := h w' (fun k _ hk => hb.block k hk)
theorem DiskF.set3 {base B : Nat} {w : World} {v : Value} {count : Int} {data : List Nat} {ws : Puts} (h : DiskF base w v count data ws) (hB : B < base) (a b c : Value) : DiskIn (((w.setCell ⟨B, 0, none⟩ a).setCell ⟨B, 1, none⟩ b).setCell ⟨B, 2, none⟩ c) v count data ws :=
  h _ (fun k hk _ => set3_other w B k a b c (by omega))
theorem PutsOwn.keepB {w w' : World} {base : Nat} {v : Value} {ws : Puts} {gs : List Nat} (h : PutsOwn w base v ws gs) (hk : ∀ k, base ≤ k → k < w.heap.size → w'.heap[k]? = w.heap[k]?) : PutsOwn w' base v ws gs :=
  h.keep (fun g _ hv e => hk g (h.row.lt g hv).1 (lt_heap e)) (fun i hi => hk _ (h.rows i hi).1 (lt_heap (h.rows i hi).2))
theorem DiskNew.fresh {w : World} {base : Nat} {v : Value} {count : Int} {data : List Nat} {ws : Puts} (h : DiskNew w base v count data ws) (ho : Okay count data ws) : DiskF base w v count data ws := by
  intro w2 hk
  obtain ⟨gd, q, m, gs, h1, h2, h3, h4, h5⟩ := h.lies
  have : DiskNew w2 base v count data ws := ⟨⟨gd, q, m, gs, h1, h2, (hk gd h2 (lt_heap h3)).trans h3, h4.keepB hk, h5⟩, h.bytes⟩
  exact this.toIn ho
theorem do_all (v : Value) (count : Int) (data : List Nat) (ws : Puts) (w : World) (hd : DiskIn w v count data ws) (q : Option Addr) (n m : Nat) (l : Acts) (hn : n = l.length) (hl : ActsIn w q l) (hll : l.length ≤ 9223372036854775807) (r : Except Int (List Nat × Puts)) (hr : doAny count data ws l = r) :
    Calls Try.prog 15 #[v, .slice q n m] w fun e w' => (∃ v', e = .returned (.tuple #[v', .int .i64 (resE r)]) ∧ DiskF w.heap.size w' v' (resC count r) (resD r) (resW r)) ∧ Below w.heap.size w w' := by
  subst hn
  subst hr
  by_cases ho : Okay count data ws
  · rw [doAny_ok l ho]
    refine (do_ok v count data ws w hd ho q m l hl hll).mono ?_
    rintro e w' ⟨hp, hb⟩
    refine ⟨?_, hb⟩
    generalize hr : doN count (data, ws) l = r at *
    cases hp with
    | err c => exact ⟨_, rfl, fun w2 _ => zero_in w2⟩
    | ok d2 w2 v2 _ hnew => exact ⟨_, rfl, hnew.fresh (okay_do l (s := (data, ws)) (s' := (d2, w2)) ho hr)⟩
  · rw [doAny_bad l ho]
    refine (do_bad v _ count data ws w hd ho).mono ?_
    rintro e w' ⟨rfl, hb⟩
    exact ⟨⟨_, rfl, fun w2 _ => zero_in w2⟩, hb⟩
theorem doAny_fail {count : Int} {data : List Nat} {ws : Puts} {l : Acts} {k : Nat} {c : Int} (h : doAny count data ws (l.take k) = .error c) : doAny count data ws l = .error c := by
  by_cases ho : Okay count data ws
  · rw [doAny_ok _ ho] at h ⊢; exact doN_fail h
  · rw [doAny_bad _ ho] at h ⊢; exact h
theorem doAny_cut {count : Int} {data : List Nat} {ws : Puts} {l : Acts} {k : Nat} {s : List Nat × Puts} (h : doAny count data ws (l.take k) = .ok s) : doAny count s.1 s.2 (l.drop k) = doAny count data ws l := by
  have hs := doAny_okay h
  by_cases ho : Okay count data ws
  · rw [doAny_ok _ ho] at h ⊢
    rw [doAny_ok _ hs]
    conv => rhs; rw [← List.take_append_drop k l, doN_app, h]
  · rw [doAny_bad _ ho] at h; cases h
theorem acts_take {w : World} {q : Option Addr} {l : Acts} (h : ActsIn w q l) (k : Nat) : ActsIn w q (l.take k) := by
  intro hp
  simp only [List.length_take] at hp
  obtain ⟨b, o, rfl, hc⟩ := h (by omega)
  refine ⟨b, o, rfl, fun i hi => ?_⟩
  simp only [List.length_take] at hi
  have e : (l.take k).getD i (false, 0, []) = l.getD i (false, 0, []) := by simp [List.getD, show i < k from by omega]
  rw [e]
  exact hc i (by omega)
theorem acts_drop {w : World} {b o : Nat} {l : Acts} (h : ActsIn w (some ⟨b, o, none⟩) l) (k : Nat) (A : Option Addr) (hA : k < l.length → A = some ⟨b, o + k * 3, none⟩) : ActsIn w A (l.drop k) := by
  intro hp
  simp only [List.length_drop] at hp
  obtain ⟨b', o', e, hc⟩ := h (by omega)
  simp only [Option.some.injEq, Addr.mk.injEq, and_true] at e
  obtain ⟨rfl, rfl⟩ := e
  refine ⟨b, o + k * 3, hA (by omega), fun i hi => ?_⟩
  simp only [List.length_drop] at hi
  have e : (l.drop k).getD i (false, 0, []) = l.getD (k + i) (false, 0, []) := by simp [List.getD]
  rw [e]
  have := hc (k + i) (by omega)
  rw [show o + k * 3 + i * 3 = o + (k + i) * 3 from by omega, show o + k * 3 + (i * 3 + 1) = o + ((k + i) * 3 + 1) from by omega, show o + k * 3 + (i * 3 + 2) = o + ((k + i) * 3 + 2) from by omega]
  exact this
end Go.Proofs.Ytnajjfdbmdjcbaa
