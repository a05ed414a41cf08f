import Derived.Test.YtghcmllmbpoidaaGreatDoorJ01
import Derived.Laws.CopyOwn
import Derived.Test.YtghcmllmbpoidaaGreatDoorProg
import Derived.Deep.RegionHeld3
import Derived.Deep.DrawnRows
import Derived.Deep.AppendLies
namespace Go.Proofs.YtghcmllmbpoidaaGreatDoor
open Go.RowKit
abbrev Puts := List (Int × List Nat)
structure Okay (count : Int) (data : List Nat) (ws : Puts) : Prop where
  lo : 1 ≤ count
  hi : count ≤ 4096
  len : (data.length : Int) = count * 128
  few : ws.length ≤ 4096
  each : ∀ y ∈ ws, 0 ≤ y.1 ∧ y.1 < count ∧ y.2.length = 128
def secN (data : List Nat) (n : Nat) : List Nat := (data.drop (n * 128)).take 128
def putS (data : List Nat) (y : Int × List Nat) : List Nat := splice data (y.1.toNat * 128) y.2
def settleK (data : List Nat) (ws : Puts) : Nat → List Nat
  | 0 => data
  | k + 1 => putS (settleK data ws k) (ws.getD k (0, []))
def nowK (ws : Puts) (n : Int) : Nat → Option (List Nat)
  | 0 => none
  | k + 1 => if (ws.getD k (0, [])).1 = n then some (ws.getD k (0, [])).2 else nowK ws n k
def nowN (data : List Nat) (ws : Puts) (n : Int) : List Nat := (nowK ws n ws.length).getD (secN data n.toNat)
def settleN (data : List Nat) (ws : Puts) : List Nat := settleK data ws ws.length
theorem getD_mem {ws : Puts} {k : Nat} (h : k < ws.length) : ws.getD k (0, []) ∈ ws := by
  simp [List.getD, List.getElem?_eq_getElem h]
theorem Okay.wait {count : Int} {data : List Nat} {ws : Puts} (h : Okay count data ws) {k : Nat} (hk : k < ws.length) : 0 ≤ (ws.getD k (0, [])).1 ∧ (ws.getD k (0, [])).1 < count ∧ (ws.getD k (0, [])).2.length = 128 := h.each _ (getD_mem hk)
theorem secN_len {data : List Nat} {n : Nat} (h : (n + 1) * 128 ≤ data.length) : (secN data n).length = 128 := by
  simp [secN]; omega
theorem putS_len {data : List Nat} {y : Int × List Nat} (h : y.1.toNat * 128 + y.2.length ≤ data.length) : (putS data y).length = data.length := length_splice _ _ _ h
theorem settleK_len {count : Int} {data : List Nat} {ws : Puts} (h : Okay count data ws) : ∀ k, k ≤ ws.length → (settleK data ws k).length = data.length
  | 0, _ => rfl
  | k + 1, hk => by
    have ih := settleK_len h k (by omega)
    have hw := h.wait (show k < ws.length from hk)
    have := h.len
    rw [settleK, putS_len (by rw [ih, hw.2.2]; omega), ih]
theorem nowK_len {count : Int} {data : List Nat} {ws : Puts} (h : Okay count data ws) {n : Int} {xs : List Nat} : ∀ k, k ≤ ws.length → nowK ws n k = some xs → xs.length = 128 ∧ ∃ y ∈ ws, y.1 = n ∧ y.2 = xs
  | 0, _, e => by simp [nowK] at e
  | k + 1, hk, e => by
    rw [nowK] at e
    split at e
    · rename_i hn
      simp only [Option.some.injEq] at e
      exact ⟨by rw [← e]; exact (h.wait (show k < ws.length from hk)).2.2, _, getD_mem hk, hn, e⟩
    · exact nowK_len h k (by omega) e
theorem nowN_len {count : Int} {data : List Nat} {ws : Puts} (h : Okay count data ws) {n : Nat} (hn : (n : Int) < count) : (nowN data ws n).length = 128 := by
  unfold nowN
  cases e : nowK ws n ws.length with
  | none => have := h.len; exact secN_len (by simp; omega)
  | some xs => exact (nowK_len h _ (Nat.le_refl _) e).1
theorem okay_settled {count : Int} {data : List Nat} {ws : Puts} (h : Okay count data ws) : Okay count (settleN data ws) [] :=
  ⟨h.lo, h.hi, by rw [settleN, settleK_len h _ (Nat.le_refl _)]; exact h.len, by simp, by simp⟩
theorem sec_put {data : List Nat} {y : Int × List Nat} {n : Nat} (h0 : 0 ≤ y.1) (h1 : y.2.length = 128) (h2 : y.1.toNat * 128 + 128 ≤ data.length) (hn : n * 128 + 128 ≤ data.length) :
    secN (putS data y) n = if y.1 = n then y.2 else secN data n := by
  obtain ⟨s, b⟩ := y
  obtain ⟨m, rfl⟩ := Int.eq_ofNat_of_zero_le h0
  simp only [Int.toNat_natCast, secN, putS, splice] at *
  split
  · rename_i e
    obtain rfl : m = n := by omega
    rw [List.drop_append_of_le_length (by simp; omega), List.drop_eq_nil_of_le (by simp; omega), List.nil_append, ← h1, List.take_left]
  · rename_i e
    have hne : m ≠ n := by omega
    apply List.ext_getElem?
    intro i
    simp only [List.getElem?_take, List.getElem?_drop]
    split
    · rename_i hi
      rcases Nat.lt_or_gt_of_ne hne with h | h
      · rw [List.getElem?_append_right (by simp; omega), List.getElem?_append_right (by simp; omega), List.getElem?_drop]
        congr 1
        simp; omega
      · rw [List.getElem?_append_left (by simp; omega), List.getElem?_take, if_pos (by omega)]
    · rfl
theorem sec_settle {count : Int} {data : List Nat} {ws : Puts} (h : Okay count data ws) {n : Nat} (hn : (n : Int) < count) : ∀ k, k ≤ ws.length → secN (settleK data ws k) n = (nowK ws n k).getD (secN data n)
  | 0, _ => rfl
  | k + 1, hk => by
    have ih := sec_settle h hn k (by omega)
    have hw := h.wait (show k < ws.length from hk)
    have hl := settleK_len h k (by omega)
    have hlen := h.len
    rw [settleK, sec_put hw.1 hw.2.2 (by omega) (by omega), nowK]
    split
    · rfl
    · exact ih
theorem now_settled {count : Int} {data : List Nat} {ws : Puts} (h : Okay count data ws) {n : Nat} (hn : (n : Int) < count) : nowN (settleN data ws) [] n = nowN data ws n := by
  have := sec_settle h hn ws.length (Nat.le_refl _)
  simpa [nowN, nowK, settleN] using this
theorem getD_app_left {ws : Puts} {y : Int × List Nat} {k : Nat} (h : k < ws.length) : (ws ++ [y]).getD k (0, []) = ws.getD k (0, []) := by
  simp [List.getD, List.getElem?_append_left h]
theorem nowK_app {ws : Puts} {y : Int × List Nat} {n : Int} : ∀ k, k ≤ ws.length → nowK (ws ++ [y]) n k = nowK ws n k
  | 0, _ => rfl
  | k + 1, h => by rw [nowK, nowK, getD_app_left (show k < ws.length from h), nowK_app k (by omega)]
theorem now_written {data : List Nat} {ws : Puts} {y : Int × List Nat} {n : Int} : nowN data (ws ++ [y]) n = if y.1 = n then y.2 else nowN data ws n := by
  unfold nowN
  have e : (ws ++ [y]).length = ws.length + 1 := by simp
  rw [e, nowK]
  have e2 : (ws ++ [y]).getD ws.length (0, []) = y := by simp [List.getD]
  rw [e2, nowK_app _ (Nat.le_refl _)]
  split <;> rfl
abbrev Acts := List (Bool × Int × List Nat)
def stepA (count : Int) (s : List Nat × Puts) (a : Bool × Int × List Nat) : Except Int (List Nat × Puts) :=
  if a.1 = true then .ok (settleN s.1 s.2, [])
  else if ¬ (0 ≤ a.2.1 ∧ a.2.1 < count) then .error 21
  else if a.2.2.length ≠ 128 then .error 8
  else if 4096 ≤ s.2.length then .error 4
  else .ok (s.1, s.2 ++ [a.2])
def doN (count : Int) : List Nat × Puts → Acts → Except Int (List Nat × Puts)
  | s, [] => .ok s
  | s, a :: l => match stepA count s a with
    | .ok s' => doN count s' l
    | .error e => .error e
theorem doN_app (count : Int) (l m : Acts) : ∀ s, doN count s (l ++ m) = match doN count s l with | .ok s' => doN count s' m | .error e => .error e := by
  induction l with
  | nil => intro s; rfl
  | cons a l ih =>
    intro s
    simp only [List.cons_append, doN]
    cases stepA count s a with
    | ok s' => exact ih s'
    | error e => rfl
theorem take_succ_getD {l : Acts} {k : Nat} (h : k < l.length) : l.take (k + 1) = l.take k ++ [l.getD k (false, 0, [])] := by
  rw [List.take_succ_eq_append_getElem h]; simp [List.getD, List.getElem?_eq_getElem h]
theorem doN_step {count : Int} {s s' : List Nat × Puts} {l : Acts} {k : Nat} (h : k < l.length) (e : doN count s (l.take k) = .ok s') : doN count s (l.take (k + 1)) = stepA count s' (l.getD k (false, 0, [])) := by
  rw [take_succ_getD h, doN_app, e]
  show doN count s' _ = _
  simp only [doN]
  cases stepA count s' (l.getD k (false, 0, [])) <;> rfl
theorem doN_fail {count : Int} {s : List Nat × Puts} {l : Acts} {k : Nat} {c : Int} (e : doN count s (l.take k) = .error c) : doN count s l = .error c := by
  rw [← List.take_append_drop k l, doN_app, e]
theorem okay_step {count : Int} {s s' : List Nat × Puts} {a : Bool × Int × List Nat} (h : Okay count s.1 s.2) (e : stepA count s a = .ok s') : Okay count s'.1 s'.2 := by
  unfold stepA at e
  split at e
  · simp only [Except.ok.injEq] at e; subst e; exact okay_settled h
  · split at e
    · cases e
    · split at e
      · cases e
      · split at e
        · cases e
        · rename_i h1 h2 h3 h4
          simp only [Except.ok.injEq] at e
          subst e
          refine ⟨h.lo, h.hi, h.len, by simp; omega, ?_⟩
          intro y hy
          simp only [List.mem_append, List.mem_singleton] at hy
          rcases hy with hy | rfl
          · exact h.each y hy
          · have := Decidable.not_not.1 h2
            exact ⟨this.1, this.2, Decidable.not_not.1 h3⟩
theorem okay_do {count : Int} (l : Acts) : ∀ {s s' : List Nat × Puts}, Okay count s.1 s.2 → doN count s l = .ok s' → Okay count s'.1 s'.2 := by
  induction l with
  | nil => intro s s' h e; simp only [doN, Except.ok.injEq] at e; subst e; exact h
  | cons a l ih =>
    intro s s' h e
    simp only [doN] at e
    cases e1 : stepA count s a with
    | ok t => rw [e1] at e; exact ih (okay_step h e1) e
    | error c => rw [e1] at e; cases e
end Go.Proofs.YtghcmllmbpoidaaGreatDoor
namespace Go.Proofs.YtghcmllmbpoidaaGreatDoor
open Go.RowKit Go.WideShapes
theorem info_u8 : (Tryz.prog.info? 5).map (fun i => (i.zero, i.size, i.bytes)) = some (some (.int .u8 0), 1, 1) := by kernel_rfl
theorem size_u8 : (Tryz.prog.info? 5).map (·.size) = some 1 := by kernel_rfl
theorem row_full {w : World} {base e g n : Nat} {xs : List Value} (h : w.ownsRow base e 1 (.slice (some ⟨g, 0, none⟩) n n) n xs) : w.heap[g]? = some (.cells xs.toArray e (0, 0)) := by
  rcases h.2 with ⟨h, _⟩ | ⟨g', cap, cur, hv, _, hg, _, _, hs, ht⟩
  · cases h
  · simp only [Value.slice.injEq, Option.some.injEq, Addr.mk.injEq, and_true, true_and] at hv
    obtain ⟨rfl, rfl⟩ := hv
    rw [hg]
    rw [List.take_of_length_le (by simp; omega)] at ht
    rw [← ht, Array.toArray_toList]
theorem zeros_made (n : Nat) : (madeCells #[Value.int .u8 0] n).toList = Bs (List.replicate n 0) := by
  rw [toList_madeCells_one]
  simp [Bs]
theorem splice_all {α : Type} {L cs : List α} (h : cs.length = L.length) : splice L 0 cs = cs := by
  simp [splice, h]
theorem Bs_splice (xs ys : List Nat) (o : Nat) : splice (Bs xs) o (Bs ys) = Bs (splice xs o ys) := by simp [splice, Bs]
theorem bin_row {w : World} {g t : Nat} {xs : List Nat} (h : w.heap[g]? = some (.cells (Bs xs).toArray t (0, 0))) (hx : ∀ c ∈ xs, c < 256) : BIn w (some ⟨g, 0, none⟩) xs := by
  refine ⟨fun _ => ⟨g, 0, rfl, fun i hi => ?_⟩, hx⟩
  rw [Nat.zero_add, cell_of_row w g i _ _ _ h]
  simp [Bs, List.getD, List.getElem?_eq_getElem hi]
theorem mayCount_any (n : Int) (w : World) : Calls Tryz.prog 70 #[.int .i64 n] w fun e w' => e = .returned (.bool (decide (1 ≤ n ∧ n ≤ 4096))) ∧ w' = w := by
  by_cases h1 : 1 ≤ n
  · go_enter Tryz.func70, Tryz.ntmps70
    go_wp2
    go_ret
    exact ⟨by simp [h1], rfl⟩
  · go_enter Tryz.func70, Tryz.ntmps70
    go_wp2
    go_ret
    exact ⟨by simp; omega, rfl⟩
theorem has_any (count n : Int) (a b : Value) (w : World) : Calls Tryz.prog 71 #[.agg #[.int .i64 count, a, b], .int .i64 n] w fun e w' => e = .returned (.bool (decide (0 ≤ n ∧ n < count))) ∧ ∃ o, w' = w.alloc o := by
  by_cases h1 : 0 ≤ n
  · go_enter Tryz.func71, Tryz.ntmps71
    go_wp2
    go_ret
    exact ⟨by simp [h1], _, rfl⟩
  · go_enter Tryz.func71, Tryz.ntmps71
    go_wp2
    go_ret
    exact ⟨by simp; omega, _, rfl⟩
theorem sector_any (b o len cap n : Nat) (w : World) (hn : n < 4096) (hl : (n + 1) * 128 ≤ len) (hc : len ≤ cap) :
    Calls Tryz.prog 72 #[.slice (some ⟨b, o, none⟩) len cap, .int .i64 n] w fun e w' => e = .returned (.slice (some ⟨b, o + n * 128, none⟩) 128 (cap - n * 128)) ∧ w' = w := by
  go_enter Tryz.func72, Tryz.ntmps72
  go_wp2
  go_ret
  exact ⟨by show Ending.returned (.slice _ ((n + 1) * 128 - n * 128) _) = _; rw [show (n + 1) * 128 - n * 128 = 128 from by omega], rfl⟩
theorem copyOf_any (p : Option Addr) (cap : Nat) (xs : List Nat) (w : World) (hb : BIn w p xs) (hx : xs.length = 128) :
    Calls Tryz.prog 73 #[.slice p 128 cap] w fun e w' => ∃ g, e = .returned (.slice (some ⟨g, 0, none⟩) 128 128) ∧ w.heap.size ≤ g ∧ w'.heap[g]? = some (.cells (Bs xs).toArray 5 (0, 0)) ∧ Below w.heap.size w w' := by
  obtain ⟨i0, hi, hz0, hz1, hz2⟩ := info_parts info_u8
  go_enter Tryz.func73, Tryz.ntmps73
  go_wp2_with (at_make; refine wpList_make_full _ rfl _ _ 32 rfl w.heap.size 5 i0 (.int .u8 0) 1 Tryz.underlying32 hi hz0 hz1 .i64 .i64 _ _ 128 rfl rfl rfl rfl (by rw [hz2]; decide) (by decide) (Nat.le_refl _) ?_)
  intro w1 hown hgrow
  have hrow := row_full hown
  rw [zeros_made] at hrow
  have hb1 : Below w.heap.size w w1 := (Below.refl _ _).grown hgrow (Nat.le_refl _) (fun k hk => by cases hk)
  obtain ⟨b, o, rfl, hc⟩ := hb.1 (by omega)
  have hsrc : Hid (∀ j v, (Bs xs)[j]? = some v → w1.cell? ((⟨b, o, none⟩ : Addr).add j) = some v) := bin_news (hb.below hb1)
  have HR : Hid (w1.heap[w.heap.size]? = some (.cells (Bs (List.replicate 128 0)).toArray 5 (0, 0))) := hrow
  have HL : Hid ((Bs xs).length = Nat.min 128 128) := by show _ = _; rw [Bs_len, hx]; rfl
  have HF : Hid (0 + (Bs xs).length ≤ (Bs (List.replicate 128 0)).length) := by show _ ≤ _; rw [Bs_len, Bs_len, hx]; simp
  clear hown hgrow hrow hb hc
  go_wp2_with (refine wpList_copy_splice (o := ⟨some 9, _, _, _, _, _⟩) rfl (.tmp 7) (.tmp 8) 32 32 rfl 5 Tryz.underlying32 size_u8 (some ⟨w.heap.size, 0, none⟩) (some ⟨b, o, none⟩) 128 128 128 cap rfl rfl w.heap.size 0 (Bs (List.replicate 128 0)) 5 HR.out (Bs xs) HL.out (fun _ => ⟨rfl, _, rfl, hsrc.out⟩) HF.out (Bs_oneCell xs) w.heap.size w hb1 (Nat.le_refl _) ?_)
  intro w2 hrow2 hb2
  go_wp2
  go_ret
  refine ⟨_, rfl, Nat.le_refl _, ?_, hb2⟩
  rw [hrow2.out, splice_all (by rw [HL.out, Bs_len]; simp)]
theorem below_alloc (w : World) (o : Obj) : Below w.heap.size w (w.alloc o) := (Below.refl _ _).alloc (Nat.le_refl _) o
theorem DiskIn.parts {w : World} {v : Value} {count : Int} {data : List Nat} {ws : Puts} (h : DiskIn w v count data ws) :
    ∃ p c q m, v = .agg #[.int .i64 count, .slice p data.length c, .slice q ws.length m] ∧ BIn w p data ∧ data.length ≤ c ∧ c ≤ maxLen ∧ (p = none → c = 0) ∧ PutsIn w q ws ∧ ws.length ≤ m ∧ m ≤ maxLen ∧ (q = none → m = 0) := by
  obtain ⟨dv, q, m, rfl, hr, hp, h1, h2, h3⟩ := h.lies
  obtain ⟨p, c, rfl, g1, g2, g3, g4⟩ := hr.lies
  exact ⟨p, c, q, m, rfl, g1, g2, g3, g4, hp, h1, h2, h3⟩
theorem i64_bounds {n : Int} (h : (Lit.int .i64 n).wf = true) : -9223372036854775808 ≤ n ∧ n ≤ 9223372036854775807 := bounds_i64 h
theorem PutsIn.at {w : World} {b o : Nat} {ws : Puts} (h : PutsIn w (some ⟨b, o, none⟩) ws) {k : Nat} (hk : k < ws.length) :
    w.cell? ⟨b, o + k * 2, none⟩ = some (.int .i64 (ws.getD k (0, [])).1) ∧ ∃ p c, w.cell? ⟨b, o + (k * 2 + 1), none⟩ = some (.slice p (ws.getD k (0, [])).2.length c) ∧ BIn w p (ws.getD k (0, [])).2 ∧ (ws.getD k (0, [])).2.length ≤ c ∧ c ≤ maxLen ∧ (p = none → c = 0) := by
  obtain ⟨b', o', e, hc⟩ := h (by omega)
  simp only [Option.some.injEq, Addr.mk.injEq, and_true] at e
  obtain ⟨rfl, rfl⟩ := e
  obtain ⟨h1, v, h2, hr⟩ := hc k hk
  obtain ⟨p, c, rfl, g⟩ := hr.lies
  exact ⟨h1, p, c, h2, g⟩
theorem box_cells {w wr : World} {a b c : Value} {t : TypeId} (h : Below (w.heap.size + 1) (w.alloc (.cells #[a, b, c] t)) wr) :
    wr.cell? ⟨w.heap.size, 0, none⟩ = some a ∧ wr.cell? ⟨w.heap.size, 1, none⟩ = some b ∧ wr.cell? ⟨w.heap.size, 2, none⟩ = some c := by
  have hh : wr.heap[w.heap.size]? = some (.cells #[a, b, c] t (0, 0)) := (h.block _ (by omega)).trans (heap_alloc_new w _)
  exact ⟨cell_of_row _ _ _ _ _ _ hh, cell_of_row _ _ _ _ _ _ hh, cell_of_row _ _ _ _ _ _ hh⟩
theorem box_below {w wr : World} {o : Obj} (h : Below (w.heap.size + 1) (w.alloc o) wr) : Below w.heap.size w wr := (below_alloc w o).trans (h.mono (by omega))
theorem PutsIn.addr {w : World} {q : Option Addr} {ws : Puts} (h : PutsIn w q ws) (hw : 0 < ws.length) : ∃ b o, q = some ⟨b, o, none⟩ := by
  obtain ⟨b, o, e, _⟩ := h hw
  exact ⟨b, o, e⟩
theorem PutsIn.at' {w : World} {b o : Nat} {ws : Puts} (h : PutsIn w (some ⟨b, o, none⟩) ws) {k : Nat} (hk : k < ws.length) :
    w.cell? ⟨b, o + k * 2, none⟩ = some (.int .i64 (ws.getD k (0, [])).1) ∧ ∃ p c, w.cell? ⟨b, o + k * 2 + 1, none⟩ = some (.slice p (ws.getD k (0, [])).2.length c) ∧ (ws.getD k (0, [])).2.length ≤ c ∧ c ≤ 9223372036854775807 := by
  obtain ⟨h1, p, c, h2, _, h3, h4, _⟩ := h.at hk
  unfold maxLen at h4
  exact ⟨h1, p, c, by rw [Nat.add_assoc]; exact h2, h3, by omega⟩
theorem box_size {w wr : World} {o : Obj} (h : Below (w.heap.size + 1) (w.alloc o) wr) : w.heap.size < wr.heap.size := by
  have := h.size
  simp at this
  omega
def GoodK (count : Int) (ws : Puts) (k : Nat) : Prop := ∀ i, i < k → 0 ≤ (ws.getD i (0, [])).1 ∧ (ws.getD i (0, [])).1 < count ∧ (ws.getD i (0, [])).2.length = 128
theorem GoodK.step {count : Int} {ws : Puts} {k : Nat} (h : GoodK count ws k) (h1 : 0 ≤ (ws.getD k (0, [])).1 ∧ (ws.getD k (0, [])).1 < count) (h2 : (ws.getD k (0, [])).2.length = 128) : GoodK count ws (k + 1) := by
  intro i hi
  rcases Nat.lt_or_ge i k with h' | h'
  · exact h i h'
  · obtain rfl : i = k := by omega
    exact ⟨h1.1, h1.2, h2⟩
theorem GoodK.bad {count : Int} {data : List Nat} {ws : Puts} {k : Nat} (hk : k < ws.length) (h : ¬ ((0 ≤ (ws.getD k (0, [])).1 ∧ (ws.getD k (0, [])).1 < count) ∧ (ws.getD k (0, [])).2.length = 128)) : ¬ Okay count data ws := by
  intro ho
  have := ho.wait hk
  exact h ⟨⟨this.1, this.2.1⟩, this.2.2⟩
theorem GoodK.okay {count : Int} {data : List Nat} {ws : Puts} (h : GoodK count ws ws.length) (h1 : 1 ≤ count) (h2 : count ≤ 4096) (h3 : (data.length : Int) = count * 128) (h4 : ws.length ≤ 4096) : Okay count data ws := by
  refine ⟨h1, h2, h3, h4, fun y hy => ?_⟩
  obtain ⟨i, hi, rfl⟩ := List.getElem_of_mem hy
  have := h i hi
  simpa [List.getD, List.getElem?_eq_getElem hi] using this
open Classical in
noncomputable def errC (count : Int) (data : List Nat) (ws : Puts) : Int := if Okay count data ws then 0 else 20
theorem errC_ok {count : Int} {data : List Nat} {ws : Puts} (h : Okay count data ws) : errC count data ws = 0 := if_pos h
theorem errC_bad {count : Int} {data : List Nat} {ws : Puts} (h : ¬ Okay count data ws) : errC count data ws = 20 := if_neg h
set_option maxHeartbeats 1000000 in
theorem check_any (v : Value) (count : Int) (data : List Nat) (ws : Puts) (w : World) (hd : DiskIn w v count data ws) :
    Calls Tryz.prog 38 #[v] w fun e w' => e = .returned (.int .i64 (errC count data ws)) ∧ Below w.heap.size w w' := by
  obtain ⟨p, c, q, m, rfl, hb, hc, hcm, hp, hq, hm, hmm, hqn⟩ := hd.parts
  have hcount := i64_bounds hd.count_wf
  clear hd hb hp hqn
  unfold maxLen at hcm hmm
  by_cases h1 : 1 ≤ count ∧ count ≤ 4096
  · by_cases h2 : (data.length : Int) = count * 128
    · by_cases h3 : ws.length ≤ 4096
      · go_enter Tryz.func38, Tryz.ntmps38
        go_wp2_with (go_at_call 70; refine (mayCount_any count _).mono ?_; rintro e w1 ⟨rfl, rfl⟩; rw [decide_eq_true h1])
        go_loopw [27] (fun i wr => ∃ k : Nat, k ≤ ws.length ∧ i = .int .i64 k ∧ GoodK count ws k ∧ Below (w.heap.size + 1) (w.alloc (.cells #[.int .i64 count, .slice p data.length c, .slice q ws.length m] 35)) wr) (fun i _ => ws.length - (intOf i).toNat)
        case atStart => exact ⟨0, by omega, rfl, fun i hi => absurd hi (by omega), Below.refl _ _⟩
        case round =>
          obtain ⟨k, hk, rfl, hgood, hbel⟩ := hrel
          have HG : Hid _ := hgood
          clear hgood
          obtain ⟨hc0, hc1, hc2⟩ := box_cells hbel
          have hsz := box_size hbel
          by_cases hkl : k < ws.length
          · obtain ⟨b, o, rfl⟩ := hq.addr (by omega)
            obtain ⟨e1, pk, ck, e2, f1, f2⟩ := (hq.below (box_below hbel)).at' hkl
            clear hq
            have HS := GoodK.step (k := k) HG.out
            have HE := GoodK.bad (data := data) (k := k) (count := count) hkl
            generalize ws.getD k (0, []) = y at *
            obtain ⟨s, xs⟩ := y
            have HS' : Hid _ := HS
            have HE' : Hid _ := HE
            clear HS HE
            simp only at e1 e2 f1
            by_cases g1 : 0 ≤ s ∧ s < count
            · by_cases g2 : xs.length = 128
              · have HG2 : Hid (GoodK count ws (k + 1)) := HS'.out g1 g2
                go_wp2_with (go_at_call 71; refine (has_any count s _ _ _).mono ?_; rintro e w1 ⟨rfl, ob, rfl⟩; rw [decide_eq_true g1])
                go_roundw
                case rel => exact ⟨k + 1, by omega, by go_num, HG2.out, (hbel.alloc (by omega) _).alloc (by simp; omega) _⟩
                case measure => simp [intOf]; omega
              · have HB : Hid (errC count data ws = 20) := errC_bad (HE'.out (fun h => g2 h.2))
                have hne : ((xs.length : Int) != 128) = true := by simp; omega
                go_wp2_with (go_at_call 71; refine (has_any count s _ _ _).mono ?_; rintro e w1 ⟨rfl, ob, rfl⟩; rw [decide_eq_true g1])
                go_ret
                exact ⟨by rw [HB.out]; rfl, box_below ((hbel.alloc (by omega) _).alloc (by simp; omega) _)⟩
            · have HB : Hid (errC count data ws = 20) := errC_bad (HE'.out (fun h => g1 h.1))
              go_wp2_with (go_at_call 71; refine (has_any count s _ _ _).mono ?_; rintro e w1 ⟨rfl, ob, rfl⟩; rw [decide_eq_false g1])
              go_ret
              exact ⟨by rw [HB.out]; rfl, box_below ((hbel.alloc (by omega) _).alloc (by simp; omega) _)⟩
          · obtain rfl : k = ws.length := by omega
            have HO : Hid (errC count data ws = 0) := errC_ok (GoodK.okay HG.out h1.1 h1.2 h2 h3)
            clear HG
            go_wp2
            go_ret
            exact ⟨by rw [HO.out]; rfl, box_below hbel⟩
      · have HB : Hid (errC count data ws = 20) := errC_bad (fun h => h3 h.few)
        go_enter Tryz.func38, Tryz.ntmps38
        go_wp2_with (go_at_call 70; refine (mayCount_any count _).mono ?_; rintro e w1 ⟨rfl, rfl⟩; rw [decide_eq_true h1])
        go_ret
        exact ⟨by rw [HB.out]; rfl, below_alloc _ _⟩
    · have HB : Hid (errC count data ws = 20) := errC_bad (fun h => h2 h.len)
      have hne : ((data.length : Int) != count * 128) = true := by simpa using h2
      clear h2
      go_enter Tryz.func38, Tryz.ntmps38
      go_wp2_with (go_at_call 70; refine (mayCount_any count _).mono ?_; rintro e w1 ⟨rfl, rfl⟩; rw [decide_eq_true h1])
      go_ret
      exact ⟨by rw [HB.out]; rfl, below_alloc _ _⟩
  · have HB : Hid (errC count data ws = 20) := errC_bad (fun h => h1 ⟨h.lo, h.hi⟩)
    go_enter Tryz.func38, Tryz.ntmps38
    go_wp2_with (go_at_call 70; refine (mayCount_any count _).mono ?_; rintro e w1 ⟨rfl, rfl⟩; rw [decide_eq_false h1])
    go_ret
    exact ⟨by rw [HB.out]; rfl, below_alloc _ _⟩
theorem check_ok (v : Value) (count : Int) (data : List Nat) (ws : Puts) (w : World) (hd : DiskIn w v count data ws) (ho : Okay count data ws) :
    Calls Tryz.prog 38 #[v] w fun e w' => e = .returned (.int .i64 0) ∧ Below w.heap.size w w' := by
  have := check_any v count data ws w hd
  rwa [errC_ok ho] at this
theorem check_bad (v : Value) (count : Int) (data : List Nat) (ws : Puts) (w : World) (hd : DiskIn w v count data ws) (ho : ¬ Okay count data ws) :
    Calls Tryz.prog 38 #[v] w fun e w' => e = .returned (.int .i64 20) ∧ Below w.heap.size w w' := by
  have := check_any v count data ws w hd
  rwa [errC_bad ho] at this
end Go.Proofs.YtghcmllmbpoidaaGreatDoor
namespace Go.Proofs.YtghcmllmbpoidaaGreatDoor
set_option maxRecDepth 8000
open Go.RowKit Go.WideShapes
attribute [local go_sem ↓] Go.wp_at_zero Go.wp_at_succ
def partK (data : List Nat) (n : Nat) : List Nat := data.take n ++ List.replicate (data.length - n) 0
theorem partK_zero (data : List Nat) : partK data 0 = List.replicate data.length 0 := by simp [partK]
theorem partK_all (data : List Nat) : partK data data.length = data := by simp [partK]
theorem partK_len (data : List Nat) (n : Nat) (h : n ≤ data.length) : (partK data n).length = data.length := by simp [partK]; omega
theorem partK_step (data : List Nat) (k : Nat) (h : (k + 1) * 128 ≤ data.length) : splice (partK data (k * 128)) (k * 128) (secN data k) = partK data ((k + 1) * 128) := by
  have hl := secN_len h
  have e1 : (partK data (k * 128)).take (k * 128) = data.take (k * 128) := by
    unfold partK
    rw [List.take_append_of_le_length (by simp; omega), List.take_take, Nat.min_self]
  have e2 : (partK data (k * 128)).drop (k * 128 + 128) = List.replicate (data.length - (k + 1) * 128) 0 := by
    unfold partK
    rw [List.drop_append, List.drop_eq_nil_of_le (show (data.take (k * 128)).length ≤ k * 128 + 128 by simp; omega), List.nil_append, List.drop_replicate]
    congr 1
    simp; omega
  unfold splice
  rw [hl, e1, e2]
  unfold partK secN
  rw [← List.append_assoc, ← List.take_add, show k * 128 + 128 = (k + 1) * 128 from by omega]
theorem sec_news {w : World} {b o : Nat} {data : List Nat} (h : BIn w (some ⟨b, o, none⟩) data) (k : Nat) : ∀ j v, (Bs (secN data k))[j]? = some v → w.cell? ((⟨b, o + k * 128, none⟩ : Addr).add j) = some v := by
  intro j v hv
  rw [add_plain]
  simp only [Bs, secN, List.getElem?_map, List.getElem?_take, List.getElem?_drop] at hv
  split at hv
  · cases e : data[k * 128 + j]? with
    | none => rw [e] at hv; simp at hv
    | some x =>
      rw [e] at hv
      simp at hv
      have hlt : k * 128 + j < data.length := (List.getElem?_eq_some_iff.1 e).1
      have := h.cell (k * 128 + j) hlt
      rw [Nat.add_assoc, this, ← hv]
      simp [List.getD, e]
  · simp at hv
set_option maxHeartbeats 1000000 in
theorem sectors_any (v : Value) (count : Int) (data : List Nat) (ws : Puts) (w : World) (hd : DiskIn w v count data ws) (ho : Okay count data ws) :
    Calls Tryz.prog 39 #[v] w fun e w' => ∃ g, e = .returned (.slice (some ⟨g, 0, none⟩) data.length data.length) ∧ w.heap.size ≤ g ∧ w'.heap[g]? = some (.cells (Bs data).toArray 5 (0, 0)) ∧ Below w.heap.size w w' := by
  obtain ⟨p, c, q, m, rfl, hb, hc, hcm, hp, hq, hm, hmm, hqn⟩ := hd.parts
  obtain ⟨i0, hi, hz0, hz1, hz2⟩ := info_parts info_u8
  have hlo := ho.lo
  have hhi := ho.hi
  have hlen := ho.len
  obtain ⟨n, rfl⟩ := Int.eq_ofNat_of_zero_le (show 0 ≤ count by omega)
  have hln : data.length = n * 128 := by omega
  obtain ⟨b, o, rfl⟩ := hb.addr (by omega)
  have hln1 : data.length ≤ n * 128 := by omega
  have hln2 : n * 128 ≤ data.length := by omega
  clear hd hp hqn hq hm hmm ho hlen hln
  unfold maxLen at hcm
  go_enter Tryz.func39, Tryz.ntmps39
  go_wp2_with (at_make; refine wpList_make_full _ rfl _ _ 32 rfl w.heap.size 5 i0 (.int .u8 0) 1 Tryz.underlying32 hi hz0 hz1 .i64 .i64 _ _ data.length rfl rfl (by omega) (by omega) (by rw [hz2]; omega) (by unfold maxLen; omega) (by simp) ?_)
  intro w1 hown hgrow
  have hrow := row_full hown
  rw [zeros_made, ← partK_zero] at hrow
  have hb1 : Below (w.heap.size + 1) (w.alloc (.cells #[.int .i64 n, .slice (some ⟨b, o, none⟩) data.length c, .slice q ws.length m] 35)) w1 := (Below.refl _ _).grown hgrow (by simp) (fun k hk => by cases hk)
  have HR : Hid (w1.heap[w.heap.size + 1]? = some (.cells (Bs (partK data (0 * 128))).toArray 5 (0, 0))) := by show _ = _; rw [Nat.zero_mul]; exact hrow
  clear hown hgrow hrow
  obtain ⟨c0, c1, c2⟩ := box_cells hb1
  go_wp2
  go_loopw [11] (fun i wr => ∃ k : Nat, k ≤ n ∧ i = .int .i64 k ∧ Hid (wr.heap[w.heap.size + 1]? = some (.cells (Bs (partK data (k * 128))).toArray 5 (0, 0))) ∧ Below (w.heap.size + 1) (w.alloc (.cells #[.int .i64 n, .slice (some ⟨b, o, none⟩) data.length c, .slice q ws.length m] 35)) wr) (fun i _ => n - (intOf i).toNat)
  case atStart => exact ⟨0, by omega, rfl, HR, hb1⟩
  case round =>
    obtain ⟨k, hk, rfl, HRk, hbk⟩ := hrel
    obtain ⟨c0, c1, c2⟩ := box_cells hbk
    by_cases hkn : k < n
    · have hsrc : Hid (∀ j v, (Bs (secN data k))[j]? = some v → wr.drew.cell? ((⟨b, o + k * 128, none⟩ : Addr).add j) = some v) := sec_news (hb.below (box_below hbk)) k
      have hl : Hid ((Bs (secN data k)).length = Nat.min 128 128) := by show _ = _; rw [Bs_len, secN_len (by omega)]; rfl
      have hf : Hid (k * 128 + (Bs (secN data k)).length ≤ (Bs (partK data (k * 128))).length) := by show _ ≤ _; rw [Bs_len, Bs_len, secN_len (by omega), partK_len _ _ (by omega)]; omega
      have hs : Hid (splice (Bs (partK data (k * 128))) (k * 128) (Bs (secN data k)) = Bs (partK data ((k + 1) * 128))) := by show _ = _; rw [Bs_splice, partK_step _ _ (by omega)]
      clear hb
      go_wp2
      go_region_held3 (fun w' => w'.cell? ⟨w.heap.size, 1, none⟩ = some (.slice (some ⟨b, o, none⟩) data.length c)) (first | go_keep | exact (box_cells hb2).2.1)
        (first
          | (go_at_call 72; refine (sector_any _ _ _ _ _ _ (by omega) (by omega) (by omega)).mono ?_; rintro e w1 ⟨rfl, rfl⟩)
          | (refine step_copy_splice rfl (.tmp 16) (.tmp 20) 32 32 rfl 5 Tryz.underlying32 size_u8 (some ⟨w.heap.size + 1, k * 128, none⟩) (some ⟨b, o + k * 128, none⟩) 128 (data.length - k * 128) 128 (c - k * 128) (by simp [Act.eval]) (by simp [Act.eval]) (w.heap.size + 1) (k * 128) (Bs (partK data (k * 128))) 5 HRk.out (Bs (secN data k)) hl.out (fun _ => ⟨rfl, _, rfl, hsrc.out⟩) hf.out (Bs_oneCell _) (w.heap.size + 1) _ (hbk.drew) (Nat.le_refl _) ?_; intro w2 hrow2 hb2))
      all_goals
        have hrow3 : Hid (w2.heap[w.heap.size + 1]? = some (.cells (Bs (partK data ((k + 1) * 128))).toArray 5 (0, 0))) := by show _ = _; rw [← hs.out]; exact hrow2.out
        clear hrow2
        go_wp2
        go_roundw
        case rel => exact ⟨k + 1, by omega, by go_num, hrow3, hb2⟩
        case measure => simp [intOf]; omega
    · obtain rfl : k = n := by omega
      have hfin : partK data (k * 128) = data := by rw [show k * 128 = data.length from by omega]; exact partK_all data
      rw [hfin] at HRk
      clear hfin hb
      go_wp2
      go_ret
      exact ⟨_, rfl, by omega, HRk.out, box_below hbk⟩
end Go.Proofs.YtghcmllmbpoidaaGreatDoor
namespace Go.Proofs.YtghcmllmbpoidaaGreatDoor
set_option maxRecDepth 8000
open Go.RowKit Go.WideShapes
def cellsP : Puts → List Nat → List Value
  | y :: ws, g :: gs => .int .i64 y.1 :: .slice (some ⟨g, 0, none⟩) 128 128 :: cellsP ws gs
  | _, _ => []
theorem cellsP_snoc (y : Int × List Nat) (g : Nat) : ∀ (ws : Puts) (gs : List Nat), gs.length = ws.length → cellsP (ws ++ [y]) (gs ++ [g]) = cellsP ws gs ++ [.int .i64 y.1, .slice (some ⟨g, 0, none⟩) 128 128]
  | [], [], _ => rfl
  | z :: ws, h :: gs, hl => by
    have := cellsP_snoc y g ws gs (by simpa using hl)
    simp [cellsP, this]
  | [], _ :: _, h => by simp at h
  | _ :: _, [], h => by simp at h
theorem cellsP_at : ∀ (ws : Puts) (gs : List Nat) (i : Nat), gs.length = ws.length → i < ws.length → (cellsP ws gs)[i * 2]? = some (.int .i64 (ws.getD i (0, [])).1) ∧ (cellsP ws gs)[i * 2 + 1]? = some (.slice (some ⟨gs.getD i 0, 0, none⟩) 128 128)
  | y :: ws, g :: gs, 0, _, _ => ⟨rfl, rfl⟩
  | y :: ws, g :: gs, i + 1, h, hi => by
    have := cellsP_at ws gs i (by simpa using h) (by simpa using hi)
    rw [show (i + 1) * 2 = i * 2 + 1 + 1 from by omega]
    simpa [cellsP, List.getD] using this
  | [], _, _, _, h => by simp at h
  | _ :: _, [], _, h, _ => by simp at h
structure PutsOwn (w : World) (base : Nat) (v : Value) (ws : Puts) (gs : List Nat) : Prop where
  len : gs.length = ws.length
  row : w.ownsRow base 88 2 v ws.length (cellsP ws gs)
  rows : ∀ i, i < ws.length → base ≤ gs.getD i 0 ∧ w.heap[gs.getD i 0]? = some (.cells (Bs (ws.getD i (0, [])).2).toArray 5 (0, 0))
  full : ∀ y ∈ ws, y.2.length = 128 ∧ ∀ c ∈ y.2, c < 256
theorem putsOwn_nil (w : World) (base : Nat) : PutsOwn w base (.slice none 0 0) [] [] := ⟨rfl, World.ownsRow_nil _ _ _ _, fun i hi => absurd hi (by simp), by simp⟩
theorem PutsOwn.mono {w : World} {base base' : Nat} {v : Value} {ws : Puts} {gs : List Nat} (h : PutsOwn w base v ws gs) (hb : base' ≤ base) : PutsOwn w base' v ws gs := by
  refine ⟨h.len, ⟨h.row.1, ?_⟩, fun i hi => ⟨Nat.le_trans hb (h.rows i hi).1, (h.rows i hi).2⟩, h.full⟩
  rcases h.row.2 with h' | ⟨g, cap, cur, h1, h2, h3⟩
  · exact .inl h'
  · exact .inr ⟨g, cap, cur, h1, Nat.le_trans hb h2, h3⟩
theorem PutsOwn.lies {w : World} {base : Nat} {q : Option Addr} {n m : Nat} {ws : Puts} {gs : List Nat} (h : PutsOwn w base (.slice q n m) ws gs) : n = ws.length ∧ PutsIn w q ws ∧ ws.length ≤ m ∧ m ≤ maxLen ∧ (q = none → m = 0) := by
  rcases h.row.2 with ⟨hv, hn⟩ | ⟨g, cap, cur, hv, hb, hg, hle, hmax, hsz, htk⟩
  · simp only [Value.slice.injEq] at hv
    obtain ⟨rfl, rfl, rfl⟩ := hv
    exact ⟨by omega, fun h => by omega, by omega, by unfold maxLen; omega, fun _ => rfl⟩
  · simp only [Value.slice.injEq] at hv
    obtain ⟨rfl, rfl, rfl⟩ := hv
    refine ⟨rfl, fun _ => ⟨g, 0, rfl, fun i hi => ?_⟩, hle, hmax, fun h => by cases h⟩
    obtain ⟨c0, c1⟩ := cellsP_at ws gs i h.len hi
    have e0 : w.cell? ⟨g, i * 2, none⟩ = some (.int .i64 (ws.getD i (0, [])).1) := by rw [h.row.cellAt _ (by omega), c0]
    have e1 : w.cell? ⟨g, i * 2 + 1, none⟩ = some (.slice (some ⟨gs.getD i 0, 0, none⟩) 128 128) := by rw [h.row.cellAt _ (by omega), c1]
    refine ⟨by rw [Nat.zero_add]; exact e0, _, by rw [Nat.zero_add]; exact e1, ?_⟩
    have hf := h.full _ (getD_mem hi)
    refine ⟨some ⟨gs.getD i 0, 0, none⟩, 128, by rw [hf.1], bin_row (h.rows i hi).2 hf.2, by omega, by unfold maxLen; omega, fun h => by cases h⟩
theorem PutsOwn.keep {w w' : World} {base : Nat} {v : Value} {ws : Puts} {gs : List Nat} (h : PutsOwn w base v ws gs) (hr : ∀ g cur, v.ownBlock = some g → w.heap[g]? = some (.cells cur 88 (0, 0)) → w'.heap[g]? = w.heap[g]?) (hg : ∀ i, i < ws.length → w'.heap[gs.getD i 0]? = w.heap[gs.getD i 0]?) : PutsOwn w' base v ws gs := by
  refine ⟨h.len, ⟨h.row.1, ?_⟩, fun i hi => ⟨(h.rows i hi).1, (hg i hi).trans (h.rows i hi).2⟩, h.full⟩
  rcases h.row.2 with h' | ⟨g, cap, cur, h1, h2, h3, h4⟩
  · exact .inl h'
  · exact .inr ⟨g, cap, cur, h1, h2, (hr g cur (by rw [h1]; rfl) h3).trans h3, h4⟩
theorem lt_heap {w : World} {b : Nat} {o : Obj} (h : w.heap[b]? = some o) : b < w.heap.size := (Array.getElem?_eq_some_iff.1 h).1
theorem PutsOwn.below {w w' : World} {base : Nat} {v : Value} {ws : Puts} {gs : List Nat} (h : PutsOwn w base v ws gs) (hb : Below w.heap.size w w') : PutsOwn w' base v ws gs :=
  h.keep (fun g _ _ e => hb.block g (lt_heap e)) (fun i hi => hb.block _ (lt_heap (h.rows i hi).2))
theorem PutsOwn.push {w w1 : World} {base : Nat} {v v' : Value} {ws : Puts} {gs : List Nat} {s : Int} {xs : List Nat} {g : Nat} (h : PutsOwn w base v ws gs) (hx : xs.length = 128 ∧ ∀ c ∈ xs, c < 256) (hb : base ≤ g) (hg : w.heap[g]? = some (.cells (Bs xs).toArray 5 (0, 0)))
    (hown : w1.ownsRow base 88 2 v' (ws.length + 1) (cellsP ws gs ++ [.int .i64 s, .slice (some ⟨g, 0, none⟩) 128 128])) (hgrow : w.grownBy w1 v.ownBlock) : PutsOwn w1 base v' (ws ++ [(s, xs)]) (gs ++ [g]) := by
  have hfar : ∀ (k : Nat) (cs : Array Value), w.heap[k]? = some (.cells cs 5 (0, 0)) → w1.heap[k]? = w.heap[k]? := by
    intro k cs hk
    refine hgrow.block k (lt_heap hk) ?_
    intro e
    rcases h.row.2 with ⟨hv, _⟩ | ⟨g', cap, cur, hv, _, h3, _⟩
    · rw [hv] at e; simp [Value.ownBlock] at e
    · rw [hv] at e
      simp only [Value.ownBlock, Option.some.injEq] at e
      subst e
      rw [hk] at h3
      simp at h3
  refine ⟨by simp [h.len], by rw [cellsP_snoc _ _ _ _ h.len]; simpa using hown, ?_, ?_⟩
  · intro i hi
    simp only [List.length_append, List.length_singleton] at hi
    rcases Nat.lt_or_ge i ws.length with h' | h'
    · have r := h.rows i h'
      have e1 : (gs ++ [g]).getD i 0 = gs.getD i 0 := by simp [List.getD, List.getElem?_append_left (show i < gs.length by rw [h.len]; exact h')]
      rw [e1, getD_app_left h']
      exact ⟨r.1, (hfar _ _ r.2).trans r.2⟩
    · obtain rfl : i = ws.length := by omega
      have e1 : (gs ++ [g]).getD ws.length 0 = g := by rw [← h.len]; simp [List.getD]
      have e2 : (ws ++ [(s, xs)]).getD ws.length (0, []) = (s, xs) := by simp [List.getD]
      rw [e1, e2]
      exact ⟨hb, (hfar _ _ hg).trans hg⟩
  · intro y hy
    simp only [List.mem_append, List.mem_singleton] at hy
    rcases hy with hy | rfl
    · exact h.full y hy
    · exact hx
end Go.Proofs.YtghcmllmbpoidaaGreatDoor
