/-
  Contract of the call sectors: a copy of all sectors of a disk that may be, in memory of its own.
-/
import Derived.Test.YtglcpfnpbcnejaaGreatDoorJ01
import Derived.Laws.CopyOwn
import Derived.Test.YtglcpfnpbcnejaaGreatDoorProg
import Derived.Deep.RegionHeld3
import Derived.Deep.DrawnRows
namespace Go.Proofs.YtglcpfnpbcnejaaGreatDoor
open Go.RowKit

/-- Writes that wait: the sector, its bytes. -/
abbrev Puts := List (Int × List Nat)
/-- A disk may be. -/
structure Okay (count : Int) (data : List Nat) (ws : Puts) : Prop where
  lo : 1 ≤ count
  hi : count ≤ 4096
  len : (data.length : Int) = count * 128
  few : ws.length ≤ 4096
  each : ∀ y ∈ ws, 0 ≤ y.1 ∧ y.1 < count ∧ y.2.length = 128

/-- The bytes of sector n. -/
def secN (data : List Nat) (n : Nat) : List Nat := (data.drop (n * 128)).take 128
/-- A write made sure. -/
def putS (data : List Nat) (y : Int × List Nat) : List Nat := splice data (y.1.toNat * 128) y.2
/-- The first k writes made sure. -/
def settleK (data : List Nat) (ws : Puts) : Nat → List Nat
  | 0 => data
  | k + 1 => putS (settleK data ws k) (ws.getD k (0, []))
/-- The last one of the first k writes that are of sector n. -/
def nowK (ws : Puts) (n : Int) : Nat → Option (List Nat)
  | 0 => none
  | k + 1 => if (ws.getD k (0, [])).1 = n then some (ws.getD k (0, [])).2 else nowK ws n k
/-- A sector now. -/
def nowN (data : List Nat) (ws : Puts) (n : Int) : List Nat := (nowK ws n ws.length).getD (secN data n.toNat)
def settleN (data : List Nat) (ws : Puts) : List Nat := settleK data ws ws.length
theorem getD_mem {ws : Puts} {k : Nat} (h : k < ws.length) : ws.getD k (0, []) ∈ ws := by
  simp [List.getD, List.getElem?_eq_getElem h]
theorem Okay.wait {count : Int} {data : List Nat} {ws : Puts} (h : Okay count data ws) {k : Nat} (hk : k < ws.length) : 0 ≤ (ws.getD k (0, [])).1 ∧ (ws.getD k (0, [])).1 < count ∧ (ws.getD k (0, [])).2.length = 128 := h.each _ (getD_mem hk)
theorem secN_len {data : List Nat} {n : Nat} (h : (n + 1) * 128 ≤ data.length) : (secN data n).length = 128 := by
  simp [secN]; omega
theorem putS_len {data : List Nat} {y : Int × List Nat} (h : y.1.toNat * 128 + y.2.length ≤ data.length) : (putS data y).length = data.length := length_splice _ _ _ h
theorem settleK_len {count : Int} {data : List Nat} {ws : Puts} (h : Okay count data ws) : ∀ k, k ≤ ws.length → (settleK data ws k).length = data.length
  | 0, _ => rfl
  | k + 1, hk => by
    have ih := settleK_len h k (by omega)
    have hw := h.wait (show k < ws.length from hk)
    have := h.len
    rw [settleK, putS_len (by rw [ih, hw.2.2]; omega), ih]
theorem nowK_len {count : Int} {data : List Nat} {ws : Puts} (h : Okay count data ws) {n : Int} {xs : List Nat} : ∀ k, k ≤ ws.length → nowK ws n k = some xs → xs.length = 128 ∧ ∃ y ∈ ws, y.1 = n ∧ y.2 = xs
  | 0, _, e => by simp [nowK] at e
  | k + 1, hk, e => by
    rw [nowK] at e
    split at e
    · rename_i hn
      simp only [Option.some.injEq] at e
      exact ⟨by rw [← e]; exact (h.wait (show k < ws.length from hk)).2.2, _, getD_mem hk, hn, e⟩
    · exact nowK_len h k (by omega) e
theorem nowN_len {count : Int} {data : List Nat} {ws : Puts} (h : Okay count data ws) {n : Nat} (hn : (n : Int) < count) : (nowN data ws n).length = 128 := by
  unfold nowN
  cases e : nowK ws n ws.length with
  | none => have := h.len; exact secN_len (by simp; omega)
  | some xs => exact (nowK_len h _ (Nat.le_refl _) e).1
theorem okay_settled {count : Int} {data : List Nat} {ws : Puts} (h : Okay count data ws) : Okay count (settleN data ws) [] :=
  ⟨h.lo, h.hi, by rw [settleN, settleK_len h _ (Nat.le_refl _)]; exact h.len, by simp, by simp⟩
/-- Sectors behind a write. -/
theorem sec_put {data : List Nat} {y : Int × List Nat} {n : Nat} (h0 : 0 ≤ y.1) (h1 : y.2.length = 128) (h2 : y.1.toNat * 128 + 128 ≤ data.length) (hn : n * 128 + 128 ≤ data.length) :
    secN (putS data y) n = if y.1 = n then y.2 else secN data n := by
  obtain ⟨s, b⟩ := y
  obtain ⟨m, rfl⟩ := Int.eq_ofNat_of_zero_le h0
  simp only [Int.toNat_natCast, secN, putS, splice] at *
  split
  · rename_i e
    obtain rfl : m = n := by omega
    rw [List.drop_append_of_le_length (by simp; omega), List.drop_eq_nil_of_le (by simp; omega), List.nil_append, ← h1, List.take_left]
  · rename_i e
    have hne : m ≠ n := by omega
    apply List.ext_getElem?
    intro i
    simp only [List.getElem?_take, List.getElem?_drop]
    split
    · rename_i hi
      rcases Nat.lt_or_gt_of_ne hne with h | h
      · rw [List.getElem?_append_right (by simp; omega), List.getElem?_append_right (by simp; omega), List.getElem?_drop]
        congr 1
        simp; omega
      · rw [List.getElem?_append_left (by simp; omega), List.getElem?_take, if_pos (by omega)]
    · rfl
theorem sec_settle {count : Int} {data : List Nat} {ws : Puts} (h : Okay count data ws) {n : Nat} (hn : (n : Int) < count) : ∀ k, k ≤ ws.length → secN (settleK data ws k) n = (nowK ws n k).getD (secN data n)
  | 0, _ => rfl
  | k + 1, hk => by
    have ih := sec_settle h hn k (by omega)
    have hw := h.wait (show k < ws.length from hk)
    have hl := settleK_len h k (by omega)
    have hlen := h.len
    rw [settleK, sec_put hw.1 hw.2.2 (by omega) (by omega), nowK]
    split
    · rfl
    · exact ih
/-- A flush changes nothing that is read. -/
theorem now_settled {count : Int} {data : List Nat} {ws : Puts} (h : Okay count data ws) {n : Nat} (hn : (n : Int) < count) : nowN (settleN data ws) [] n = nowN data ws n := by
  have := sec_settle h hn ws.length (Nat.le_refl _)
  simpa [nowN, nowK, settleN] using this
theorem getD_app_left {ws : Puts} {y : Int × List Nat} {k : Nat} (h : k < ws.length) : (ws ++ [y]).getD k (0, []) = ws.getD k (0, []) := by
  simp [List.getD, List.getElem?_append_left h]
theorem nowK_app {ws : Puts} {y : Int × List Nat} {n : Int} : ∀ k, k ≤ ws.length → nowK (ws ++ [y]) n k = nowK ws n k
  | 0, _ => rfl
  | k + 1, h => by rw [nowK, nowK, getD_app_left (show k < ws.length from h), nowK_app k (by omega)]
/-- What was written is read; all else as it was. -/
theorem now_written {data : List Nat} {ws : Puts} {y : Int × List Nat} {n : Int} : nowN data (ws ++ [y]) n = if y.1 = n then y.2 else nowN data ws n := by
  unfold nowN
  have e : (ws ++ [y]).length = ws.length + 1 := by simp
  rw [e, nowK]
  have e2 : (ws ++ [y]).getD ws.length (0, []) = y := by simp [List.getD]
  rw [e2, nowK_app _ (Nat.le_refl _)]
  split <;> rfl

/-- Acts: whether it flushes, its sector, its bytes. -/
abbrev Acts := List (Bool × Int × List Nat)
/-- One act: an error, or the disk then. -/
def stepA (count : Int) (s : List Nat × Puts) (a : Bool × Int × List Nat) : Except Int (List Nat × Puts) :=
  if a.1 = true then .ok (settleN s.1 s.2, [])
  else if ¬ (0 ≤ a.2.1 ∧ a.2.1 < count) then .error 21
  else if a.2.2.length ≠ 128 then .error 8
  else if 4096 ≤ s.2.length then .error 4
  else .ok (s.1, s.2 ++ [a.2])
def doN (count : Int) : List Nat × Puts → Acts → Except Int (List Nat × Puts)
  | s, [] => .ok s
  | s, a :: l => match stepA count s a with
    | .ok s' => doN count s' l
    | .error e => .error e
theorem doN_app (count : Int) (l m : Acts) : ∀ s, doN count s (l ++ m) = match doN count s l with | .ok s' => doN count s' m | .error e => .error e := by
  induction l with
  | nil => intro s; rfl
  | cons a l ih =>
    intro s
    simp only [List.cons_append, doN]
    cases stepA count s a with
    | ok s' => exact ih s'
    | error e => rfl
theorem take_succ_getD {l : Acts} {k : Nat} (h : k < l.length) : l.take (k + 1) = l.take k ++ [l.getD k (false, 0, [])] := by
  rw [List.take_succ_eq_append_getElem h]; simp [List.getD, List.getElem?_eq_getElem h]
theorem doN_step {count : Int} {s s' : List Nat × Puts} {l : Acts} {k : Nat} (h : k < l.length) (e : doN count s (l.take k) = .ok s') : doN count s (l.take (k + 1)) = stepA count s' (l.getD k (false, 0, [])) := by
  rw [take_succ_getD h, doN_app, e]
  show doN count s' _ = _
  simp only [doN]
  cases stepA count s' (l.getD k (false, 0, [])) <;> rfl
theorem doN_fail {count : Int} {s : List Nat × Puts} {l : Acts} {k : Nat} {c : Int} (e : doN count s (l.take k) = .error c) : doN count s l = .error c := by
  rw [← List.take_append_drop k l, doN_app, e]
theorem okay_step {count : Int} {s s' : List Nat × Puts} {a : Bool × Int × List Nat} (h : Okay count s.1 s.2) (e : stepA count s a = .ok s') : Okay count s'.1 s'.2 := by
  unfold stepA at e
  split at e
  · simp only [Except.ok.injEq] at e; subst e; exact okay_settled h
  · split at e
    · cases e
    · split at e
      · cases e
      · split at e
        · cases e
        · rename_i h1 h2 h3 h4
          simp only [Except.ok.injEq] at e
          subst e
          refine ⟨h.lo, h.hi, h.len, by simp; omega, ?_⟩
          intro y hy
          simp only [List.mem_append, List.mem_singleton] at hy
          rcases hy with hy | rfl
          · exact h.each y hy
          · have := Decidable.not_not.1 h2
            exact ⟨this.1, this.2, Decidable.not_not.1 h3⟩
theorem okay_do {count : Int} (l : Acts) : ∀ {s s' : List Nat × Puts}, Okay count s.1 s.2 → doN count s l = .ok s' → Okay count s'.1 s'.2 := by
  induction l with
  | nil => intro s s' h e; simp only [doN, Except.ok.injEq] at e; subst e; exact h
  | cons a l ih =>
    intro s s' h e
    simp only [doN] at e
    cases e1 : stepA count s a with
    | ok t => rw [e1] at e; exact ih (okay_step h e1) e
    | error c => rw [e1] at e; cases e
end Go.Proofs.YtglcpfnpbcnejaaGreatDoor
namespace Go.Proofs.YtglcpfnpbcnejaaGreatDoor
open Go.RowKit Go.WideShapes

theorem info_u8 : (Tryz.prog.info? 5).map (fun i => (i.zero, i.size, i.bytes)) = some (some (.int .u8 0), 1, 1) := by kernel_rfl
theorem size_u8 : (Tryz.prog.info? 5).map (·.size) = some 1 := by kernel_rfl

/-- A row that the call made, whole. -/
theorem row_full {w : World} {base e g n : Nat} {xs : List Value} (h : w.ownsRow base e 1 (.slice (some ⟨g, 0, none⟩) n n) n xs) : w.heap[g]? = some (.cells xs.toArray e (0, 0)) := by
  rcases h.2 with ⟨h, _⟩ | ⟨g', cap, cur, hv, _, hg, _, _, hs, ht⟩
  · cases h
  · simp only [Value.slice.injEq, Option.some.injEq, Addr.mk.injEq, and_true, true_and] at hv
    obtain ⟨rfl, rfl⟩ := hv
    rw [hg]
    rw [List.take_of_length_le (by simp; omega)] at ht
    rw [← ht, Array.toArray_toList]
theorem zeros_made (n : Nat) : (madeCells #[Value.int .u8 0] n).toList = Bs (List.replicate n 0) := by
  rw [toList_madeCells_one]
  simp [Bs]
theorem splice_all {α : Type} {L cs : List α} (h : cs.length = L.length) : splice L 0 cs = cs := by
  simp [splice, h]
theorem Bs_splice (xs ys : List Nat) (o : Nat) : splice (Bs xs) o (Bs ys) = Bs (splice xs o ys) := by simp [splice, Bs]
/-- A row of bytes of one's own reads so. -/
theorem bin_row {w : World} {g t : Nat} {xs : List Nat} (h : w.heap[g]? = some (.cells (Bs xs).toArray t (0, 0))) (hx : ∀ c ∈ xs, c < 256) : BIn w (some ⟨g, 0, none⟩) xs := by
  refine ⟨fun _ => ⟨g, 0, rfl, fun i hi => ?_⟩, hx⟩
  rw [Nat.zero_add, cell_of_row w g i _ _ _ h]
  simp [Bs, List.getD, List.getElem?_eq_getElem hi]

theorem mayCount_any (n : Int) (w : World) : Calls Tryz.prog 36 #[.int .i64 n] w fun e w' => e = .returned (.bool (decide (1 ≤ n ∧ n ≤ 4096))) ∧ w' = w := by
  by_cases h1 : 1 ≤ n
  · go_enter Tryz.func36, Tryz.ntmps36
    go_wp2
    go_ret
    exact ⟨by simp [h1], rfl⟩
  · go_enter Tryz.func36, Tryz.ntmps36
    go_wp2
    go_ret
    exact ⟨by simp; omega, rfl⟩

theorem has_any (count n : Int) (a b : Value) (w : World) : Calls Tryz.prog 75 #[.agg #[.int .i64 count, a, b], .int .i64 n] w fun e w' => e = .returned (.bool (decide (0 ≤ n ∧ n < count))) ∧ ∃ o, w' = w.alloc o := by
  by_cases h1 : 0 ≤ n
  · go_enter Tryz.func75, Tryz.ntmps75
    go_wp2
    go_ret
    exact ⟨by simp [h1], _, rfl⟩
  · go_enter Tryz.func75, Tryz.ntmps75
    go_wp2
    go_ret
    exact ⟨by simp; omega, _, rfl⟩

/-- The place of sector n. -/
theorem sector_any (b o len cap n : Nat) (w : World) (hn : n < 4096) (hl : (n + 1) * 128 ≤ len) (hc : len ≤ cap) :
    Calls Tryz.prog 60 #[.slice (some ⟨b, o, none⟩) len cap, .int .i64 n] w fun e w' => e = .returned (.slice (some ⟨b, o + n * 128, none⟩) 128 (cap - n * 128)) ∧ w' = w := by
  go_enter Tryz.func60, Tryz.ntmps60
  go_wp2
  go_ret
  exact ⟨by show Ending.returned (.slice _ ((n + 1) * 128 - n * 128) _) = _; rw [show (n + 1) * 128 - n * 128 = 128 from by omega], rfl⟩

/-- Bytes in new memory: 128 of them. -/
theorem copyOf_any (p : Option Addr) (cap : Nat) (xs : List Nat) (w : World) (hb : BIn w p xs) (hx : xs.length = 128) :
    Calls Tryz.prog 76 #[.slice p 128 cap] w fun e w' => ∃ g, e = .returned (.slice (some ⟨g, 0, none⟩) 128 128) ∧ w.heap.size ≤ g ∧ w'.heap[g]? = some (.cells (Bs xs).toArray 5 (0, 0)) ∧ Below w.heap.size w w' := by
  obtain ⟨i0, hi, hz0, hz1, hz2⟩ := info_parts info_u8
  go_enter Tryz.func76, Tryz.ntmps76
  go_wp2_with (at_make; refine wpList_make_full _ rfl _ _ 22 rfl w.heap.size 5 i0 (.int .u8 0) 1 Tryz.underlying22 hi hz0 hz1 .i64 .i64 _ _ 128 rfl rfl rfl rfl (by rw [hz2]; decide) (by decide) (Nat.le_refl _) ?_)
  intro w1 hown hgrow
  have hrow := row_full hown
  rw [zeros_made] at hrow
  have hb1 : Below w.heap.size w w1 := (Below.refl _ _).grown hgrow (Nat.le_refl _) (fun k hk => by cases hk)
  obtain ⟨b, o, rfl, hc⟩ := hb.1 (by omega)
  have hsrc : Hid (∀ j v, (Bs xs)[j]? = some v → w1.cell? ((⟨b, o, none⟩ : Addr).add j) = some v) := bin_news (hb.below hb1)
  have HR : Hid (w1.heap[w.heap.size]? = some (.cells (Bs (List.replicate 128 0)).toArray 5 (0, 0))) := hrow
  have HL : Hid ((Bs xs).length = Nat.min 128 128) := by show _ = _; rw [Bs_len, hx]; rfl
  have HF : Hid (0 + (Bs xs).length ≤ (Bs (List.replicate 128 0)).length) := by show _ ≤ _; rw [Bs_len, Bs_len, hx]; simp
  clear hown hgrow hrow hb hc
  go_wp2_with (refine wpList_copy_splice (o := ⟨some 9, _, _, _, _, _⟩) rfl (.tmp 7) (.tmp 8) 22 22 rfl 5 Tryz.underlying22 size_u8 (some ⟨w.heap.size, 0, none⟩) (some ⟨b, o, none⟩) 128 128 128 cap rfl rfl w.heap.size 0 (Bs (List.replicate 128 0)) 5 HR.out (Bs xs) HL.out (fun _ => ⟨rfl, _, rfl, hsrc.out⟩) HF.out (Bs_oneCell xs) w.heap.size w hb1 (Nat.le_refl _) ?_)
  intro w2 hrow2 hb2
  go_wp2
  go_ret
  refine ⟨_, rfl, Nat.le_refl _, ?_, hb2⟩
  rw [hrow2.out, splice_all (by rw [HL.out, Bs_len]; simp)]
end Go.Proofs.YtglcpfnpbcnejaaGreatDoor
namespace Go.Proofs.YtglcpfnpbcnejaaGreatDoor
open Go.RowKit Go.WideShapes

theorem below_alloc (w : World) (o : Obj) : Below w.heap.size w (w.alloc o) := (Below.refl _ _).alloc (Nat.le_refl _) o
/-- Where a disk lies that is handed in: its parts written out. -/
theorem DiskIn.parts {w : World} {v : Value} {count : Int} {data : List Nat} {ws : Puts} (h : DiskIn w v count data ws) :
    ∃ p c q m, v = .agg #[.int .i64 count, .slice p data.length c, .slice q ws.length m] ∧ BIn w p data ∧ data.length ≤ c ∧ c ≤ maxLen ∧ (p = none → c = 0) ∧ PutsIn w q ws ∧ ws.length ≤ m ∧ m ≤ maxLen ∧ (q = none → m = 0) := by
  obtain ⟨dv, q, m, rfl, hr, hp, h1, h2, h3⟩ := h.lies
  obtain ⟨p, c, rfl, g1, g2, g3, g4⟩ := hr.lies
  exact ⟨p, c, q, m, rfl, g1, g2, g3, g4, hp, h1, h2, h3⟩
theorem i64_bounds {n : Int} (h : (Lit.int .i64 n).wf = true) : -9223372036854775808 ≤ n ∧ n ≤ 9223372036854775807 := bounds_i64 h
/-- One wait of a row of them. -/
theorem PutsIn.at {w : World} {b o : Nat} {ws : Puts} (h : PutsIn w (some ⟨b, o, none⟩) ws) {k : Nat} (hk : k < ws.length) :
    w.cell? ⟨b, o + k * 2, none⟩ = some (.int .i64 (ws.getD k (0, [])).1) ∧ ∃ p c, w.cell? ⟨b, o + (k * 2 + 1), none⟩ = some (.slice p (ws.getD k (0, [])).2.length c) ∧ BIn w p (ws.getD k (0, [])).2 ∧ (ws.getD k (0, [])).2.length ≤ c ∧ c ≤ maxLen ∧ (p = none → c = 0) := by
  obtain ⟨b', o', e, hc⟩ := h (by omega)
  simp only [Option.some.injEq, Addr.mk.injEq, and_true] at e
  obtain ⟨rfl, rfl⟩ := e
  obtain ⟨h1, v, h2, hr⟩ := hc k hk
  obtain ⟨p, c, rfl, g⟩ := hr.lies
  exact ⟨h1, p, c, h2, g⟩

theorem box_cells {w wr : World} {a b c : Value} {t : TypeId} (h : Below (w.heap.size + 1) (w.alloc (.cells #[a, b, c] t)) wr) :
    wr.cell? ⟨w.heap.size, 0, none⟩ = some a ∧ wr.cell? ⟨w.heap.size, 1, none⟩ = some b ∧ wr.cell? ⟨w.heap.size, 2, none⟩ = some c := by
  have hh : wr.heap[w.heap.size]? = some (.cells #[a, b, c] t (0, 0)) := (h.block _ (by omega)).trans (heap_alloc_new w _)
  exact ⟨cell_of_row _ _ _ _ _ _ hh, cell_of_row _ _ _ _ _ _ hh, cell_of_row _ _ _ _ _ _ hh⟩
theorem box_below {w wr : World} {o : Obj} (h : Below (w.heap.size + 1) (w.alloc o) wr) : Below w.heap.size w wr := (below_alloc w o).trans (h.mono (by omega))
theorem PutsIn.addr {w : World} {q : Option Addr} {ws : Puts} (h : PutsIn w q ws) (hw : 0 < ws.length) : ∃ b o, q = some ⟨b, o, none⟩ := by
  obtain ⟨b, o, e, _⟩ := h hw
  exact ⟨b, o, e⟩
theorem PutsIn.at' {w : World} {b o : Nat} {ws : Puts} (h : PutsIn w (some ⟨b, o, none⟩) ws) {k : Nat} (hk : k < ws.length) :
    w.cell? ⟨b, o + k * 2, none⟩ = some (.int .i64 (ws.getD k (0, [])).1) ∧ ∃ p c, w.cell? ⟨b, o + k * 2 + 1, none⟩ = some (.slice p (ws.getD k (0, [])).2.length c) ∧ (ws.getD k (0, [])).2.length ≤ c ∧ c ≤ 9223372036854775807 := by
  obtain ⟨h1, p, c, h2, _, h3, h4, _⟩ := h.at hk
  unfold maxLen at h4
  exact ⟨h1, p, c, by rw [Nat.add_assoc]; exact h2, h3, by omega⟩
theorem box_size {w wr : World} {o : Obj} (h : Below (w.heap.size + 1) (w.alloc o) wr) : w.heap.size < wr.heap.size := by
  have := h.size
  simp at this
  omega
/-- What the waits must be, the first k of them. -/
def GoodK (count : Int) (ws : Puts) (k : Nat) : Prop := ∀ i, i < k → 0 ≤ (ws.getD i (0, [])).1 ∧ (ws.getD i (0, [])).1 < count ∧ (ws.getD i (0, [])).2.length = 128
theorem GoodK.step {count : Int} {ws : Puts} {k : Nat} (h : GoodK count ws k) (h1 : 0 ≤ (ws.getD k (0, [])).1 ∧ (ws.getD k (0, [])).1 < count) (h2 : (ws.getD k (0, [])).2.length = 128) : GoodK count ws (k + 1) := by
  intro i hi
  rcases Nat.lt_or_ge i k with h' | h'
  · exact h i h'
  · obtain rfl : i = k := by omega
    exact ⟨h1.1, h1.2, h2⟩
theorem GoodK.bad {count : Int} {data : List Nat} {ws : Puts} {k : Nat} (hk : k < ws.length) (h : ¬ ((0 ≤ (ws.getD k (0, [])).1 ∧ (ws.getD k (0, [])).1 < count) ∧ (ws.getD k (0, [])).2.length = 128)) : ¬ Okay count data ws := by
  intro ho
  have := ho.wait hk
  exact h ⟨⟨this.1, this.2.1⟩, this.2.2⟩
theorem GoodK.okay {count : Int} {data : List Nat} {ws : Puts} (h : GoodK count ws ws.length) (h1 : 1 ≤ count) (h2 : count ≤ 4096) (h3 : (data.length : Int) = count * 128) (h4 : ws.length ≤ 4096) : Okay count data ws := by
  refine ⟨h1, h2, h3, h4, fun y hy => ?_⟩
  obtain ⟨i, hi, rfl⟩ := List.getElem_of_mem hy
  have := h i hi
  simpa [List.getD, List.getElem?_eq_getElem hi] using this
open Classical in
noncomputable def errC (count : Int) (data : List Nat) (ws : Puts) : Int := if Okay count data ws then 0 else 20
theorem errC_ok {count : Int} {data : List Nat} {ws : Puts} (h : Okay count data ws) : errC count data ws = 0 := if_pos h
theorem errC_bad {count : Int} {data : List Nat} {ws : Puts} (h : ¬ Okay count data ws) : errC count data ws = 20 := if_neg h

set_option maxHeartbeats 1000000 in
theorem check_any (v : Value) (count : Int) (data : List Nat) (ws : Puts) (w : World) (hd : DiskIn w v count data ws) :
    Calls Tryz.prog 39 #[v] w fun e w' => e = .returned (.int .i64 (errC count data ws)) ∧ Below w.heap.size w w' := by
  obtain ⟨p, c, q, m, rfl, hb, hc, hcm, hp, hq, hm, hmm, hqn⟩ := hd.parts
  have hcount := i64_bounds hd.count_wf
  clear hd hb hp hqn
  unfold maxLen at hcm hmm
  by_cases h1 : 1 ≤ count ∧ count ≤ 4096
  · by_cases h2 : (data.length : Int) = count * 128
    · by_cases h3 : ws.length ≤ 4096
      · go_enter Tryz.func39, Tryz.ntmps39
        go_wp2_with (go_at_call 36; refine (mayCount_any count _).mono ?_; rintro e w1 ⟨rfl, rfl⟩; rw [decide_eq_true h1])
        go_loopw [27] (fun i wr => ∃ k : Nat, k ≤ ws.length ∧ i = .int .i64 k ∧ GoodK count ws k ∧ Below (w.heap.size + 1) (w.alloc (.cells #[.int .i64 count, .slice p data.length c, .slice q ws.length m] 25)) wr) (fun i _ => ws.length - (intOf i).toNat)
        case atStart => exact ⟨0, by omega, rfl, fun i hi => absurd hi (by omega), Below.refl _ _⟩
        case round =>
          obtain ⟨k, hk, rfl, hgood, hbel⟩ := hrel
          have HG : Hid _ := hgood
          clear hgood
          obtain ⟨hc0, hc1, hc2⟩ := box_cells hbel
          have hsz := box_size hbel
          by_cases hkl : k < ws.length
          · obtain ⟨b, o, rfl⟩ := hq.addr (by omega)
            obtain ⟨e1, pk, ck, e2, f1, f2⟩ := (hq.below (box_below hbel)).at' hkl
            clear hq
            have HS := GoodK.step (k := k) HG.out
            have HE := GoodK.bad (data := data) (k := k) (count := count) hkl
            generalize ws.getD k (0, []) = y at *
            obtain ⟨s, xs⟩ := y
            have HS' : Hid _ := HS
            have HE' : Hid _ := HE
            clear HS HE
            simp only at e1 e2 f1
            by_cases g1 : 0 ≤ s ∧ s < count
            · by_cases g2 : xs.length = 128
              · have HG2 : Hid (GoodK count ws (k + 1)) := HS'.out g1 g2
                go_wp2_with (go_at_call 75; refine (has_any count s _ _ _).mono ?_; rintro e w1 ⟨rfl, ob, rfl⟩; rw [decide_eq_true g1])
                go_roundw
                case rel => exact ⟨k + 1, by omega, by go_num, HG2.out, (hbel.alloc (by omega) _).alloc (by simp; omega) _⟩
                case measure => simp [intOf]; omega
              · have HB : Hid (errC count data ws = 20) := errC_bad (HE'.out (fun h => g2 h.2))
                have hne : ((xs.length : Int) != 128) = true := by simp; omega
                go_wp2_with (go_at_call 75; refine (has_any count s _ _ _).mono ?_; rintro e w1 ⟨rfl, ob, rfl⟩; rw [decide_eq_true g1])
                go_ret
                exact ⟨by rw [HB.out]; rfl, box_below ((hbel.alloc (by omega) _).alloc (by simp; omega) _)⟩
            · have HB : Hid (errC count data ws = 20) := errC_bad (HE'.out (fun h => g1 h.1))
              go_wp2_with (go_at_call 75; refine (has_any count s _ _ _).mono ?_; rintro e w1 ⟨rfl, ob, rfl⟩; rw [decide_eq_false g1])
              go_ret
              exact ⟨by rw [HB.out]; rfl, box_below ((hbel.alloc (by omega) _).alloc (by simp; omega) _)⟩
          · obtain rfl : k = ws.length := by omega
            have HO : Hid (errC count data ws = 0) := errC_ok (GoodK.okay HG.out h1.1 h1.2 h2 h3)
            clear HG
            go_wp2
            go_ret
            exact ⟨by rw [HO.out]; rfl, box_below hbel⟩
      · have HB : Hid (errC count data ws = 20) := errC_bad (fun h => h3 h.few)
        go_enter Tryz.func39, Tryz.ntmps39
        go_wp2_with (go_at_call 36; refine (mayCount_any count _).mono ?_; rintro e w1 ⟨rfl, rfl⟩; rw [decide_eq_true h1])
        go_ret
        exact ⟨by rw [HB.out]; rfl, below_alloc _ _⟩
    · have HB : Hid (errC count data ws = 20) := errC_bad (fun h => h2 h.len)
      have hne : ((data.length : Int) != count * 128) = true := by simpa using h2
      clear h2
      go_enter Tryz.func39, Tryz.ntmps39
      go_wp2_with (go_at_call 36; refine (mayCount_any count _).mono ?_; rintro e w1 ⟨rfl, rfl⟩; rw [decide_eq_true h1])
      go_ret
      exact ⟨by rw [HB.out]; rfl, below_alloc _ _⟩
  · have HB : Hid (errC count data ws = 20) := errC_bad (fun h => h1 ⟨h.lo, h.hi⟩)
    go_enter Tryz.func39, Tryz.ntmps39
    go_wp2_with (go_at_call 36; refine (mayCount_any count _).mono ?_; rintro e w1 ⟨rfl, rfl⟩; rw [decide_eq_false h1])
    go_ret
    exact ⟨by rw [HB.out]; rfl, below_alloc _ _⟩
theorem check_ok (v : Value) (count : Int) (data : List Nat) (ws : Puts) (w : World) (hd : DiskIn w v count data ws) (ho : Okay count data ws) :
    Calls Tryz.prog 39 #[v] w fun e w' => e = .returned (.int .i64 0) ∧ Below w.heap.size w w' := by
  have := check_any v count data ws w hd
  rwa [errC_ok ho] at this
theorem check_bad (v : Value) (count : Int) (data : List Nat) (ws : Puts) (w : World) (hd : DiskIn w v count data ws) (ho : ¬ Okay count data ws) :
    Calls Tryz.prog 39 #[v] w fun e w' => e = .returned (.int .i64 20) ∧ Below w.heap.size w w' := by
  have := check_any v count data ws w hd
  rwa [errC_bad ho] at this
end Go.Proofs.YtglcpfnpbcnejaaGreatDoor
namespace Go.Proofs.YtglcpfnpbcnejaaGreatDoor
set_option maxRecDepth 8000
open Go.RowKit Go.WideShapes
attribute [local go_sem ↓] Go.wp_at_zero Go.wp_at_succ

/-- The first n bytes of a list, noughts behind them. -/
def partK (data : List Nat) (n : Nat) : List Nat := data.take n ++ List.replicate (data.length - n) 0
theorem partK_zero (data : List Nat) : partK data 0 = List.replicate data.length 0 := by simp [partK]
theorem partK_all (data : List Nat) : partK data data.length = data := by simp [partK]
theorem partK_len (data : List Nat) (n : Nat) (h : n ≤ data.length) : (partK data n).length = data.length := by simp [partK]; omega
theorem partK_step (data : List Nat) (k : Nat) (h : (k + 1) * 128 ≤ data.length) : splice (partK data (k * 128)) (k * 128) (secN data k) = partK data ((k + 1) * 128) := by
  have hl := secN_len h
  have e1 : (partK data (k * 128)).take (k * 128) = data.take (k * 128) := by
    unfold partK
    rw [List.take_append_of_le_length (by simp; omega), List.take_take, Nat.min_self]
  have e2 : (partK data (k * 128)).drop (k * 128 + 128) = List.replicate (data.length - (k + 1) * 128) 0 := by
    unfold partK
    rw [List.drop_append, List.drop_eq_nil_of_le (show (data.take (k * 128)).length ≤ k * 128 + 128 by simp; omega), List.nil_append, List.drop_replicate]
    congr 1
    simp; omega
  unfold splice
  rw [hl, e1, e2]
  unfold partK secN
  rw [← List.append_assoc, ← List.take_add, show k * 128 + 128 = (k + 1) * 128 from by omega]
theorem BIn.addr {w : World} {p : Option Addr} {xs : List Nat} (h : BIn w p xs) (hx : 0 < xs.length) : ∃ b o, p = some ⟨b, o, none⟩ := by
  obtain ⟨b, o, e, _⟩ := h.1 hx
  exact ⟨b, o, e⟩
theorem sec_news {w : World} {b o : Nat} {data : List Nat} (h : BIn w (some ⟨b, o, none⟩) data) (k : Nat) : ∀ j v, (Bs (secN data k))[j]? = some v → w.cell? ((⟨b, o + k * 128, none⟩ : Addr).add j) = some v := by
  intro j v hv
  rw [add_plain]
  simp only [Bs, secN, List.getElem?_map, List.getElem?_take, List.getElem?_drop] at hv
  split at hv
  · cases e : data[k * 128 + j]? with
    | none => rw [e] at hv; simp at hv
    | some x =>
      rw [e] at hv
      simp at hv
      have hlt : k * 128 + j < data.length := (List.getElem?_eq_some_iff.1 e).1
      have := h.cell (k * 128 + j) hlt
      rw [Nat.add_assoc, this, ← hv]
      simp [List.getD, e]
  · simp at hv

set_option maxHeartbeats 1000000 in
theorem sectors_any (v : Value) (count : Int) (data : List Nat) (ws : Puts) (w : World) (hd : DiskIn w v count data ws) (ho : Okay count data ws) :
    Calls Tryz.prog 40 #[v] w fun e w' => ∃ g, e = .returned (.slice (some ⟨g, 0, none⟩) data.length data.length) ∧ w.heap.size ≤ g ∧ w'.heap[g]? = some (.cells (Bs data).toArray 5 (0, 0)) ∧ Below w.heap.size w w' := by
  obtain ⟨p, c, q, m, rfl, hb, hc, hcm, hp, hq, hm, hmm, hqn⟩ := hd.parts
  obtain ⟨i0, hi, hz0, hz1, hz2⟩ := info_parts info_u8
  have hlo := ho.lo
  have hhi := ho.hi
  have hlen := ho.len
  obtain ⟨n, rfl⟩ := Int.eq_ofNat_of_zero_le (show 0 ≤ count by omega)
  have hln : data.length = n * 128 := by omega
  obtain ⟨b, o, rfl⟩ := hb.addr (by omega)
  have hln1 : data.length ≤ n * 128 := by omega
  have hln2 : n * 128 ≤ data.length := by omega
  clear hd hp hqn hq hm hmm ho hlen hln
  unfold maxLen at hcm
  go_enter Tryz.func40, Tryz.ntmps40
  go_wp2_with (at_make; refine wpList_make_full _ rfl _ _ 22 rfl w.heap.size 5 i0 (.int .u8 0) 1 Tryz.underlying22 hi hz0 hz1 .i64 .i64 _ _ data.length rfl rfl (by omega) (by omega) (by rw [hz2]; omega) (by unfold maxLen; omega) (by simp) ?_)
  intro w1 hown hgrow
  have hrow := row_full hown
  rw [zeros_made, ← partK_zero] at hrow
  have hb1 : Below (w.heap.size + 1) (w.alloc (.cells #[.int .i64 n, .slice (some ⟨b, o, none⟩) data.length c, .slice q ws.length m] 25)) w1 := (Below.refl _ _).grown hgrow (by simp) (fun k hk => by cases hk)
  have HR : Hid (w1.heap[w.heap.size + 1]? = some (.cells (Bs (partK data (0 * 128))).toArray 5 (0, 0))) := by show _ = _; rw [Nat.zero_mul]; exact hrow
  clear hown hgrow hrow
  obtain ⟨c0, c1, c2⟩ := box_cells hb1
  go_wp2
  go_loopw [11] (fun i wr => ∃ k : Nat, k ≤ n ∧ i = .int .i64 k ∧ Hid (wr.heap[w.heap.size + 1]? = some (.cells (Bs (partK data (k * 128))).toArray 5 (0, 0))) ∧ Below (w.heap.size + 1) (w.alloc (.cells #[.int .i64 n, .slice (some ⟨b, o, none⟩) data.length c, .slice q ws.length m] 25)) wr) (fun i _ => n - (intOf i).toNat)
  case atStart => exact ⟨0, by omega, rfl, HR, hb1⟩
  case round =>
    obtain ⟨k, hk, rfl, HRk, hbk⟩ := hrel
    obtain ⟨c0, c1, c2⟩ := box_cells hbk
    by_cases hkn : k < n
    · have hsrc : Hid (∀ j v, (Bs (secN data k))[j]? = some v → wr.drew.cell? ((⟨b, o + k * 128, none⟩ : Addr).add j) = some v) := sec_news (hb.below (box_below hbk)) k
      have hl : Hid ((Bs (secN data k)).length = Nat.min 128 128) := by show _ = _; rw [Bs_len, secN_len (by omega)]; rfl
      have hf : Hid (k * 128 + (Bs (secN data k)).length ≤ (Bs (partK data (k * 128))).length) := by show _ ≤ _; rw [Bs_len, Bs_len, secN_len (by omega), partK_len _ _ (by omega)]; omega
      have hs : Hid (splice (Bs (partK data (k * 128))) (k * 128) (Bs (secN data k)) = Bs (partK data ((k + 1) * 128))) := by show _ = _; rw [Bs_splice, partK_step _ _ (by omega)]
      clear hb
      go_wp2
      go_region_held3 (fun w' => w'.cell? ⟨w.heap.size, 1, none⟩ = some (.slice (some ⟨b, o, none⟩) data.length c)) (first | go_keep | exact (box_cells hb2).2.1)
        (first
          | (go_at_call 60; refine (sector_any _ _ _ _ _ _ (by omega) (by omega) (by omega)).mono ?_; rintro e w1 ⟨rfl, rfl⟩)
          | (refine step_copy_splice rfl (.tmp 16) (.tmp 20) 22 22 rfl 5 Tryz.underlying22 size_u8 (some ⟨w.heap.size + 1, k * 128, none⟩) (some ⟨b, o + k * 128, none⟩) 128 (data.length - k * 128) 128 (c - k * 128) (by simp [Act.eval]) (by simp [Act.eval]) (w.heap.size + 1) (k * 128) (Bs (partK data (k * 128))) 5 HRk.out (Bs (secN data k)) hl.out (fun _ => ⟨rfl, _, rfl, hsrc.out⟩) hf.out (Bs_oneCell _) (w.heap.size + 1) _ (hbk.drew) (Nat.le_refl _) ?_; intro w2 hrow2 hb2))
      all_goals
        have hrow3 : Hid (w2.heap[w.heap.size + 1]? = some (.cells (Bs (partK data ((k + 1) * 128))).toArray 5 (0, 0))) := by show _ = _; rw [← hs.out]; exact hrow2.out
        clear hrow2
        go_wp2
        go_roundw
        case rel => exact ⟨k + 1, by omega, by go_num, hrow3, hb2⟩
        case measure => simp [intOf]; omega
    · obtain rfl : k = n := by omega
      have hfin : partK data (k * 128) = data := by rw [show k * 128 = data.length from by omega]; exact partK_all data
      rw [hfin] at HRk
      clear hfin hb
      go_wp2
      go_ret
      exact ⟨_, rfl, by omega, HRk.out, box_below hbk⟩
end Go.Proofs.YtglcpfnpbcnejaaGreatDoor
