/-
  Contract of the call sectors: a copy of all sectors of a disk that may be, in memory of its own.
-/
import Derived.Test.YteabacpalnamdaaDCheck
import Derived.Deep.RegionHeld3
import Derived.Deep.DrawnRows
namespace Go.Proofs.Yteabacpalnamdaa
open Go.RowKit Go.WideShapes
attribute [local go_sem ↓] Go.wp_at_zero Go.wp_at_succ

/-- The first n bytes of a list, noughts behind them. -/
def partK (data : List Nat) (n : Nat) : List Nat := data.take n ++ List.replicate (data.length - n) 0
theorem partK_zero (data : List Nat) : partK data 0 = List.replicate data.length 0 := by simp [partK]
theorem partK_all (data : List Nat) : partK data data.length = data := by simp [partK]
theorem partK_len (data : List Nat) (n : Nat) (h : n ≤ data.length) : (partK data n).length = data.length := by simp [partK]; omega
theorem partK_step (data : List Nat) (k : Nat) (h : (k + 1) * 128 ≤ data.length) : splice (partK data (k * 128)) (k * 128) (secN data k) = partK data ((k + 1) * 128) := by
  have hl := secN_len h
  have e1 : (partK data (k * 128)).take (k * 128) = data.take (k * 128) := by
    unfold partK
    rw [List.take_append_of_le_length (by simp; omega), List.take_take, Nat.min_self]
  have e2 : (partK data (k * 128)).drop (k * 128 + 128) = List.replicate (data.length - (k + 1) * 128) 0 := by
    unfold partK
    rw [List.drop_append, List.drop_eq_nil_of_le (show (data.take (k * 128)).length ≤ k * 128 + 128 by simp; omega), List.nil_append, List.drop_replicate]
    congr 1
    simp; omega
  unfold splice
  rw [hl, e1, e2]
  unfold partK secN
  rw [← List.append_assoc, ← List.take_add, show k * 128 + 128 = (k + 1) * 128 from by omega]
theorem BIn.addr {w : World} {p : Option Addr} {xs : List Nat} (h : BIn w p xs) (hx : 0 < xs.length) : ∃ b o, p = some ⟨b, o, none⟩ := by
  obtain ⟨b, o, e, _⟩ := h.1 hx
  exact ⟨b, o, e⟩
theorem sec_news {w : World} {b o : Nat} {data : List Nat} (h : BIn w (some ⟨b, o, none⟩) data) (k : Nat) : ∀ j v, (Bs (secN data k))[j]? = some v → w.cell? ((⟨b, o + k * 128, none⟩ : Addr).add j) = some v := by
  intro j v hv
  rw [add_plain]
  simp only [Bs, secN, List.getElem?_map, List.getElem?_take, List.getElem?_drop] at hv
  split at hv
  · cases e : data[k * 128 + j]? with
    | none => rw [e] at hv; simp at hv
    | some x =>
      rw [e] at hv
      simp at hv
      have hlt : k * 128 + j < data.length := (List.getElem?_eq_some_iff.1 e).1
      have := h.cell (k * 128 + j) hlt
      rw [Nat.add_assoc, this, ← hv]
      simp [List.getD, e]
  · simp at hv

set_option maxHeartbeats 1000000 in
theorem sectors_any (v : Value) (count : Int) (data : List Nat) (ws : Puts) (w : World) (hd : DiskIn w v count data ws) (ho : Okay count data ws) :
    Calls Try.prog 33 #[v] w fun e w' => ∃ g, e = .returned (.slice (some ⟨g, 0, none⟩) data.length data.length) ∧ w.heap.size ≤ g ∧ w'.heap[g]? = some (.cells (Bs data).toArray 5 (0, 0)) ∧ Below w.heap.size w w' := by
  obtain ⟨p, c, q, m, rfl, hb, hc, hcm, hp, hq, hm, hmm, hqn⟩ := hd.parts
  obtain ⟨i0, hi, hz0, hz1, hz2⟩ := info_parts info_u8
  have hlo := ho.lo
  have hhi := ho.hi
  have hlen := ho.len
  obtain ⟨n, rfl⟩ := Int.eq_ofNat_of_zero_le (show 0 ≤ count by omega)
  have hln : data.length = n * 128 := by omega
  obtain ⟨b, o, rfl⟩ := hb.addr (by omega)
  have hln1 : data.length ≤ n * 128 := by omega
  have hln2 : n * 128 ≤ data.length := by omega
  clear hd hp hqn hq hm hmm ho hlen hln
  unfold maxLen at hcm
  go_enter Try.func33, Try.ntmps33
  go_wp2_with (at_make; refine wpList_make_full _ rfl _ _ 22 rfl w.heap.size 5 i0 (.int .u8 0) 1 Try.underlying22 hi hz0 hz1 .i64 .i64 _ _ data.length rfl rfl (by omega) (by omega) (by rw [hz2]; omega) (by unfold maxLen; omega) (by simp) ?_)
  intro w1 hown hgrow
  have hrow := row_full hown
  rw [zeros_made, ← partK_zero] at hrow
  have hb1 : Below (w.heap.size + 1) (w.alloc (.cells #[.int .i64 n, .slice (some ⟨b, o, none⟩) data.length c, .slice q ws.length m] 25)) w1 := (Below.refl _ _).grown hgrow (by simp) (fun k hk => by cases hk)
  have HR : Hid (w1.heap[w.heap.size + 1]? = some (.cells (Bs (partK data (0 * 128))).toArray 5 (0, 0))) := by show _ = _; rw [Nat.zero_mul]; exact hrow
  clear hown hgrow hrow
  obtain ⟨c0, c1, c2⟩ := box_cells hb1
  go_wp2
  go_loopw [11] (fun i wr => ∃ k : Nat, k ≤ n ∧ i = .int .i64 k ∧ Hid (wr.heap[w.heap.size + 1]? = some (.cells (Bs (partK data (k * 128))).toArray 5 (0, 0))) ∧ Below (w.heap.size + 1) (w.alloc (.cells #[.int .i64 n, .slice (some ⟨b, o, none⟩) data.length c, .slice q ws.length m] 25)) wr) (fun i _ => n - (intOf i).toNat)
  case atStart => exact ⟨0, by omega, rfl, HR, hb1⟩
  case round =>
    obtain ⟨k, hk, rfl, HRk, hbk⟩ := hrel
    obtain ⟨c0, c1, c2⟩ := box_cells hbk
    by_cases hkn : k < n
    · have hsrc : Hid (∀ j v, (Bs (secN data k))[j]? = some v → wr.drew.cell? ((⟨b, o + k * 128, none⟩ : Addr).add j) = some v) := sec_news (hb.below (box_below hbk)) k
      have hl : Hid ((Bs (secN data k)).length = Nat.min 128 128) := by show _ = _; rw [Bs_len, secN_len (by omega)]; rfl
      have hf : Hid (k * 128 + (Bs (secN data k)).length ≤ (Bs (partK data (k * 128))).length) := by show _ ≤ _; rw [Bs_len, Bs_len, secN_len (by omega), partK_len _ _ (by omega)]; omega
      have hs : Hid (splice (Bs (partK data (k * 128))) (k * 128) (Bs (secN data k)) = Bs (partK data ((k + 1) * 128))) := by show _ = _; rw [Bs_splice, partK_step _ _ (by omega)]
      clear hb
      go_wp2
      go_region_held3 (fun w' => w'.cell? ⟨w.heap.size, 1, none⟩ = some (.slice (some ⟨b, o, none⟩) data.length c)) (first | go_keep | exact (box_cells hb2).2.1)
        (first
          | (go_at_call 34; refine (sector_any _ _ _ _ _ _ (by omega) (by omega) (by omega)).mono ?_; rintro e w1 ⟨rfl, rfl⟩)
          | (refine step_copy_splice rfl (.tmp 16) (.tmp 20) 22 22 rfl 5 Try.underlying22 size_u8 (some ⟨w.heap.size + 1, k * 128, none⟩) (some ⟨b, o + k * 128, none⟩) 128 (data.length - k * 128) 128 (c - k * 128) (by simp [Act.eval]) (by simp [Act.eval]) (w.heap.size + 1) (k * 128) (Bs (partK data (k * 128))) 5 HRk.out (Bs (secN data k)) hl.out (fun _ => ⟨rfl, _, rfl, hsrc.out⟩) hf.out (Bs_oneCell _) (w.heap.size + 1) _ (hbk.drew) (Nat.le_refl _) ?_; intro w2 hrow2 hb2))
      all_goals
        have hrow3 : Hid (w2.heap[w.heap.size + 1]? = some (.cells (Bs (partK data ((k + 1) * 128))).toArray 5 (0, 0))) := by show _ = _; rw [← hs.out]; exact hrow2.out
        clear hrow2
        go_wp2
        go_roundw
        case rel => exact ⟨k + 1, by omega, by go_num, hrow3, hb2⟩
        case measure => simp [intOf]; omega
    · obtain rfl : k = n := by omega
      have hfin : partK data (k * 128) = data := by rw [show k * 128 = data.length from by omega]; exact partK_all data
      rw [hfin] at HRk
      clear hfin hb
      go_wp2
      go_ret
      exact ⟨_, rfl, by omega, HRk.out, box_below hbk⟩
end Go.Proofs.Yteabacpalnamdaa
