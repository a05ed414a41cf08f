/-
  The document's Less, One, together, small, Same.
-/
import Derived.Test.YtbeoijlkhpbdjaaJ04
import Derived.Lib.AppendZeros
import Derived.Test.YtbeoijlkhpbdjaaJ02
import Derived.Test.YtbeoijlkhpbdjaaJ03
namespace Go.Proofs.Ytbeoijlkhpbdjaa
open Go.RowKit Go.WideShapes

theorem put_row {l : List EntV} (hc : checkE l = 0) {x : EntV} (h1 : oneE x = 0) : putR l x = (stepE l x, (putE l x).2) := by
  have hr := ((checkE_rise l).1 hc).2.2
  have hsame : (placeE l x < l.length ∧ sameE (l.getD (placeE l x) zeroE) x = true) ↔ (placeE l x < l.length ∧ lessE x (l.getD (placeE l x) zeroE) = false) := by
    constructor
    · rintro ⟨a, b⟩
      refine ⟨a, ?_⟩
      unfold sameE at b
      simp only [Bool.and_eq_true, decide_eq_true_eq] at b
      exact lessE_same ⟨b.1.symm, b.2.symm⟩
    · rintro ⟨a, b⟩
      refine ⟨a, ?_⟩
      have := lessE_tri (place_at l x a) b
      unfold sameE
      simp only [Bool.and_eq_true, decide_eq_true_eq]
      exact this
  unfold putR stepE putE
  rw [if_neg (by simp [hc] : ¬ checkE l ≠ 0), if_neg (by simp [h1] : ¬ oneE x ≠ 0)]
  by_cases hs : placeE l x < l.length ∧ lessE x (l.getD (placeE l x) zeroE) = false
  · rw [if_pos (hsame.2 hs), if_pos hs]; rfl
  · rw [if_neg (fun h => hs (hsame.1 h)), if_neg hs]
    by_cases hm : 4096 ≤ l.length
    · rw [if_pos hm, if_pos hm]; rfl
    · rw [if_neg hm, if_neg hm]; rfl
theorem find_row {l : List EntV} (hr : RiseE l) (key : ByteArray) (seq : Int) : newL l key seq = (if placeE l ⟨key, ByteArray.empty, seq, false⟩ < l.length ∧ (l.getD (placeE l ⟨key, ByteArray.empty, seq, false⟩) zeroE).key = key then (l.getD (placeE l ⟨key, ByteArray.empty, seq, false⟩) zeroE, true) else (zeroE, false)) := by
  obtain ⟨x, hx⟩ : ∃ x : EntV, (⟨key, ByteArray.empty, seq, false⟩ : EntV) = x := ⟨_, rfl⟩
  have xk : x.key = key := by rw [← hx]
  have xs : x.seq = seq := by rw [← hx]
  rw [hx]
  have hpa := place_ahead l x
  by_cases h : placeE l x < l.length ∧ (l.getD (placeE l x) zeroE).key = key
  · rw [if_pos h]
    have h1 := place_at l x h.1
    refine newL_is hr (getD_mem' h.1) h.2 ?_ (fun z hz hk hs => ?_)
    · rcases Int.lt_or_le seq (l.getD (placeE l x) zeroE).seq with hc | hc
      · rw [(lessE_def _ _).2 (.inr ⟨by rw [h.2, xk], by omega⟩)] at h1; cases h1
      · exact hc
    · obtain ⟨i, hi, rfl⟩ := List.getElem_of_mem hz
      rcases Nat.lt_trichotomy i (placeE l x) with hc | hc | hc
      · have h2 := hpa l[i] (by rw [List.mem_take_iff_getElem]; exact ⟨i, by omega, rfl⟩)
        rcases (lessE_def _ _).1 h2 with h3 | h3
        · rw [hk, xk, ltB_irrefl] at h3; cases h3
        · omega
      · subst hc
        rw [List.getD_eq_getElem?_getD, List.getElem?_eq_getElem hi]
        exact Int.le_refl _
      · have h2 := List.pairwise_iff_getElem.1 hr (placeE l x) i h.1 hi hc
        rw [List.getD_eq_getElem?_getD, List.getElem?_eq_getElem h.1] at h ⊢
        simp only [Option.getD_some] at h ⊢
        rcases (lessE_def _ _).1 h2 with h3 | h3
        · rw [h.2, hk, ltB_irrefl] at h3; cases h3
        · omega
  · rw [if_neg h]
    refine newL_none (fun z hz hh => h ?_)
    obtain ⟨i, hi, rfl⟩ := List.getElem_of_mem hz
    rcases Nat.lt_or_ge i (placeE l x) with hc | hc
    · have h2 := hpa l[i] (by rw [List.mem_take_iff_getElem]; exact ⟨i, by omega, rfl⟩)
      rcases (lessE_def _ _).1 h2 with h3 | h3
      · rw [hh.1, xk, ltB_irrefl] at h3; cases h3
      · omega
    · have hp : placeE l x < l.length := by omega
      refine ⟨hp, ?_⟩
      have h1 := place_at l x hp
      rcases Nat.eq_or_lt_of_le hc with e | hc
      · rw [List.getD_eq_getElem?_getD, List.getElem?_eq_getElem hp]
        simp only [Option.getD_some, e]
        exact hh.1
      · have h2 := List.pairwise_iff_getElem.1 hr (placeE l x) i hp hi hc
        rw [List.getD_eq_getElem?_getD, List.getElem?_eq_getElem hp] at h1 ⊢
        simp only [Option.getD_some] at h1 ⊢
        rcases (lessE_def _ _).1 h2 with h3 | h3
        · exfalso
          rw [hh.1, ← xk] at h3
          rw [(lessE_def _ _).2 (.inl h3)] at h1; cases h1
        · rw [h3.1, hh.1]
end Go.Proofs.Ytbeoijlkhpbdjaa
namespace Go.Proofs.Ytbeoijlkhpbdjaa
open Go.RowKit Go.WideShapes

def askE (key : ByteArray) (seq : Int) : EntV := ⟨key, ByteArray.empty, seq, false⟩
theorem one_ask (key : ByteArray) (seq : Int) : oneE (askE key seq) = if key.size < 1 ∨ 256 < key.size then 60 else if seq < 0 ∨ 2147483647 < seq then 2 else 0 := by
  unfold oneE askE
  simp only [show ByteArray.empty.size = 0 from rfl]
  simp
/-- What Find tells, by the entry that is asked for. -/
theorem findL_ask {l : List EntV} (hc : checkE l = 0) (key : ByteArray) (seq : Int) : findL l key seq = if oneE (askE key seq) ≠ 0 then (zeroE, false, oneE (askE key seq)) else if placeE l (askE key seq) < l.length ∧ (l.getD (placeE l (askE key seq)) zeroE).key = key then (l.getD (placeE l (askE key seq)) zeroE, true, 0) else (zeroE, false, 0) := by
  have hr := ((checkE_rise l).1 hc).2.2
  unfold findL
  rw [if_neg (by simp [hc]), one_ask, find_row hr]
  by_cases h1 : key.size < 1 ∨ 256 < key.size
  · rw [if_pos h1, if_pos h1, if_pos (by decide)]
  · rw [if_neg h1, if_neg h1]
    by_cases h2 : seq < 0 ∨ 2147483647 < seq
    · rw [if_pos h2, if_pos h2, if_pos (by decide)]
    · rw [if_neg h2, if_neg h2, if_neg (show ¬ (0 : Nat) ≠ 0 by decide)]
      show _ = if placeE l ⟨key, ByteArray.empty, seq, false⟩ < l.length ∧ (l.getD (placeE l ⟨key, ByteArray.empty, seq, false⟩) zeroE).key = key then _ else _
      by_cases h3 : placeE l ⟨key, ByteArray.empty, seq, false⟩ < l.length ∧ (l.getD (placeE l ⟨key, ByteArray.empty, seq, false⟩) zeroE).key = key
      · rw [if_pos h3, if_pos h3]; rfl
      · rw [if_neg h3, if_neg h3]
structure OnF (w : World) (k : ByteArray) (s : Int) (wr : World) : Prop where
  bel : Below w.heap.size w wr
  res : wr.heap[w.heap.size]? = some (.cells #[.string ⟨#[]⟩, .string ⟨#[]⟩, .int .i64 0, .bool false] 24 (0, 0))
  at_ : wr.heap[w.heap.size + 1]? = some (.cells #[.string k, .string ⟨#[]⟩, .int .i64 s, .bool false] 24 (0, 0))
theorem OnF.next {w wr w' : World} {k : ByteArray} {s : Int} (h : OnF w k s wr) (hb : Below wr.heap.size wr w') : OnF w k s w' := ⟨below_bt h.bel hb, block_below' h.res hb, block_below' h.at_ hb⟩
theorem onF_new (w : World) (k : ByteArray) (s : Int) : OnF w k s ((w.alloc (.cells #[.string ⟨#[]⟩, .string ⟨#[]⟩, .int .i64 0, .bool false] 24)).alloc (.cells #[.string k, .string ⟨#[]⟩, .int .i64 s, .bool false] 24)) :=
  ⟨below_bt (below_alloc _ _) (below_alloc _ _), block_below' (heap_alloc_new _ _) (below_alloc _ _), heap_two _ _ _⟩
end Go.Proofs.Ytbeoijlkhpbdjaa
namespace Go.Proofs.Ytbeoijlkhpbdjaa
open Go.RowKit Go.WideShapes

set_option maxHeartbeats 2000000 in
theorem notLess_any (g g' : Nat) (q : Option Addr) (n c : Nat) (l : List EntV) (x : EntV) (i : Nat) (w : World) (h : EntsL w q n l) (hi : i < l.length) (hg : w.heap[g]? = some (.cells #[.slice q n c] 22 (0, 0))) (hg' : w.heap[g']? = some (.cells #[.string x.key, .string x.val, .int .i64 x.seq, .bool x.gone] 24 (0, 0))) (hn : n ≤ 5000) (r : Bool) (hr : lessE (l.getD i zeroE) x = !r) :
    Calls Try.prog 20 #[.int .i64 (i : Int), .pointer (some ⟨g, 0, none⟩), .pointer (some ⟨g', 0, none⟩)] w fun e w' => e = .returned (.bool r) ∧ Below w.heap.size w w' := by
  obtain ⟨b, o, rfl⟩ := h.lies.addr (by omega)
  obtain ⟨y0, y1, y2, y3⟩ := h.lies.at hi
  have hin : i < n := by have := h.n; omega
  have hiI : (i : Int) < (n : Int) := by omega
  have hiI0 : (0 : Int) ≤ (i : Int) := by omega
  have kw0 : IntKind.i64.wrap (i : Int) = (i : Int) := by rw [IntKind.wrap_i64]; omega
  have HLE := fun w' => less_any (l.getD i zeroE) x w'
  obtain ⟨m, hm⟩ : ∃ m, l.getD i zeroE = m := ⟨_, rfl⟩
  rw [hr] at HLE
  rw [hm] at y0 y1 y2 y3 HLE
  obtain ⟨kx, vx, sx, gx⟩ := m
  obtain ⟨ke, ve, se, ge⟩ := x
  simp only at y0 y1 y2 y3 hg'
  simp only [entV_def] at HLE
  obtain ⟨x0, x1, x2, x3⟩ := four_cells hg'
  have c0 : w.cell? ⟨g, 0, none⟩ = some (.slice (some ⟨b, o, none⟩) n c) := Lib.cell_of_heap hg 0
  have HKS : ∀ w', Below w.heap.size w w' → w'.cell? ⟨g, 0, none⟩ = some (.slice (some ⟨b, o, none⟩) n c) ∧ (w'.cell? ⟨g', 0, none⟩ = some (.string ke) ∧ w'.cell? ⟨g', 1, none⟩ = some (.string ve) ∧ w'.cell? ⟨g', 2, none⟩ = some (.int .i64 se) ∧ w'.cell? ⟨g', 3, none⟩ = some (.bool ge)) ∧ (w'.cell? ⟨b, o + i * 4, none⟩ = some (.string kx) ∧ w'.cell? ⟨b, o + i * 4 + 1, none⟩ = some (.string vx) ∧ w'.cell? ⟨b, o + i * 4 + 2, none⟩ = some (.int .i64 sx) ∧ w'.cell? ⟨b, o + i * 4 + 3, none⟩ = some (.bool gx)) ∧ Below w.heap.size w w' := fun w' hb => ⟨(hb.cell (World.block_lt_of_cell? _ _ c0)).trans c0, ⟨(hb.cell (World.block_lt_of_cell? _ _ x0)).trans x0, (hb.cell (World.block_lt_of_cell? _ _ x1)).trans x1, (hb.cell (World.block_lt_of_cell? _ _ x2)).trans x2, (hb.cell (World.block_lt_of_cell? _ _ x3)).trans x3⟩, ⟨(hb.cell (World.block_lt_of_cell? _ _ y0)).trans y0, (hb.cell (World.block_lt_of_cell? _ _ y1)).trans y1, (hb.cell (World.block_lt_of_cell? _ _ y2)).trans y2, (hb.cell (World.block_lt_of_cell? _ _ y3)).trans y3⟩, hb⟩
  have HKSH : Hid (∀ w', Below w.heap.size w w' → w'.cell? ⟨g, 0, none⟩ = some (.slice (some ⟨b, o, none⟩) n c) ∧ (w'.cell? ⟨g', 0, none⟩ = some (.string ke) ∧ w'.cell? ⟨g', 1, none⟩ = some (.string ve) ∧ w'.cell? ⟨g', 2, none⟩ = some (.int .i64 se) ∧ w'.cell? ⟨g', 3, none⟩ = some (.bool ge)) ∧ (w'.cell? ⟨b, o + i * 4, none⟩ = some (.string kx) ∧ w'.cell? ⟨b, o + i * 4 + 1, none⟩ = some (.string vx) ∧ w'.cell? ⟨b, o + i * 4 + 2, none⟩ = some (.int .i64 sx) ∧ w'.cell? ⟨b, o + i * 4 + 3, none⟩ = some (.bool gx)) ∧ Below w.heap.size w w') := HKS
  have HAL : Hid (w.cell? ⟨g, 0, none⟩ = some (.slice (some ⟨b, o, none⟩) n c) ∧ (w.cell? ⟨g', 0, none⟩ = some (.string ke) ∧ w.cell? ⟨g', 1, none⟩ = some (.string ve) ∧ w.cell? ⟨g', 2, none⟩ = some (.int .i64 se) ∧ w.cell? ⟨g', 3, none⟩ = some (.bool ge)) ∧ (w.cell? ⟨b, o + i * 4, none⟩ = some (.string kx) ∧ w.cell? ⟨b, o + i * 4 + 1, none⟩ = some (.string vx) ∧ w.cell? ⟨b, o + i * 4 + 2, none⟩ = some (.int .i64 sx) ∧ w.cell? ⟨b, o + i * 4 + 3, none⟩ = some (.bool gx)) ∧ Below w.heap.size w w) := HKS w (Below.refl _ _)
  clear HKS h hg hg' hm hr hi hin x0 x1 x2 x3 y0 y1 y2 y3 c0 hn
  go_enter Try.func20, Try.ntmps20
  go_wp2
  go_region_held3 (fun w' => w'.cell? ⟨g, 0, none⟩ = some (.slice (some ⟨b, o, none⟩) n c) ∧ (w'.cell? ⟨g', 0, none⟩ = some (.string ke) ∧ w'.cell? ⟨g', 1, none⟩ = some (.string ve) ∧ w'.cell? ⟨g', 2, none⟩ = some (.int .i64 se) ∧ w'.cell? ⟨g', 3, none⟩ = some (.bool ge)) ∧ (w'.cell? ⟨b, o + i * 4, none⟩ = some (.string kx) ∧ w'.cell? ⟨b, o + i * 4 + 1, none⟩ = some (.string vx) ∧ w'.cell? ⟨b, o + i * 4 + 2, none⟩ = some (.int .i64 sx) ∧ w'.cell? ⟨b, o + i * 4 + 3, none⟩ = some (.bool gx)) ∧ Below w.heap.size w w')
    (with_reducible first | exact HAL.out | exact HKSH.out _ (Below.refl _ _).drew | exact HKSH.out _ (below_dw (by assumption)) | assumption)
    (first
      | (go_at_call 21; refine (HLE _).mono ?_; rintro e w3 ⟨rfl, hb3⟩)
      | fail)
  rename_i hh
  have HB : Hid (Below w.heap.size w w3) := hh.2.2.2
  clear hh hb3
  go_wp2
  go_ret
  exact ⟨by simp, HB.out⟩
set_option maxHeartbeats 2000000 in
theorem search_any (n k : Nat) (p : Nat → Bool) (a b : Value) (w : World) (hn : n ≤ 5000) (hk : k ≤ n) (hlo : ∀ t, t < k → p t = false) (hhi : ∀ t, k ≤ t → t < n → p t = true)
    (hf : ∀ (i : Nat) (w' : World), i < n → Below w.heap.size w w' → Calls Try.prog 20 #[.int .i64 (i : Int), a, b] w' fun e w'' => e = .returned (.bool (p i)) ∧ Below w'.heap.size w' w'') :
    Calls Try.prog 19 #[.int .i64 (n : Int), .func (.func 20) #[] #[a, b]] w fun e w' => e = .returned (.int .i64 (k : Int)) ∧ Below w.heap.size w w' := by
  have HF : Hid (∀ (i : Nat) (w' : World), i < n → Below w.heap.size w w' → Calls Try.prog 20 #[.int .i64 (i : Int), a, b] w' fun e w'' => e = .returned (.bool (p i)) ∧ Below w'.heap.size w' w'') := hf
  have HP : Hid ((∀ t, t < k → p t = false) ∧ ∀ t, k ≤ t → t < n → p t = true) := ⟨hlo, hhi⟩
  have HKN : Hid (k ≤ n) := hk
  have hnI : (n : Int) ≤ 5000 := by omega
  clear hf hlo hhi hk hn
  go_enter Try.func19, Try.ntmps19
  go_wp2
  go_loopw [5, 6] (fun s5 s6 wr => ∃ lo hi : Nat, s5 = .int .i64 (lo : Int) ∧ s6 = .int .i64 (hi : Int) ∧ lo ≤ k ∧ k ≤ hi ∧ hi ≤ n ∧ Below w.heap.size w wr) (fun s5 s6 _ => (intOf s6 - intOf s5).toNat)
  case atStart => exact ⟨0, n, rfl, rfl, by omega, HKN.out, Nat.le_refl _, Below.refl _ _⟩
  case round =>
    obtain ⟨lo, hi, rfl, rfl, h1, h2, h3, hb⟩ := hrel
    have HH : Hid (lo ≤ k ∧ k ≤ hi ∧ hi ≤ n) := ⟨h1, h2, h3⟩
    have HB : Hid (Below w.heap.size w wr) := hb
    have hhI : (hi : Int) ≤ (n : Int) := by omega
    clear h1 h2 h3 hb
    by_cases hlt : lo < hi
    · have hltI : (lo : Int) < (hi : Int) := by omega
      have HLT : Hid (lo < hi) := hlt
      obtain ⟨md, hmd⟩ : ∃ md : Nat, (lo + hi) / 2 = md := ⟨_, rfl⟩
      have HMD : Hid (lo ≤ md ∧ md < hi) := by show _ ∧ _; omega
      have hmI : ((lo : Int) + (hi : Int)) / 2 = (md : Int) := by omega
      have hc := HF.out md wr (by have := HMD.out; have := HH.out; omega) HB.out
      have hmdI : (md : Int) < (hi : Int) := by have := HMD.out; omega
      have hmdI0 : (0 : Int) ≤ (md : Int) := by omega
      clear hlt hmd
      rcases Nat.lt_or_ge md k with hmk | hmk
      · rw [HP.out.1 md hmk] at hc
        have HMK : Hid (md < k) := hmk
        clear hmk
        rw [← hmI] at hc
        have HMI : Hid (((lo : Int) + (hi : Int)) / 2 = (md : Int)) := hmI
        clear hmI hmdI hmdI0
        go_wp2_with fail
        refine hc.mono ?_
        rintro e w2 ⟨rfl, hb2⟩
        have HB2 : Hid (Below w.heap.size w w2) := below_bt HB.out hb2
        clear hb2 hc
        go_wp2
        go_roundw
        case rel => exact ⟨md + 1, hi, by rw [HMI.out]; go_num, rfl, HMK.out, HH.out.2.1, HH.out.2.2, HB2.out⟩
        case measure => have := HMD.out; have := HMI.out; simp [intOf]; omega
      · rw [HP.out.2 md hmk (by have := HMD.out; have := HH.out; omega)] at hc
        have HMK : Hid (k ≤ md) := hmk
        clear hmk
        rw [← hmI] at hc
        have HMI : Hid (((lo : Int) + (hi : Int)) / 2 = (md : Int)) := hmI
        clear hmI hmdI hmdI0
        go_wp2_with fail
        refine hc.mono ?_
        rintro e w2 ⟨rfl, hb2⟩
        have HB2 : Hid (Below w.heap.size w w2) := below_bt HB.out hb2
        clear hb2 hc
        go_wp2
        go_roundw
        case rel => exact ⟨lo, md, rfl, by rw [HMI.out], HH.out.1, HMK.out, by have := HMD.out; have := HH.out; omega, HB2.out⟩
        case measure => have := HMD.out; have := HMI.out; simp [intOf]; omega
    · have hltI : (hi : Int) ≤ (lo : Int) := by omega
      have HE : Hid (lo = k) := by have := HH.out; show _ = _; omega
      clear hlt
      go_wp2
      go_ret
      exact ⟨by rw [HE.out]; rfl, HB.out⟩
theorem place_mono {l : List EntV} (hr : RiseE l) (x : EntV) : (∀ t, t < placeE l x → lessE (l.getD t zeroE) x = true) ∧ ∀ t, placeE l x ≤ t → t < l.length → lessE (l.getD t zeroE) x = false := by
  have hle := placeE_le l x
  constructor
  · intro t ht
    have h := place_ahead l x (l[t]'(by omega)) (by rw [List.mem_take_iff_getElem]; exact ⟨t, by omega, rfl⟩)
    rw [List.getD_eq_getElem?_getD, List.getElem?_eq_getElem (by omega)]
    exact h
  · intro t h1 h2
    have hp : placeE l x < l.length := by omega
    have h3 := place_at l x hp
    rcases Nat.eq_or_lt_of_le h1 with e | hlt
    · rw [← e]; exact h3
    · rw [Bool.eq_false_iff]
      intro h4
      have h5 := List.pairwise_iff_getElem.1 hr (placeE l x) t hp h2 hlt
      rw [List.getD_eq_getElem?_getD, List.getElem?_eq_getElem h2, Option.getD_some] at h4
      rw [List.getD_eq_getElem?_getD, List.getElem?_eq_getElem hp, Option.getD_some] at h3
      rw [lessE_trans h5 h4] at h3
      cases h3
set_option maxHeartbeats 2000000 in
theorem countAhead_any (q : Option Addr) (n c : Nat) (l : List EntV) (x : EntV) (w : World) (h : EntsL w q n l) (hr : RiseE l) (hlen : l.length ≤ 4096) (k : Nat) (hk : placeE l x = k) :
    Calls Try.prog 12 #[.slice q n c, entV x] w fun e w' => e = .returned (.int .i64 (k : Int)) ∧ Below w.heap.size w w' := by
  have hm := place_mono hr x
  rw [hk] at hm
  have hle := placeE_le l x
  rw [hk] at hle
  have hb2 : Below w.heap.size w ((w.alloc (.cells #[.slice q n c] 22)).alloc (.cells #[.string x.key, .string x.val, .int .i64 x.seq, .bool x.gone] 24)) := below_bt (below_alloc _ _) (below_alloc _ _)
  have HSR := search_any n k (fun t => !lessE (l.getD t zeroE) x) (.pointer (some ⟨w.heap.size, 0, none⟩)) (.pointer (some ⟨w.heap.size + 1, 0, none⟩)) ((w.alloc (.cells #[.slice q n c] 22)).alloc (.cells #[.string x.key, .string x.val, .int .i64 x.seq, .bool x.gone] 24)) (by have := h.n; omega) (by have := h.n; omega) (fun t ht => by simp only [hm.1 t ht]; rfl) (fun t h1 h2 => by simp only [hm.2 t h1 (by have := h.n; omega)]; rfl)
    (fun i w' hi hb => notLess_any w.heap.size (w.heap.size + 1) q n c l x i w' (h.below (below_bt hb2 hb)) (by have := h.n; omega) (block_below' (block_below' (heap_alloc_new _ _) (below_alloc _ _)) hb) (block_below' (heap_two _ _ _) hb) (by have := h.n; omega) _ (by simp))
  have HB2 : Hid (Below w.heap.size w ((w.alloc (.cells #[.slice q n c] 22)).alloc (.cells #[.string x.key, .string x.val, .int .i64 x.seq, .bool x.gone] 24))) := hb2
  obtain ⟨ke, ve, se, ge⟩ := x
  rw [entV_def]
  simp only at HSR HB2
  clear h hr hlen hm hk hle hb2
  go_enter Try.func12, Try.ntmps12
  go_wp2_with fail
  refine HSR.mono ?_
  rintro e w2 ⟨rfl, hb⟩
  have HB : Hid (Below w.heap.size w w2) := below_bt HB2.out hb
  clear hb HSR HB2
  go_wp2
  go_ret
  exact ⟨rfl, HB.out⟩
end Go.Proofs.Ytbeoijlkhpbdjaa
namespace Go.Proofs.Ytbeoijlkhpbdjaa
open Go.RowKit Go.WideShapes

theorem zeros_own (w : World) (n : Nat) (h1 : 1 ≤ n) (h2 : n ≤ 10000) : ∃ c v' w', (Builtin.append_ #[22, 3] 22 #[.slice none 0 0, .int .i64 (n : Int)]).run Try.prog w = .ok v' w' ∧ v' = .slice (some ⟨w.heap.size, 0, none⟩) n c ∧ n ≤ c ∧ c ≤ maxLen ∧ OnB w (.slice (some ⟨w.heap.size, 0, none⟩) 0 c) [] w' := by
  obtain ⟨i0, hi, hz0, hz1, hz2⟩ := info_parts' info_entry
  have hr := Lib.run_append_nil_zeros (P := Try.prog) w 22 3 22 24 i0 _ .i64 .i64 Try.underlying22 Try.underlying3 hi hz0 n (by omega) (by omega) (by omega) (by rw [hz2]; omega)
  have hge := grownCap_ge w n 0 24
  have hle := grownCap_le_maxLen w n 0 24 (by unfold maxLen; omega)
  refine ⟨grownCap w n 0 24, _, _, hr, rfl, hge, hle, ?_, ((Below.refl _ _).drew).alloc (by simp) _⟩
  refine ⟨rfl, .inr ⟨w.heap.size, grownCap w n 0 24, _, rfl, Nat.le_refl _, heap_alloc_new w.drew _, Nat.zero_le _, hle, ?_, by simp [cellsE]⟩⟩
  rw [Array.size_append, size_zeroCells, size_zeroCells]
  simp only [Value.cells]
  show n * 4 + (grownCap w n 0 24 - n) * 4 = _
  omega
set_option maxHeartbeats 1000000 in
theorem grow_any (n : Nat) (w : World) (h1 : 1 ≤ n) (h2 : n ≤ 10000) :
    Calls Try.prog 22 #[.slice none 0 0, .int .i64 (n : Int)] w fun e w' => ∃ c, e = .returned (.slice (some ⟨w.heap.size, 0, none⟩) 0 c) ∧ OnB w (.slice (some ⟨w.heap.size, 0, none⟩) 0 c) [] w' := by
  obtain ⟨c, v', w', hr, hv, hn, hc, hon⟩ := zeros_own w n h1 h2
  have HON : Hid (OnB w (.slice (some ⟨w.heap.size, 0, none⟩) 0 c) [] w') := hon
  have hnI : (1 : Int) ≤ (n : Int) := by omega
  have hnI2 : (n : Int) ≤ 10000 := by omega
  have hcI : (n : Int) ≤ (c : Int) := by omega
  subst hv
  clear hon h1 h2 hn hc
  go_enter Try.func22, Try.ntmps22
  go_wp2_with (at_builtin; refine Lib.wpList_append_run _ rfl _ _ _ _ rfl _ _ rfl rfl _ _ hr ?_)
  go_ret
  exact ⟨c, rfl, HON.out⟩
theorem OnB.two {w wr w' : World} {v v' : Value} {l l' : List EntV} (h : OnB w v l wr) (ho : EOwn w' w.heap.size v' (l ++ l')) (hg : wr.grownBy w' v.ownBlock) : OnB w v' (l ++ l') w' :=
  ⟨ho, h.bel.grown hg h.bel.size (fun k hk => (World.ownsRow.lt h.own k hk).1)⟩
set_option maxHeartbeats 2000000 in
theorem concat_any (g : Nat) (q1 q2 q3 : Option Addr) (n1 n2 n3 c1 c2 c3 : Nat) (l1 l2 l3 : List EntV) (w : World) (hg : w.heap[g]? = some (.cells #[.slice q1 n1 c1, .slice q2 n2 c2, .slice q3 n3 c3] 22 (0, 0))) (h1 : EntsL w q1 n1 l1) (h2 : EntsL w q2 n2 l2) (h3 : EntsL w q3 n3 l3) (z1 : q1 = none → c1 = 0) (z2 : q2 = none → c2 = 0) (z3 : q3 = none → c3 = 0) (hs : 1 ≤ n1 + n2 + n3) (hm : n1 + n2 + n3 ≤ 5000) :
    Calls Try.prog 14 #[.slice (some ⟨g, 0, none⟩) 3 3] w fun e w' => ∃ v, e = .returned v ∧ OnB w v (l1 ++ l2 ++ l3) w' := by
  have g0 : w.cell? ⟨g, 0, none⟩ = some (.slice q1 n1 c1) := Lib.cell_of_heap hg 0
  have g1 : w.cell? ⟨g, 1, none⟩ = some (.slice q2 n2 c2) := Lib.cell_of_heap hg 1
  have g2 : w.cell? ⟨g, 2, none⟩ = some (.slice q3 n3 c3) := Lib.cell_of_heap hg 2
  have HG : Hid (w.heap[g]? = some (.cells #[.slice q1 n1 c1, .slice q2 n2 c2, .slice q3 n3 c3] 22 (0, 0))) := hg
  obtain ⟨N, hN⟩ : ∃ N : Nat, n1 + n2 + n3 = N := ⟨_, rfl⟩
  have HGR := grow_any N w (by omega) (by omega)
  have HL : Hid (n1 = l1.length ∧ n2 = l2.length ∧ n3 = l3.length ∧ n1 + n2 + n3 ≤ 5000) := ⟨h1.n, h2.n, h3.n, hm⟩
  have H1 : Hid (EntsL w q1 n1 l1) := h1
  have H2 : Hid (EntsL w q2 n2 l2) := h2
  have H3 : Hid (EntsL w q3 n3 l3) := h3
  have HZ : Hid ((q1 = none → c1 = 0) ∧ (q2 = none → c2 = 0) ∧ (q3 = none → c3 = 0)) := ⟨z1, z2, z3⟩
  have b1 : (n1 : Int) ≤ 5000 := by omega
  have b2 : (n1 : Int) + (n2 : Int) ≤ 5000 := by omega
  have b3 : (n1 : Int) + (n2 : Int) + (n3 : Int) ≤ 5000 := by omega
  have hNI : (n1 : Int) + (n2 : Int) + (n3 : Int) = (N : Int) := by omega
  rw [← hNI] at HGR
  clear hg h1 h2 h3 z1 z2 z3 hs hm hN hNI
  go_enter Try.func14, Try.ntmps14
  go_wp2
  refine wp_loop_rounds 4 ?_
  iterate 3 (rw [rounds_succ]; go_wp2)
  rw [rounds_succ]
  go_wp2_with fail
  refine HGR.mono ?_
  rintro e w2 ⟨c, rfl, hon⟩
  have HON : Hid (OnB w (.slice (some ⟨w.heap.size, 0, none⟩) 0 c) [] w2) := hon
  have HC : Hid (∀ u, Below w.heap.size w u → u.cell? ⟨g, 0, none⟩ = some (.slice q1 n1 c1) ∧ u.cell? ⟨g, 1, none⟩ = some (.slice q2 n2 c2) ∧ u.cell? ⟨g, 2, none⟩ = some (.slice q3 n3 c3)) := fun u hb => ⟨Lib.cell_of_heap (block_below' HG.out hb) 0, Lib.cell_of_heap (block_below' HG.out hb) 1, Lib.cell_of_heap (block_below' HG.out hb) 2⟩
  clear g0 g1 g2 hon HGR
  obtain ⟨g0, g1, g2⟩ := HC.out w2 HON.out.bel
  go_wp2
  refine wp_loop_rounds 4 ?_
  rw [rounds_succ]
  go_wp2_with (at_builtin; go_loud (refine wpList_append_two _ rfl _ _ rfl w.heap.size (.slice (some ⟨w.heap.size, 0, none⟩) 0 c) [] l1 q1 n1 c1 rfl rfl HL.out.1 HON.out.own (H1.out.lies.below HON.out.bel) HZ.out.1 (by have := HL.out; simp only [List.length_nil]; omega) HON.out.bel.size ?_); intro va ua hoa hga; have HO1 : Hid (OnB w va ([] ++ l1) ua) := HON.out.two hoa hga; obtain ⟨g0, g1, g2⟩ := HC.out ua HO1.out.bel; clear hoa hga)
  rw [rounds_succ]
  go_wp2_with (at_builtin; go_loud (refine wpList_append_two _ rfl _ _ rfl w.heap.size va ([] ++ l1) l2 q2 n2 c2 rfl rfl HL.out.2.1 HO1.out.own (H2.out.lies.below HO1.out.bel) HZ.out.2.1 (by have := HL.out; simp only [List.length_append, List.length_nil]; omega) HO1.out.bel.size ?_); intro vb ub hob hgb; have HO2 : Hid (OnB w vb ([] ++ l1 ++ l2) ub) := HO1.out.two hob hgb; obtain ⟨g0, g1, g2⟩ := HC.out ub HO2.out.bel; clear hob hgb)
  rw [rounds_succ]
  go_wp2_with (at_builtin; go_loud (refine wpList_append_two _ rfl _ _ rfl w.heap.size vb ([] ++ l1 ++ l2) l3 q3 n3 c3 rfl rfl HL.out.2.2.1 HO2.out.own (H3.out.lies.below HO2.out.bel) HZ.out.2.2 (by have := HL.out; simp only [List.length_append, List.length_nil]; omega) HO2.out.bel.size ?_); intro vc uc hoc hgc; have HO3 : Hid (OnB w vc ([] ++ l1 ++ l2 ++ l3) uc) := HO2.out.two hoc hgc; clear hoc hgc)
  rw [rounds_succ]
  go_wp2
  go_ret
  exact ⟨vc, rfl, by have h := HO3.out; rw [List.nil_append] at h; exact h⟩
end Go.Proofs.Ytbeoijlkhpbdjaa
namespace Go.Proofs.Ytbeoijlkhpbdjaa
open Go.RowKit Go.WideShapes

theorem EntsIn.take' {w : World} {q : Option Addr} {l : List EntV} (h : EntsIn w q l) (k : Nat) : EntsIn w q (l.take k) := by
  intro hp
  rw [List.length_take] at hp
  obtain ⟨b, o, e, hc⟩ := h (by omega)
  refine ⟨b, o, e, fun i hi => ?_⟩
  rw [List.length_take] at hi
  have := hc i (by omega)
  rw [show (l.take k).getD i zeroE = l.getD i zeroE by rw [List.getD_eq_getElem?_getD, List.getElem?_take_of_lt (by omega), ← List.getD_eq_getElem?_getD]]
  exact this
theorem EntsIn.drop' {w : World} {b o : Nat} {l : List EntV} (h : EntsIn w (some ⟨b, o, none⟩) l) (k : Nat) : EntsIn w (some ⟨b, o + k * 4, none⟩) (l.drop k) := by
  intro hp
  rw [List.length_drop] at hp
  refine ⟨b, o + k * 4, rfl, fun i hi => ?_⟩
  rw [List.length_drop] at hi
  obtain ⟨c0, c1, c2, c3⟩ := h.at (k := k + i) (by omega)
  rw [show (l.drop k).getD i zeroE = l.getD (k + i) zeroE by rw [List.getD_eq_getElem?_getD, List.getElem?_drop, ← List.getD_eq_getElem?_getD]]
  exact ⟨by rw [show o + k * 4 + i * 4 = o + (k + i) * 4 by omega]; exact c0, by rw [show o + k * 4 + (i * 4 + 1) = o + (k + i) * 4 + 1 by omega]; exact c1, by rw [show o + k * 4 + (i * 4 + 2) = o + (k + i) * 4 + 2 by omega]; exact c2, by rw [show o + k * 4 + (i * 4 + 3) = o + (k + i) * 4 + 3 by omega]; exact c3⟩
theorem cutE_to (q : Option Addr) (n c k : Nat) (hc : n ≤ c) (hk : k ≤ n) (w : World) : (Instr.slice 22 (.slice q n c) none (some (.int .i64 (k : Int))) none).run Try.prog w = .ok (.slice q k c) w := by
  rw [run_slice_h w 22 q n c (by kernel_rfl) .i64 k (by omega) (by omega)]
  have hs : (sizeOf (Try.prog.elem 22)).run Try.prog w = .ok 4 w := by kernel_rfl
  rw [hs]
  cases q with
  | none => simp [Result.andThen, sliced]
  | some a => simp [Result.andThen, sliced, Addr.add]
theorem cutE_from (q : Option Addr) (n c k : Nat) (l : List EntV) (hn : n = l.length) (hc : n ≤ c) (hk : k ≤ n) (hp : q = none → c = 0) :
    ∃ p', (∀ w, (Instr.slice 22 (.slice q n c) (some (.int .i64 (k : Int))) none none).run Try.prog w = .ok (.slice p' (n - k) (c - k)) w) ∧ (∀ w, EntsIn w q l → EntsIn w p' (l.drop k)) ∧ (p' = none → c - k = 0) := by
  have hr : ∀ w, (Instr.slice 22 (.slice q n c) (some (.int .i64 k)) none none).run Try.prog w = .ok (.slice (if c = k then q else q.map (·.add (k * 4))) (n - k) (c - k)) w := by
    intro w
    rw [run_slice_l w 22 q n c (by kernel_rfl) .i64 k (by omega) (by omega)]
    have hs : (sizeOf (Try.prog.elem 22)).run Try.prog w = .ok 4 w := by kernel_rfl
    rw [hs]
    rfl
  cases q with
  | none =>
    have hc0 := hp rfl
    have : k = 0 := by omega
    subst this
    exact ⟨_, hr, fun w h => by rw [List.drop_zero, if_pos hc0]; exact h, fun _ => by omega⟩
  | some a =>
    refine ⟨_, hr, fun w h => ?_, fun h => by split at h <;> simp at h⟩
    rcases Nat.eq_zero_or_pos (l.length - k) with h0 | h0
    · intro hp2
      rw [List.length_drop] at hp2
      omega
    · obtain ⟨b, o, e, _⟩ := h (by omega)
      simp only [Option.some.injEq] at e
      subst e
      rw [if_neg (by omega), Option.map_some, add_plain]
      exact h.drop' k
theorem sameL {l : List EntV} {x : EntV} : (placeE l x < l.length ∧ sameE (l.getD (placeE l x) zeroE) x = true) = (placeE l x < l.length ∧ lessE x (l.getD (placeE l x) zeroE) = false) := by
  refine propext ⟨?_, ?_⟩
  · rintro ⟨a, b⟩
    refine ⟨a, ?_⟩
    unfold sameE at b
    simp only [Bool.and_eq_true, decide_eq_true_eq] at b
    exact lessE_same ⟨b.1.symm, b.2.symm⟩
  · rintro ⟨a, b⟩
    refine ⟨a, ?_⟩
    have := lessE_tri (place_at l x a) b
    unfold sameE
    simp only [Bool.and_eq_true, decide_eq_true_eq]
    exact this
theorem fCheck_any (q : Option Addr) (n c : Nat) (l : List EntV) (w : World) (h : EntsL w q n l) (C : Nat) (hC : checkE l = C) :
    Calls Try.prog 8 #[.slice q n c] w fun e w' => e = .returned (.int .i64 (C : Int)) ∧ Below w.heap.size w w' := by
  have H := Check_any q n c l w h C hC
  clear h hC
  go_enter Try.func8, Try.ntmps8
  go_wp2_with fail
  refine H.mono ?_
  rintro e w2 ⟨rfl, hb⟩
  have HB : Hid (Below w.heap.size w w2) := hb
  clear hb H
  go_wp2
  go_ret
  exact ⟨rfl, HB.out⟩
set_option maxRecDepth 8000 in
set_option maxHeartbeats 4000000 in
theorem putF_any (q : Option Addr) (n c : Nat) (l : List EntV) (x : EntV) (w : World) (h : EntsL w q n l) (hnc : n ≤ c) (hqn : q = none → c = 0) (l' : List EntV) (E : Nat) (hR : putE l x = (l', E)) :
    Calls Try.prog 4 #[.slice q n c, entV x] w fun e w' => (∃ uq uc, e = .returned (.tuple #[.slice uq l'.length uc, .int .i64 (E : Int)]) ∧ EOwn w' w.heap.size (.slice uq l'.length uc) l') ∧ Below w.heap.size w w' := by
  have HQ : Hid (EntsIn w q l) := h.lies
  have HN : Hid (n = l.length) := h.n
  have HNC : Hid (n ≤ c) := hnc
  have HQN : Hid (q = none → c = 0) := hqn
  have HRE : Hid (putE l x = (l', E)) := hR
  obtain ⟨C, hC⟩ : ∃ C, checkE l = C := ⟨_, rfl⟩
  obtain ⟨O, hO⟩ : ∃ O, oneE x = O := ⟨_, rfl⟩
  obtain ⟨k, hk⟩ : ∃ k, placeE l x = k := ⟨_, rfl⟩
  have HC : Hid (checkE l = C) := hC
  have HO : Hid (oneE x = O) := hO
  have HK : Hid (placeE l x = k) := hk
  have HKN : Hid (k ≤ n) := by have := placeE_le l x; show _ ≤ _; have h2 := h.n; omega
  have HCK := fun w' hb => fCheck_any q n c l w' (h.below hb) C hC
  have H1 := fun w' => checkOne_any x w' O hO
  have HCA := fun w' (hb : Below w.heap.size w w') (h0 : C = 0) => countAhead_any q n c l x w' (h.below hb) ((checkE_rise l).1 (hC.trans h0)).2.2 ((checkE_rise l).1 (hC.trans h0)).1 k hk
  have HINS : Hid (insE l x = l.take k ++ [x] ++ l.drop k) := by show _ = _; unfold insE; rw [hk]; simp
  obtain ⟨ke, ve, se, ge⟩ := x
  simp only [entV_def] at H1 HCA ⊢
  clear h hnc hqn hR hC hO hk
  have HXB : Hid ((w.alloc (.cells #[.string ke, .string ve, .int .i64 se, .bool ge] 24)).heap[w.heap.size]? = some (.cells #[.string ke, .string ve, .int .i64 se, .bool ge] 24 (0, 0))) := heap_alloc_new _ _
  go_enter Try.func4, Try.ntmps4
  go_wp2_with fail
  refine (HCK _ (below_alloc _ _)).mono ?_
  rintro e w2 ⟨rfl, hb2⟩
  have HB2 : Hid (Below w.heap.size w w2) := below_bt (below_alloc _ _) hb2
  have HX2 : Hid (w2.heap[w.heap.size]? = some (.cells #[.string ke, .string ve, .int .i64 se, .bool ge] 24 (0, 0))) := block_below' HXB.out hb2
  clear hb2 HCK HXB
  rcases Nat.eq_zero_or_pos C with h0 | h0
  · subst h0
    have HLE4 : Hid (n ≤ 4096) := by have := ((checkE_rise l).1 HC.out).1; have h2 := HN.out; show _ ≤ _; omega
    obtain ⟨x0, x1, x2, x3⟩ := four_cells HX2.out
    go_wp2_with fail
    refine (H1 _).mono ?_
    rintro e w3 ⟨rfl, hb3⟩
    have HB3 : Hid (Below w.heap.size w w3) := below_bt HB2.out hb3
    have HX3 : Hid (w3.heap[w.heap.size]? = some (.cells #[.string ke, .string ve, .int .i64 se, .bool ge] 24 (0, 0))) := block_below' HX2.out hb3
    clear hb3 H1 x0 x1 x2 x3
    rcases Nat.eq_zero_or_pos O with h0 | h0
    · subst h0
      obtain ⟨x0, x1, x2, x3⟩ := four_cells HX3.out
      have hca := HCA w3 HB3.out (by first | exact rfl | trivial)
      clear HCA
      go_wp2_with fail
      refine hca.mono ?_
      rintro e w4 ⟨rfl, hb4⟩
      have HB4 : Hid (Below w.heap.size w w4) := below_bt HB3.out hb4
      have HX4 : Hid (w4.heap[w.heap.size]? = some (.cells #[.string ke, .string ve, .int .i64 se, .bool ge] 24 (0, 0))) := block_below' HX3.out hb4
      clear hb4 hca x0 x1 x2 x3
      have HCUT : Hid ((∀ w, (Instr.slice 22 (.slice q n c) none (some (.int .i64 (k : Int))) none).run Try.prog w = .ok (.slice q k c) w) ∧ True ∧ (∀ w, EntsIn w q l → EntsIn w q (l.take k)) ∧ ∃ p' m d, (∀ w, (Instr.slice 22 (.slice q n c) (some (.int .i64 (k : Int))) none none).run Try.prog w = .ok (.slice p' m d) w) ∧ (∀ w, EntsIn w q l → EntsIn w p' (l.drop k)) ∧ (p' = none → d = 0) ∧ m = n - k) := by
        have a1 := HNC.out; have a2 := HKN.out
        obtain ⟨p', e1, e2, e3⟩ := cutE_from q n c k l HN.out a1 a2 HQN.out
        exact ⟨cutE_to q n c k a1 a2, trivial, fun w h => h.take' k, p', n - k, c - k, e1, e2, e3, rfl⟩
      have kb0 : (0 : Int) ≤ (k : Int) := by omega
      have kw0 : IntKind.i64.wrap (k : Int) = (k : Int) := by rw [IntKind.wrap_i64]; have a2 := HKN.out; have a3 := HLE4.out; omega
      by_cases hkn : k < n
      · have hkI : (k : Int) < (n : Int) := by omega
        have hkD : decide (k < n) = true := decide_eq_true hkn
        obtain ⟨b, o, rfl⟩ := HQ.out.addr (by have := HN.out; omega)
        obtain ⟨y0, y1, y2, y3⟩ := (HQ.out.below HB4.out).at (k := k) (by have := HN.out; omega)
        obtain ⟨mE, hm⟩ : ∃ mE, l.getD k zeroE = mE := ⟨_, rfl⟩
        rw [hm] at y0 y1 y2 y3
        obtain ⟨r, hr⟩ : ∃ r, sameE mE ⟨ke, ve, se, ge⟩ = r := ⟨_, rfl⟩
        have HSA := fun w' => same_any mE ⟨ke, ve, se, ge⟩ w' r hr
        have HSM : Hid ((placeE l ⟨ke, ve, se, ge⟩ < l.length ∧ lessE ⟨ke, ve, se, ge⟩ (l.getD (placeE l ⟨ke, ve, se, ge⟩) zeroE) = false) ↔ r = true) := by
          show _ ↔ _
          rw [← sameL, HK.out, hm, hr]
          exact ⟨fun h => h.2, fun h => ⟨by have := HN.out; omega, h⟩⟩
        clear hm hr hkn
        obtain ⟨kx, vx, sx, gx⟩ := mE
        simp only at y0 y1 y2 y3
        simp only [entV_def] at HSA
        have HKS : ∀ w', Below w4.heap.size w4 w' → (w'.cell? ⟨b, o + k * 4, none⟩ = some (.string kx) ∧ w'.cell? ⟨b, o + k * 4 + 1, none⟩ = some (.string vx) ∧ w'.cell? ⟨b, o + k * 4 + 2, none⟩ = some (.int .i64 sx) ∧ w'.cell? ⟨b, o + k * 4 + 3, none⟩ = some (.bool gx)) ∧ (w'.cell? ⟨w.heap.size, 0, none⟩ = some (.string ke) ∧ w'.cell? ⟨w.heap.size, 1, none⟩ = some (.string ve) ∧ w'.cell? ⟨w.heap.size, 2, none⟩ = some (.int .i64 se) ∧ w'.cell? ⟨w.heap.size, 3, none⟩ = some (.bool ge)) ∧ Below w4.heap.size w4 w' := fun w' hb => by
          obtain ⟨q0, q1, q2, q3⟩ := four_cells (block_below' HX4.out hb)
          exact ⟨⟨(hb.cell (World.block_lt_of_cell? _ _ y0)).trans y0, (hb.cell (World.block_lt_of_cell? _ _ y1)).trans y1, (hb.cell (World.block_lt_of_cell? _ _ y2)).trans y2, (hb.cell (World.block_lt_of_cell? _ _ y3)).trans y3⟩, ⟨q0, q1, q2, q3⟩, hb⟩
        have HKSH : Hid (∀ w', Below w4.heap.size w4 w' → (w'.cell? ⟨b, o + k * 4, none⟩ = some (.string kx) ∧ w'.cell? ⟨b, o + k * 4 + 1, none⟩ = some (.string vx) ∧ w'.cell? ⟨b, o + k * 4 + 2, none⟩ = some (.int .i64 sx) ∧ w'.cell? ⟨b, o + k * 4 + 3, none⟩ = some (.bool gx)) ∧ (w'.cell? ⟨w.heap.size, 0, none⟩ = some (.string ke) ∧ w'.cell? ⟨w.heap.size, 1, none⟩ = some (.string ve) ∧ w'.cell? ⟨w.heap.size, 2, none⟩ = some (.int .i64 se) ∧ w'.cell? ⟨w.heap.size, 3, none⟩ = some (.bool ge)) ∧ Below w4.heap.size w4 w') := HKS
        have HAL : Hid ((w4.cell? ⟨b, o + k * 4, none⟩ = some (.string kx) ∧ w4.cell? ⟨b, o + k * 4 + 1, none⟩ = some (.string vx) ∧ w4.cell? ⟨b, o + k * 4 + 2, none⟩ = some (.int .i64 sx) ∧ w4.cell? ⟨b, o + k * 4 + 3, none⟩ = some (.bool gx)) ∧ (w4.cell? ⟨w.heap.size, 0, none⟩ = some (.string ke) ∧ w4.cell? ⟨w.heap.size, 1, none⟩ = some (.string ve) ∧ w4.cell? ⟨w.heap.size, 2, none⟩ = some (.int .i64 se) ∧ w4.cell? ⟨w.heap.size, 3, none⟩ = some (.bool ge)) ∧ Below w4.heap.size w4 w4) := HKS w4 (Below.refl _ _)
        clear HKS y0 y1 y2 y3
        go_wp2
        go_region_held3 (fun w' => (w'.cell? ⟨b, o + k * 4, none⟩ = some (.string kx) ∧ w'.cell? ⟨b, o + k * 4 + 1, none⟩ = some (.string vx) ∧ w'.cell? ⟨b, o + k * 4 + 2, none⟩ = some (.int .i64 sx) ∧ w'.cell? ⟨b, o + k * 4 + 3, none⟩ = some (.bool gx)) ∧ (w'.cell? ⟨w.heap.size, 0, none⟩ = some (.string ke) ∧ w'.cell? ⟨w.heap.size, 1, none⟩ = some (.string ve) ∧ w'.cell? ⟨w.heap.size, 2, none⟩ = some (.int .i64 se) ∧ w'.cell? ⟨w.heap.size, 3, none⟩ = some (.bool ge)) ∧ Below w4.heap.size w4 w')
          (with_reducible first | exact HAL.out | exact HKSH.out _ (Below.refl _ _).drew | exact HKSH.out _ (below_dw (by assumption)) | assumption)
          (first
            | (go_at_call 13; refine (HSA _).mono ?_; rintro e w5 ⟨rfl, hb5⟩)
            | fail)
        rename_i hh
        have HB5 : Hid (Below w.heap.size w w5) := below_bt HB4.out hh.2.2
        have HX5 : Hid (w5.heap[w.heap.size]? = some (.cells #[.string ke, .string ve, .int .i64 se, .bool ge] 24 (0, 0))) := block_below' HX4.out hh.2.2
        clear hh hb5 HKSH HAL HSA
        cases r with
        | true =>
          have HE : Hid (l' = [] ∧ E = 100) := by
            have h := HRE.out
            unfold putE at h
            rw [if_neg (by simp [HC.out]), if_neg (by simp [HO.out]), if_pos (HSM.out.2 rfl)] at h
            exact ⟨(Prod.mk.inj h).1.symm, (Prod.mk.inj h).2.symm⟩
          go_wp2
          go_ret2
          exact ⟨⟨none, 0, by rw [HE.out.1, HE.out.2]; rfl, by rw [HE.out.1]; exact eown_nil _ _⟩, HB5.out⟩
        | false =>
          have HNS : Hid (¬ (placeE l ⟨ke, ve, se, ge⟩ < l.length ∧ lessE ⟨ke, ve, se, ge⟩ (l.getD (placeE l ⟨ke, ve, se, ge⟩) zeroE) = false)) := fun h => by have := HSM.out.1 h; cases this
          generalize (some ⟨b, o, none⟩ : Option Addr) = q at *
          by_cases hmany : n = 4096
          · have HE : Hid (l' = [] ∧ E = 4) := by
              have h := HRE.out
              unfold putE at h
              rw [if_neg (by simp [HC.out]), if_neg (by simp [HO.out]), if_neg HNS.out, if_pos (by have := HN.out; omega)] at h
              exact ⟨(Prod.mk.inj h).1.symm, (Prod.mk.inj h).2.symm⟩
            have hmI : ((n : Int) == 4096) = true := by rw [hmany]; rfl
            clear hmany
            go_wp2
            go_ret2
            exact ⟨⟨none, 0, by rw [HE.out.1, HE.out.2]; rfl, by rw [HE.out.1]; exact eown_nil _ _⟩, HB5.out⟩
          · have hmI : ((n : Int) == 4096) = false := by simp; omega
            have HNM : Hid (n < 4096) := by have := HLE4.out; show _ < _; omega
            have HE : Hid (l' = insE l ⟨ke, ve, se, ge⟩ ∧ E = 0) := by
              have h := HRE.out
              unfold putE at h
              rw [if_neg (by simp [HC.out]), if_neg (by simp [HO.out]), if_neg HNS.out, if_neg (by have := HN.out; have := HNM.out; omega)] at h
              exact ⟨(Prod.mk.inj h).1.symm, (Prod.mk.inj h).2.symm⟩
            clear hmany
            have HKS : ∀ w', Below w5.heap.size w5 w' → (w'.cell? ⟨w.heap.size, 0, none⟩ = some (.string ke) ∧ w'.cell? ⟨w.heap.size, 1, none⟩ = some (.string ve) ∧ w'.cell? ⟨w.heap.size, 2, none⟩ = some (.int .i64 se) ∧ w'.cell? ⟨w.heap.size, 3, none⟩ = some (.bool ge)) ∧ Below w5.heap.size w5 w' := fun w' hb => by
              obtain ⟨q0, q1, q2, q3⟩ := four_cells (block_below' HX5.out hb)
              exact ⟨⟨q0, q1, q2, q3⟩, hb⟩
            have HKSH : Hid (∀ w', Below w5.heap.size w5 w' → (w'.cell? ⟨w.heap.size, 0, none⟩ = some (.string ke) ∧ w'.cell? ⟨w.heap.size, 1, none⟩ = some (.string ve) ∧ w'.cell? ⟨w.heap.size, 2, none⟩ = some (.int .i64 se) ∧ w'.cell? ⟨w.heap.size, 3, none⟩ = some (.bool ge)) ∧ Below w5.heap.size w5 w') := HKS
            have HAL : Hid ((w5.cell? ⟨w.heap.size, 0, none⟩ = some (.string ke) ∧ w5.cell? ⟨w.heap.size, 1, none⟩ = some (.string ve) ∧ w5.cell? ⟨w.heap.size, 2, none⟩ = some (.int .i64 se) ∧ w5.cell? ⟨w.heap.size, 3, none⟩ = some (.bool ge)) ∧ Below w5.heap.size w5 w5) := HKS w5 (Below.refl _ _)
            clear HKS
            obtain ⟨r0, r1, r2, r3⟩ := HCUT.out
            obtain ⟨M, hM⟩ : ∃ M, l.take k ++ [(⟨ke, ve, se, ge⟩ : EntV)] ++ l.drop k = M := ⟨_, rfl⟩
            have HM : Hid (l.take k ++ [(⟨ke, ve, se, ge⟩ : EntV)] ++ l.drop k = M) := hM
            obtain ⟨p', m, d, hcf, hcin, hcz, hm⟩ := r3
            have hcc : ∀ W, Below w5.heap.size w5 W → Calls Try.prog 14 #[.slice (some ⟨W.heap.size + 1, 0, none⟩) 3 3] ((W.alloc (.cells #[.string ke, .string ve, .int .i64 se, .bool ge] 24)).alloc (.cells #[.slice q k c, .slice (some ⟨W.heap.size, 0, none⟩) 1 1, .slice p' m d] 22)) fun e w' => ∃ v, e = .returned v ∧ OnB ((W.alloc (.cells #[.string ke, .string ve, .int .i64 se, .bool ge] 24)).alloc (.cells #[.slice q k c, .slice (some ⟨W.heap.size, 0, none⟩) 1 1, .slice p' m d] 22)) v M w' := fun W hW => by
              have hin : EntsIn _ q l := HQ.out.below (below_bt (below_bt HB5.out hW) (below_bt (below_alloc W (.cells #[.string ke, .string ve, .int .i64 se, .bool ge] 24)) (below_alloc _ (.cells #[.slice q k c, .slice (some ⟨W.heap.size, 0, none⟩) 1 1, .slice p' m d] 22))))
              rw [← hM]
              exact concat_any (W.heap.size + 1) q (some ⟨W.heap.size, 0, none⟩) p' k 1 m c 1 d (l.take k) [⟨ke, ve, se, ge⟩] (l.drop k) _ (heap_two _ _ _) ⟨by rw [List.length_take]; have := HN.out; have := HKN.out; omega, r2 _ hin⟩ (ents_box (block_below' (heap_alloc_new _ _) (below_alloc _ _))) ⟨by rw [List.length_drop]; have := HN.out; omega, hcin _ hin⟩ HQN.out (fun h => by cases h) hcz (by omega) (by have := HNM.out; have := HKN.out; omega)
            have HCC : Hid (∀ W, Below w5.heap.size w5 W → Calls Try.prog 14 #[.slice (some ⟨W.heap.size + 1, 0, none⟩) 3 3] ((W.alloc (.cells #[.string ke, .string ve, .int .i64 se, .bool ge] 24)).alloc (.cells #[.slice q k c, .slice (some ⟨W.heap.size, 0, none⟩) 1 1, .slice p' m d] 22)) fun e w' => ∃ v, e = .returned v ∧ OnB ((W.alloc (.cells #[.string ke, .string ve, .int .i64 se, .bool ge] 24)).alloc (.cells #[.slice q k c, .slice (some ⟨W.heap.size, 0, none⟩) 1 1, .slice p' m d] 22)) v M w') := hcc
            clear hcc hcin hcz hm r1 r2 hM
            go_wp2
            go_region_held3 (fun w' => (w'.cell? ⟨w.heap.size, 0, none⟩ = some (.string ke) ∧ w'.cell? ⟨w.heap.size, 1, none⟩ = some (.string ve) ∧ w'.cell? ⟨w.heap.size, 2, none⟩ = some (.int .i64 se) ∧ w'.cell? ⟨w.heap.size, 3, none⟩ = some (.bool ge)) ∧ Below w5.heap.size w5 w')
              (with_reducible first | exact HAL.out | exact HKSH.out _ (Below.refl _ _).drew | exact HKSH.out _ (below_alloc _ _).drew | exact HKSH.out _ (below_alloc _ _) | exact HKSH.out _ (below_bt (below_alloc _ _) (below_alloc _ _)).drew | exact HKSH.out _ (below_bt (below_alloc _ _) (below_alloc _ _)) | exact HKSH.out _ (by assumption) | exact HKSH.out _ (below_dw (by assumption)) | assumption)
              (first
                | (go_at_call 14; refine (HCC.out w5.drew (Below.refl _ _).drew).mono ?_; rintro e w6 ⟨v, rfl, hon⟩; have hb6 : Below w5.heap.size w5 w6 := below_bt (below_bt (below_bt (Below.refl _ _).drew (below_alloc _ _)) (below_alloc _ _)) hon.bel; obtain ⟨uq, uc, rfl, _, _, _⟩ := hon.own.form)
                | fail)
            rename_i hh
            have HV : Hid (EOwn w6 w.heap.size (.slice uq M.length uc) M) := own_mono hon.own (by have h1 := HB5.out.size; have h2 := (below_bt (below_alloc w5.drew (.cells #[.string ke, .string ve, .int .i64 se, .bool ge] 24)) (below_alloc _ (.cells #[.slice q k c, .slice (some ⟨w5.drew.heap.size, 0, none⟩) 1 1, .slice p' m d] 22))).size; exact Nat.le_trans h1 h2)
            have HB6 : Hid (Below w.heap.size w w6) := below_bt HB5.out hb6
            clear hh hon hb6
            go_wp2
            go_ret2
            refine ⟨⟨uq, uc, ?_, ?_⟩, HB6.out⟩
            · rw [HE.out.1, HE.out.2, HINS.out, HM.out]; rfl
            · rw [HE.out.1, HINS.out, HM.out]; exact HV.out
      · have hkI : (n : Int) ≤ (k : Int) := by omega
        have hkD : decide (k < n) = false := decide_eq_false hkn
        have HNS : Hid (¬ (placeE l ⟨ke, ve, se, ge⟩ < l.length ∧ lessE ⟨ke, ve, se, ge⟩ (l.getD (placeE l ⟨ke, ve, se, ge⟩) zeroE) = false)) := fun h => by have h1 := h.1; rw [HK.out] at h1; have := HN.out; omega
        clear hkn
        go_wp2
        go_quiet (fail)
        have HB5 : Hid (Below w.heap.size w (w4.drewN nq)) := below_drewN HB4.out nq
        have HX5 : Hid ((w4.drewN nq).heap[w.heap.size]? = some (.cells #[.string ke, .string ve, .int .i64 se, .bool ge] 24 (0, 0))) := HX4.out
        generalize w4.drewN nq = w5 at HB5 HX5 ⊢
        by_cases hmany : n = 4096
        · have HE : Hid (l' = [] ∧ E = 4) := by
            have h := HRE.out
            unfold putE at h
            rw [if_neg (by simp [HC.out]), if_neg (by simp [HO.out]), if_neg HNS.out, if_pos (by have := HN.out; omega)] at h
            exact ⟨(Prod.mk.inj h).1.symm, (Prod.mk.inj h).2.symm⟩
          have hmI : ((n : Int) == 4096) = true := by rw [hmany]; rfl
          clear hmany
          go_wp2
          go_ret2
          exact ⟨⟨none, 0, by rw [HE.out.1, HE.out.2]; rfl, by rw [HE.out.1]; exact eown_nil _ _⟩, HB5.out⟩
        · have hmI : ((n : Int) == 4096) = false := by simp; omega
          have HNM : Hid (n < 4096) := by have := HLE4.out; show _ < _; omega
          have HE : Hid (l' = insE l ⟨ke, ve, se, ge⟩ ∧ E = 0) := by
            have h := HRE.out
            unfold putE at h
            rw [if_neg (by simp [HC.out]), if_neg (by simp [HO.out]), if_neg HNS.out, if_neg (by have := HN.out; have := HNM.out; omega)] at h
            exact ⟨(Prod.mk.inj h).1.symm, (Prod.mk.inj h).2.symm⟩
          clear hmany
          have HKS : ∀ w', Below w5.heap.size w5 w' → (w'.cell? ⟨w.heap.size, 0, none⟩ = some (.string ke) ∧ w'.cell? ⟨w.heap.size, 1, none⟩ = some (.string ve) ∧ w'.cell? ⟨w.heap.size, 2, none⟩ = some (.int .i64 se) ∧ w'.cell? ⟨w.heap.size, 3, none⟩ = some (.bool ge)) ∧ Below w5.heap.size w5 w' := fun w' hb => by
            obtain ⟨q0, q1, q2, q3⟩ := four_cells (block_below' HX5.out hb)
            exact ⟨⟨q0, q1, q2, q3⟩, hb⟩
          have HKSH : Hid (∀ w', Below w5.heap.size w5 w' → (w'.cell? ⟨w.heap.size, 0, none⟩ = some (.string ke) ∧ w'.cell? ⟨w.heap.size, 1, none⟩ = some (.string ve) ∧ w'.cell? ⟨w.heap.size, 2, none⟩ = some (.int .i64 se) ∧ w'.cell? ⟨w.heap.size, 3, none⟩ = some (.bool ge)) ∧ Below w5.heap.size w5 w') := HKS
          have HAL : Hid ((w5.cell? ⟨w.heap.size, 0, none⟩ = some (.string ke) ∧ w5.cell? ⟨w.heap.size, 1, none⟩ = some (.string ve) ∧ w5.cell? ⟨w.heap.size, 2, none⟩ = some (.int .i64 se) ∧ w5.cell? ⟨w.heap.size, 3, none⟩ = some (.bool ge)) ∧ Below w5.heap.size w5 w5) := HKS w5 (Below.refl _ _)
          clear HKS
          obtain ⟨r0, r1, r2, r3⟩ := HCUT.out
          obtain ⟨M, hM⟩ : ∃ M, l.take k ++ [(⟨ke, ve, se, ge⟩ : EntV)] ++ l.drop k = M := ⟨_, rfl⟩
          have HM : Hid (l.take k ++ [(⟨ke, ve, se, ge⟩ : EntV)] ++ l.drop k = M) := hM
          obtain ⟨p', m, d, hcf, hcin, hcz, hm⟩ := r3
          have hcc : ∀ W, Below w5.heap.size w5 W → Calls Try.prog 14 #[.slice (some ⟨W.heap.size + 1, 0, none⟩) 3 3] ((W.alloc (.cells #[.string ke, .string ve, .int .i64 se, .bool ge] 24)).alloc (.cells #[.slice q k c, .slice (some ⟨W.heap.size, 0, none⟩) 1 1, .slice p' m d] 22)) fun e w' => ∃ v, e = .returned v ∧ OnB ((W.alloc (.cells #[.string ke, .string ve, .int .i64 se, .bool ge] 24)).alloc (.cells #[.slice q k c, .slice (some ⟨W.heap.size, 0, none⟩) 1 1, .slice p' m d] 22)) v M w' := fun W hW => by
            have hin : EntsIn _ q l := HQ.out.below (below_bt (below_bt HB5.out hW) (below_bt (below_alloc W (.cells #[.string ke, .string ve, .int .i64 se, .bool ge] 24)) (below_alloc _ (.cells #[.slice q k c, .slice (some ⟨W.heap.size, 0, none⟩) 1 1, .slice p' m d] 22))))
            rw [← hM]
            exact concat_any (W.heap.size + 1) q (some ⟨W.heap.size, 0, none⟩) p' k 1 m c 1 d (l.take k) [⟨ke, ve, se, ge⟩] (l.drop k) _ (heap_two _ _ _) ⟨by rw [List.length_take]; have := HN.out; have := HKN.out; omega, r2 _ hin⟩ (ents_box (block_below' (heap_alloc_new _ _) (below_alloc _ _))) ⟨by rw [List.length_drop]; have := HN.out; omega, hcin _ hin⟩ HQN.out (fun h => by cases h) hcz (by omega) (by have := HNM.out; have := HKN.out; omega)
          have HCC : Hid (∀ W, Below w5.heap.size w5 W → Calls Try.prog 14 #[.slice (some ⟨W.heap.size + 1, 0, none⟩) 3 3] ((W.alloc (.cells #[.string ke, .string ve, .int .i64 se, .bool ge] 24)).alloc (.cells #[.slice q k c, .slice (some ⟨W.heap.size, 0, none⟩) 1 1, .slice p' m d] 22)) fun e w' => ∃ v, e = .returned v ∧ OnB ((W.alloc (.cells #[.string ke, .string ve, .int .i64 se, .bool ge] 24)).alloc (.cells #[.slice q k c, .slice (some ⟨W.heap.size, 0, none⟩) 1 1, .slice p' m d] 22)) v M w') := hcc
          clear hcc hcin hcz hm r1 r2 hM
          go_wp2
          go_region_held3 (fun w' => (w'.cell? ⟨w.heap.size, 0, none⟩ = some (.string ke) ∧ w'.cell? ⟨w.heap.size, 1, none⟩ = some (.string ve) ∧ w'.cell? ⟨w.heap.size, 2, none⟩ = some (.int .i64 se) ∧ w'.cell? ⟨w.heap.size, 3, none⟩ = some (.bool ge)) ∧ Below w5.heap.size w5 w')
            (with_reducible first | exact HAL.out | exact HKSH.out _ (Below.refl _ _).drew | exact HKSH.out _ (below_alloc _ _).drew | exact HKSH.out _ (below_alloc _ _) | exact HKSH.out _ (below_bt (below_alloc _ _) (below_alloc _ _)).drew | exact HKSH.out _ (below_bt (below_alloc _ _) (below_alloc _ _)) | exact HKSH.out _ (by assumption) | exact HKSH.out _ (below_dw (by assumption)) | assumption)
            (first
              | (go_at_call 14; refine (HCC.out w5.drew (Below.refl _ _).drew).mono ?_; rintro e w6 ⟨v, rfl, hon⟩; have hb6 : Below w5.heap.size w5 w6 := below_bt (below_bt (below_bt (Below.refl _ _).drew (below_alloc _ _)) (below_alloc _ _)) hon.bel; obtain ⟨uq, uc, rfl, _, _, _⟩ := hon.own.form)
              | fail)
          rename_i hh
          have HV : Hid (EOwn w6 w.heap.size (.slice uq M.length uc) M) := own_mono hon.own (by have h1 := HB5.out.size; have h2 := (below_bt (below_alloc w5.drew (.cells #[.string ke, .string ve, .int .i64 se, .bool ge] 24)) (below_alloc _ (.cells #[.slice q k c, .slice (some ⟨w5.drew.heap.size, 0, none⟩) 1 1, .slice p' m d] 22))).size; exact Nat.le_trans h1 h2)
          have HB6 : Hid (Below w.heap.size w w6) := below_bt HB5.out hb6
          clear hh hon hb6
          go_wp2
          go_ret2
          refine ⟨⟨uq, uc, ?_, ?_⟩, HB6.out⟩
          · rw [HE.out.1, HE.out.2, HINS.out, HM.out]; rfl
          · rw [HE.out.1, HINS.out, HM.out]; exact HV.out
    · have hO1 : ((O : Int) == 0) = false := by simp; omega
      have HOp : Hid (O ≠ 0) := by show _ ≠ _; omega
      clear h0
      have HE : Hid (l' = [] ∧ E = O) := by
        have h := HRE.out
        rw [putE_one HC.out (by rw [HO.out]; exact HOp.out), HO.out] at h
        exact ⟨(Prod.mk.inj h).1.symm, (Prod.mk.inj h).2.symm⟩
      go_wp2
      go_ret2
      exact ⟨⟨none, 0, by rw [HE.out.1, HE.out.2]; rfl, by rw [HE.out.1]; exact eown_nil _ _⟩, HB3.out⟩
  · have hO1 : ((C : Int) == 0) = false := by simp; omega
    have HOp : Hid (C ≠ 0) := by show _ ≠ _; omega
    clear h0
    have HE : Hid (l' = [] ∧ E = C) := by
      have h := HRE.out
      rw [putE_bad (by rw [HC.out]; exact HOp.out), HC.out] at h
      exact ⟨(Prod.mk.inj h).1.symm, (Prod.mk.inj h).2.symm⟩
    go_wp2
    go_ret2
    exact ⟨⟨none, 0, by rw [HE.out.1, HE.out.2]; rfl, by rw [HE.out.1]; exact eown_nil _ _⟩, HB2.out⟩
end Go.Proofs.Ytbeoijlkhpbdjaa
namespace Go.Proofs.Ytbeoijlkhpbdjaa
open Go.RowKit Go.WideShapes

theorem findL_bad {l : List EntV} (h : checkE l ≠ 0) (key : ByteArray) (seq : Int) : findL l key seq = (zeroE, false, checkE l) := by unfold findL; rw [if_pos h]
set_option maxRecDepth 8000 in
set_option maxHeartbeats 2000000 in
theorem find_any (q : Option Addr) (n c : Nat) (l : List EntV) (key : ByteArray) (seq : Int) (w : World) (h : EntsL w q n l) (y : EntV) (is : Bool) (E : Nat) (hR : findL l key seq = (y, is, E)) :
    Calls Try.prog 6 #[.slice q n c, .string key, .int .i64 seq] w fun e w' => e = .returned (.tuple #[entV y, .bool is, .int .i64 (E : Int)]) ∧ Below w.heap.size w w' := by
  have HQ : Hid (EntsIn w q l) := h.lies
  have HN : Hid (n = l.length) := h.n
  obtain ⟨C, hC⟩ : ∃ C, checkE l = C := ⟨_, rfl⟩
  obtain ⟨O, hO⟩ : ∃ O, oneE (askE key seq) = O := ⟨_, rfl⟩
  obtain ⟨k, hk⟩ : ∃ k, placeE l (askE key seq) = k := ⟨_, rfl⟩
  have HKN : Hid (k ≤ n) := by have := placeE_le l (askE key seq); show _ ≤ _; have h2 := h.n; omega
  have HCK := fun w' hb => fCheck_any q n c l w' (h.below hb) C hC
  have H1 := fun w' => checkOne_any (askE key seq) w' O hO
  have HCA := fun w' (hb : Below w.heap.size w w') (h0 : Hid (C = 0)) => countAhead_any q n c l (askE key seq) w' (h.below hb) ((checkE_rise l).1 (hC.trans h0.out)).2.2 ((checkE_rise l).1 (hC.trans h0.out)).1 k hk
  have HLE4 : Hid (C = 0 → n ≤ 4096) := fun h0 => by have := ((checkE_rise l).1 (hC.trans h0)).1; have h2 := h.n; omega
  rw [show entV (askE key seq) = .agg #[.string key, .string ⟨#[]⟩, .int .i64 seq, .bool false] from rfl] at H1 HCA
  have HR : Hid ((if C ≠ 0 then (zeroE, false, C) else if O ≠ 0 then (zeroE, false, O) else if k < n ∧ (l.getD k zeroE).key = key then (l.getD k zeroE, true, 0) else (zeroE, false, 0)) = (y, is, E)) := by
    show _ = _
    rw [← hR]
    by_cases h0 : C = 0
    · rw [if_neg (by simp [h0]), findL_ask (hC.trans h0), hO, hk, ← h.n]
    · rw [if_pos h0, findL_bad (by rw [hC]; exact h0), hC]
  clear h hC hO hk hR
  go_enter Try.func6, Try.ntmps6
  go_wp2_with fail
  refine (HCK _ (below_alloc _ _)).mono ?_
  rintro e w2 ⟨rfl, hb2⟩
  have HB2 : Hid (Below w.heap.size w w2) := below_bt (below_alloc _ _) hb2
  have HR2 : Hid (w2.heap[w.heap.size]? = some (.cells #[.string ⟨#[]⟩, .string ⟨#[]⟩, .int .i64 0, .bool false] 24 (0, 0))) := block_below' (heap_alloc_new _ _) hb2
  clear hb2 HCK
  rcases Nat.eq_zero_or_pos C with h0 | h0
  · have HC0 : Hid (C = 0) := h0
    subst h0
    have HNW : Hid (Below w.heap.size w (w2.alloc (.cells #[.string key, .string ⟨#[]⟩, .int .i64 seq, .bool false] 24)) ∧ (w2.alloc (.cells #[.string key, .string ⟨#[]⟩, .int .i64 seq, .bool false] 24)).heap[w.heap.size]? = some (.cells #[.string ⟨#[]⟩, .string ⟨#[]⟩, .int .i64 0, .bool false] 24 (0, 0)) ∧ (w2.alloc (.cells #[.string key, .string ⟨#[]⟩, .int .i64 seq, .bool false] 24)).heap[w2.heap.size]? = some (.cells #[.string key, .string ⟨#[]⟩, .int .i64 seq, .bool false] 24 (0, 0))) := ⟨below_bt HB2.out (below_alloc _ _), block_below' HR2.out (below_alloc _ _), heap_alloc_new _ _⟩
    go_wp2_with fail
    refine (H1 _).mono ?_
    rintro e w3 ⟨rfl, hb3⟩
    have HB3 : Hid (Below w.heap.size w w3) := below_bt HNW.out.1 hb3
    have HR3 : Hid (w3.heap[w.heap.size]? = some (.cells #[.string ⟨#[]⟩, .string ⟨#[]⟩, .int .i64 0, .bool false] 24 (0, 0))) := block_below' HNW.out.2.1 hb3
    have HX3 : Hid (w3.heap[w2.heap.size]? = some (.cells #[.string key, .string ⟨#[]⟩, .int .i64 seq, .bool false] 24 (0, 0))) := block_below' HNW.out.2.2 hb3
    clear hb3 H1 HNW
    rcases Nat.eq_zero_or_pos O with h0 | h0
    · subst h0
      obtain ⟨x0, x1, x2, x3⟩ := four_cells HX3.out
      have hca := HCA w3 HB3.out HC0
      clear HCA
      go_wp2_with fail
      refine hca.mono ?_
      rintro e w4 ⟨rfl, hb4⟩
      have HB4 : Hid (Below w.heap.size w w4) := below_bt HB3.out hb4
      have HR4 : Hid (w4.heap[w.heap.size]? = some (.cells #[.string ⟨#[]⟩, .string ⟨#[]⟩, .int .i64 0, .bool false] 24 (0, 0))) := block_below' HR3.out hb4
      clear hb4 hca x0 x1 x2 x3
      obtain ⟨⟨z0, z1, z2, z3⟩, f0, f1, f2, f3⟩ := four HR4.out
      have kb0 : (0 : Int) ≤ (k : Int) := by omega
      by_cases hkn : k < n
      · have hkI : (k : Int) < (n : Int) := by omega
        have hkE : ((k : Int) == (n : Int)) = false := by simp; omega
        have hkE' : (k == n) = false := by simp; omega
        obtain ⟨b, o, rfl⟩ := HQ.out.addr (by have := HN.out; omega)
        obtain ⟨y0, y1, y2, y3⟩ := (HQ.out.below HB4.out).at (k := k) (by have := HN.out; omega)
        obtain ⟨mE, hm⟩ : ∃ mE, l.getD k zeroE = mE := ⟨_, rfl⟩
        rw [hm] at y0 y1 y2 y3
        have HM : Hid (l.getD k zeroE = mE) := hm
        have HKL : Hid (k < n) := hkn
        clear hm hkn
        obtain ⟨kx, vx, sx, gx⟩ := mE
        simp only at y0 y1 y2 y3
        cases hq : (kx.toList == key.toList) with
        | true =>
          have HKE : Hid (kx = key) := by show _ = _; rw [eq_str] at hq; exact of_decide_eq_true hq
          go_wp2
          (try simp only [Exit.inBlock, Exit.then])
          refine bodyPost_ret (v := .tuple #[entV ⟨kx, vx, sx, gx⟩, .bool true, .int .i64 0]) ?_ rfl ⟨by
            have h := HR.out
            rw [if_neg (by simp), if_neg (by simp), if_pos ⟨HKL.out, by rw [HM.out]; exact HKE.out⟩, HM.out] at h
            obtain ⟨rfl, rfl, rfl⟩ := (show (⟨kx, vx, sx, gx⟩ : EntV) = y ∧ true = is ∧ 0 = E from ⟨(Prod.mk.inj h).1, (Prod.mk.inj (Prod.mk.inj h).2).1, (Prod.mk.inj (Prod.mk.inj h).2).2⟩)
            rfl, ?_⟩
          · rw [results_cell_tmp2 rfl]
            go_simp
            rfl
          · exact set4_at HB4.out (Nat.le_refl _)
        | false =>
          have HKE : Hid (kx ≠ key) := by show _ ≠ _; rw [eq_str] at hq; exact of_decide_eq_false hq
          go_wp2
          (try simp only [Exit.inBlock, Exit.then])
          refine bodyPost_ret (v := .tuple #[entV zeroE, .bool false, .int .i64 0]) ?_ rfl ⟨by
            have h := HR.out
            rw [if_neg (by simp), if_neg (by simp), if_neg (fun hc => by have := hc.2; rw [HM.out] at this; exact HKE.out this)] at h
            obtain ⟨rfl, rfl, rfl⟩ := (show zeroE = y ∧ false = is ∧ 0 = E from ⟨(Prod.mk.inj h).1, (Prod.mk.inj (Prod.mk.inj h).2).1, (Prod.mk.inj (Prod.mk.inj h).2).2⟩)
            rfl, ?_⟩
          · rw [results_cell_tmp2 rfl]
            go_simp
            rfl
          · exact set4_at HB4.out (Nat.le_refl _)
      · have HKE : Hid (k = n) := by have := HKN.out; show _ = _; omega
        have hkE : ((k : Int) == (n : Int)) = true := by have := HKN.out; simp; omega
        have hkE' : (k == n) = true := by have := HKN.out; simp; omega
        clear hkn
        go_wp2
        (try simp only [Exit.inBlock, Exit.then])
        refine bodyPost_ret (v := .tuple #[entV zeroE, .bool false, .int .i64 0]) ?_ rfl ⟨by
          have h := HR.out
          rw [if_neg (by simp), if_neg (by simp), if_neg (fun hc => by have := hc.1; have := HKE.out; omega)] at h
          obtain ⟨rfl, rfl, rfl⟩ := (show zeroE = y ∧ false = is ∧ 0 = E from ⟨(Prod.mk.inj h).1, (Prod.mk.inj (Prod.mk.inj h).2).1, (Prod.mk.inj (Prod.mk.inj h).2).2⟩)
          rfl, ?_⟩
        · rw [results_cell_tmp2 rfl]
          go_simp
          rfl
        · exact set4_at HB4.out (Nat.le_refl _)
    · have hO1 : ((O : Int) == 0) = false := by simp; omega
      have HOp : Hid (O ≠ 0) := by show _ ≠ _; omega
      obtain ⟨⟨z0, z1, z2, z3⟩, f0, f1, f2, f3⟩ := four HR3.out
      clear h0
      go_wp2
      (try simp only [Exit.inBlock, Exit.then])
      refine bodyPost_ret (v := .tuple #[entV zeroE, .bool false, .int .i64 (O : Int)]) ?_ rfl ⟨by
        have h := HR.out
        rw [if_neg (by simp), if_pos HOp.out] at h
        obtain ⟨rfl, rfl, rfl⟩ := (show zeroE = y ∧ false = is ∧ O = E from ⟨(Prod.mk.inj h).1, (Prod.mk.inj (Prod.mk.inj h).2).1, (Prod.mk.inj (Prod.mk.inj h).2).2⟩)
        rfl, ?_⟩
      · rw [results_cell_tmp2 rfl]
        go_simp
        rfl
      · exact set4_at HB3.out (Nat.le_refl _)
  · have hO1 : ((C : Int) == 0) = false := by simp; omega
    have HOp : Hid (C ≠ 0) := by show _ ≠ _; omega
    obtain ⟨⟨z0, z1, z2, z3⟩, f0, f1, f2, f3⟩ := four HR2.out
    clear h0
    go_wp2
    (try simp only [Exit.inBlock, Exit.then])
    refine bodyPost_ret (v := .tuple #[entV zeroE, .bool false, .int .i64 (C : Int)]) ?_ rfl ⟨by
      have h := HR.out
      rw [if_pos HOp.out] at h
      obtain ⟨rfl, rfl, rfl⟩ := (show zeroE = y ∧ false = is ∧ C = E from ⟨(Prod.mk.inj h).1, (Prod.mk.inj (Prod.mk.inj h).2).1, (Prod.mk.inj (Prod.mk.inj h).2).2⟩)
      rfl, ?_⟩
    · rw [results_cell_tmp2 rfl]
      go_simp
      rfl
    · exact set4_at HB2.out (Nat.le_refl _)
end Go.Proofs.Ytbeoijlkhpbdjaa
namespace Go.Proofs.Ytbeoijlkhpbdjaa
open Go.RowKit Go.WideShapes


/-- The lowest k bytes of a number. -/
def putK : Nat → Nat → List Nat
  | 0, _ => []
  | k + 1, m => (m % 256) :: putK k (m / 256)
theorem putK_8 (n : Nat) (h : n < 18446744073709551616) : putK 8 n = putN n := by
  simp only [putK, putN, Nat.div_div_eq_div_mul, Nat.reduceMul]
  have : n / 72057594037927936 % 256 = n / 72057594037927936 := by omega
  rw [this]
theorem putK_step (k m : Nat) (h : k < 8) : putK (8 - k) m = (m % 256) :: putK (8 - (k + 1)) (m / 256) := by
  rw [show 8 - k = (8 - (k + 1)) + 1 from by omega]; rfl

theorem ret_two {a b : Int} {k1 k2 : IntKind} {c : Int} (h : a = b) : Ending.returned (.tuple #[.int k1 a, .int k2 c]) = .returned (.tuple #[.int k1 b, .int k2 c]) := by rw [h]
end Go.Proofs.Ytbeoijlkhpbdjaa
namespace Go.Proofs.Ytbeoijlkhpbdjaa
open Go.RowKit Go.WideShapes

theorem bl_irrefl : ∀ (a : List UInt8), Op.bytesLess a a = false
  | [] => rfl
  | x :: a => by
    unfold Op.bytesLess
    simp [UInt8.lt_irrefl x, bl_irrefl a]
set_option maxHeartbeats 1000000 in
theorem rless_any (a b : EntV) (w : World) : Calls Try.prog 16 #[entV a, entV b] w fun e w' => e = .returned (.bool (lessE a b)) ∧ Below w.heap.size w w' := by
  obtain ⟨ak, av, az, ag⟩ := a
  obtain ⟨bk, bv, bz, bg⟩ := b
  rw [entV_def, entV_def]
  obtain ⟨r, hr⟩ : ∃ r, lessE ⟨ak, av, az, ag⟩ ⟨bk, bv, bz, bg⟩ = r := ⟨_, rfl⟩
  rw [hr]
  unfold lessE at hr
  simp only at hr
  by_cases h2 : ak = bk
  · subst h2
    have HR : Hid (r = decide (bz < az)) := by show _ = _; rw [← hr, bl_irrefl]; simp
    clear hr
    go_enter Try.func16, Try.ntmps16
    go_wp2
    go_ret
    exact ⟨by rw [HR.out]; rfl, (below_alloc w _).alloc (by simp) _⟩
  · have h2' : (ak.toList == bk.toList) = false := by rw [eq_str]; simp [h2]
    have HR : Hid (r = Op.bytesLess ak.toList bk.toList) := by show _ = _; rw [← hr, h2']; simp
    clear hr h2
    go_enter Try.func16, Try.ntmps16
    go_wp2
    go_ret
    exact ⟨by rw [HR.out]; rfl, (below_alloc w _).alloc (by simp) _⟩
set_option maxHeartbeats 2000000 in
theorem rone_any (x : EntV) (w : World) (E : Nat) (hE : oneE x = E) : Calls Try.prog 15 #[entV x] w fun e w' => e = .returned (.int .i64 (E : Int)) ∧ Below w.heap.size w w' := by
  obtain ⟨k, v, s, g⟩ := x
  rw [entV_def]
  unfold oneE at hE
  simp only at hE
  by_cases h1 : k.size < 1
  · rw [if_pos (.inl h1)] at hE
    subst hE
    have q1 : (k.size : Int) < 1 := by omega
    clear h1
    go_enter Try.func15, Try.ntmps15
    go_wp2
    go_ret
    exact ⟨rfl, below_alloc _ _⟩
  · have q1 : (1 : Int) ≤ (k.size : Int) := by omega
    by_cases h2 : 256 < k.size
    · rw [if_pos (.inr h2)] at hE
      subst hE
      have q2 : (256 : Int) < (k.size : Int) := by omega
      clear h1 h2
      go_enter Try.func15, Try.ntmps15
      go_wp2
      go_ret
      exact ⟨rfl, below_alloc _ _⟩
    · rw [if_neg (by omega)] at hE
      have q2 : (k.size : Int) ≤ 256 := by omega
      clear h1 h2
      by_cases h3 : 4096 < v.size
      · rw [if_pos h3] at hE
        subst hE
        have q3 : (4096 : Int) < (v.size : Int) := by omega
        clear h3
        go_enter Try.func15, Try.ntmps15
        go_wp2
        go_ret
        exact ⟨rfl, below_alloc _ _⟩
      · rw [if_neg h3] at hE
        have q3 : (v.size : Int) ≤ 4096 := by omega
        clear h3
        by_cases h4 : s < 0
        · rw [if_pos (.inl h4)] at hE
          subst hE
          go_enter Try.func15, Try.ntmps15
          go_wp2
          go_ret
          exact ⟨rfl, below_alloc _ _⟩
        · by_cases h5 : 2147483647 < s
          · rw [if_pos (.inr h5)] at hE
            subst hE
            have q4 : 0 ≤ s := by omega
            clear h4
            go_enter Try.func15, Try.ntmps15
            go_wp2
            go_ret
            exact ⟨rfl, below_alloc _ _⟩
          · rw [if_neg (by omega)] at hE
            have q4 : 0 ≤ s := by omega
            have q5 : s ≤ 2147483647 := by omega
            clear h4 h5
            cases g with
            | false =>
              rw [if_neg (by simp)] at hE
              subst hE
              go_enter Try.func15, Try.ntmps15
              go_wp2
              go_ret
              exact ⟨rfl, below_alloc _ _⟩
            | true =>
              by_cases h6 : v = ByteArray.empty
              · rw [if_neg (by simp [h6])] at hE
                subst hE h6
                go_enter Try.func15, Try.ntmps15
                go_wp2
                go_ret
                exact ⟨rfl, below_alloc _ _⟩
              · rw [if_pos ⟨rfl, h6⟩] at hE
                subst hE
                have g5' : v.toList.isEmpty = false := nonempty_of h6
                clear h6
                go_enter Try.func15, Try.ntmps15
                go_wp2
                go_ret
                exact ⟨rfl, below_alloc _ _⟩
set_option maxRecDepth 8000 in
set_option maxHeartbeats 1000000 in
theorem rsame_yes (qa qb : Option Addr) (n ca cb : Nat) (l : List EntV) (w : World) (hn : n = l.length) (hnb : (n : Int) ≤ 1000000) (ha : EntsIn w qa l) (hb : EntsIn w qb l) :
    Calls Try.prog 10 #[.slice qa n ca, .slice qb n cb] w fun e w' => e = .returned (.bool true) ∧ Below w.heap.size w w' := by
  have HA : Hid (EntsIn w qa l) := ha
  have HB : Hid (EntsIn w qb l) := hb
  have HN : Hid (n = l.length) := hn
  clear ha hb hn
  go_enter Try.func10, Try.ntmps10
  go_wp2
  go_loopw [5] (fun i wr => ∃ k : Nat, k ≤ n ∧ i = .int .i64 k ∧ Below w.heap.size w wr) (fun i _ => n - (intOf i).toNat)
  case atStart => exact ⟨0, by omega, rfl, Below.refl _ _⟩
  case round =>
    obtain ⟨k, hk, rfl, hbel⟩ := hrel
    have HBE : Hid (Below w.heap.size w wr) := hbel
    clear hbel
    by_cases hkn : k < n
    · have g1 : decide (k < n) = true := decide_eq_true hkn
      have hkI : (k : Int) < (n : Int) := by omega
      obtain ⟨ba, oa, rfl⟩ := HA.out.addr (by have := HN.out; omega)
      obtain ⟨bb, ob, rfl⟩ := HB.out.addr (by have := HN.out; omega)
      obtain ⟨x, hx⟩ : ∃ x, l.getD k zeroE = x := ⟨_, rfl⟩
      obtain ⟨x0, x1, x2, x3⟩ := (HA.out.below HBE.out).at (k := k) (by have := HN.out; omega)
      obtain ⟨y0, y1, y2, y3⟩ := (HB.out.below HBE.out).at (k := k) (by have := HN.out; omega)
      rw [hx] at x0 x1 x2 x3 y0 y1 y2 y3
      obtain ⟨kx, vx, sx, gx⟩ := x
      simp only at x0 x1 x2 x3 y0 y1 y2 y3
      clear hx
      go_wp2
      go_quiet (fail)
      go_wp2
      go_roundw
      case rel => exact ⟨k + 1, by omega, by go_num, below_drewN HBE.out _⟩
      case measure => simp [intOf]; omega
    · have g1 : decide (k < n) = false := decide_eq_false hkn
      have hkI : (n : Int) ≤ (k : Int) := by omega
      go_wp2
      go_ret
      exact ⟨rfl, HBE.out⟩
end Go.Proofs.Ytbeoijlkhpbdjaa
