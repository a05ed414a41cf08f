/-
  The document's asked: marks.
-/
import Derived.Test.YtompcdmjbigigaaRDChk
import Derived.Laws.MakeOwn
import Derived.Deep.OwnRows
import Derived.Lib.SmallJoins
namespace Go.Proofs.Ytompcdmjbigigaa
open Go.RowKit Go.WideShapes Go.Joins Go.Maps

/-- Marks in a block. -/
def MarkAt (w : World) (mb : Nat) (M : List Bool) : Prop := w.heap[mb]? = some (.cells (M.map Value.bool).toArray 4 (0, 0))
theorem MarkAt.cell {w : World} {mb : Nat} {M : List Bool} (h : MarkAt w mb M) {i : Nat} (hi : i < M.length) : w.cell? ⟨mb, i, none⟩ = some (.bool (mkd M i)) := by
  have := Lib.cell_of_heap h i
  rw [this]
  simp only [List.getElem?_toArray, List.getElem?_map]
  unfold mkd
  rw [List.getD_eq_getElem?_getD, List.getElem?_eq_getElem hi]; rfl
theorem MarkAt.frozen {w : World} {mb : Nat} {M : List Bool} (h : MarkAt w mb M) (i : Nat) : w.frozen? ⟨mb, i, none⟩ = false := by
  have h' : w.heap[mb]? = _ := h
  simp [World.frozen?, h']
theorem MarkAt.set {w : World} {mb : Nat} {M : List Bool} (h : MarkAt w mb M) (i : Nat) : MarkAt (w.setCell ⟨mb, i, none⟩ (.bool true)) mb (M.set i true) := by
  have := block_setCell h (i := i) (.bool true)
  unfold MarkAt
  rw [this]
  simp
theorem MarkAt.below {w w' : World} {mb : Nat} {M : List Bool} (h : MarkAt w mb M) (hb : Below w.heap.size w w') : MarkAt w' mb M := box_below h hb
theorem made_marks (n : Nat) (hn : n ≤ 1000) (w : World) : (Instr.makeSlice 65 (.int .i64 (n : Int)) (.int .i64 (n : Int))).run Try.prog w = .ok (.slice (some ⟨w.heap.size, 0, none⟩) n n) (w.alloc (.cells (Array.replicate n (.bool false)) 4)) := by
  have hmd : madeCells #[.bool false] n = Array.replicate n (.bool false) := by
    refine Array.ext (by simp [size_madeCells]) fun i h1 h2 => ?_
    simp [madeCells, Nat.mod_one]
  rw [← hmd]
  exact run_make_row' (P := Try.prog) 65 4 (.bool false) 1 Try.underlying65 (by kernel_rfl) rfl .i64 .i64 n (by omega) (by omega) w
/-- What asked hands back. -/
inductive AskP (w : World) (L : List Rl) (ns : List ByteArray) (n : Nat) : Value → Prop where
  | bad : clE L ns ≠ 0 → AskP w L ns n (.slice none 0 0)
  | ok (mb : Nat) (M : List Bool) : clE L ns = 0 → M.length = n → MarkAt w mb M → (∀ j, j < L.length → (mkd M j = true ↔ Comes L ns (nmA L j))) → AskP w L ns n (.slice (some ⟨mb, 0, none⟩) n n)
/-- Behind the first k names. -/
structure AskI (L : List Rl) (ns : List ByteArray) (M : List Bool) (k : Nat) : Prop where
  len : M.length = L.length
  sound : ∀ j, j < L.length → mkd M j = true → Comes L ns (nmA L j)
  all : ∀ j, j < L.length → nmA L j ∈ ns.take k → mkd M j = true
theorem AskI.start (L : List Rl) (ns : List ByteArray) : AskI L ns (List.replicate L.length false) 0 := by
  refine ⟨by simp, fun j hj h => ?_, fun j _ h => ?_⟩
  · unfold mkd at h
    rw [List.getD_eq_getElem?_getD, List.getElem?_replicate, if_pos hj] at h
    cases h
  · simp at h
theorem marks_zero (w : World) (n : Nat) : MarkAt (w.alloc (.cells (Array.replicate n (.bool false)) 4)) w.heap.size (List.replicate n false) := by
  have := _root_.Go.heap_alloc_new w (.cells (Array.replicate n (.bool false)) 4)
  unfold MarkAt
  rw [this]
  simp
theorem AskI.skip {L : List Rl} {ns : List ByteArray} {M : List Bool} {k : Nat} (h : AskI L ns M k) (hk : k < ns.length) (hx : ns.getD k ByteArray.empty ∉ nmL L) : AskI L ns M (k + 1) :=
  ⟨h.len, h.sound, fun j hj hm => by
    rw [take_snoc ns ByteArray.empty hk] at hm
    rcases List.mem_append.1 hm with h1 | h1
    · exact h.all j hj h1
    · exact absurd (List.mem_singleton.1 h1 ▸ nmA_mem hj) hx⟩
theorem AskI.put {L : List Rl} (hn : (nmL L).Nodup) {ns : List ByteArray} {M : List Bool} {k i : Nat} (h : AskI L ns M k) (hk : k < ns.length) (hi : i < L.length) (e : nmA L i = ns.getD k ByteArray.empty) : AskI L ns (M.set i true) (k + 1) := by
  have hl : i < M.length := by rw [h.len]; exact hi
  refine ⟨by rw [List.length_set]; exact h.len, fun j hj hm => ?_, fun j hj hm => ?_⟩
  · rw [mkd_set _ _ _ hl] at hm
    by_cases hji : j = i
    · subst hji
      exact .here (e ▸ getB_mem hk) (nmA_mem hj)
    · rw [decide_eq_false hji, Bool.false_or] at hm
      exact h.sound j hj hm
  · rw [mkd_set _ _ _ hl]
    rw [take_snoc ns ByteArray.empty hk] at hm
    rcases List.mem_append.1 hm with h1 | h1
    · rw [h.all j hj h1, Bool.or_true]
    · rw [decide_eq_true (nm_one hn hj hi ((List.mem_singleton.1 h1).trans e.symm)), Bool.true_or]
theorem AskI.rd {L : List Rl} {ns : List ByteArray} {M : List Bool} {k : Nat} (h : AskI L ns M k) (hk : ns.length ≤ k) : Rd L ns M 0 :=
  ⟨h.len, h.sound, fun j hj hm => h.all j hj (by rwa [List.take_of_length_le hk]), .inr (Nat.zero_le _)⟩
set_option maxHeartbeats 4000000 in
set_option maxRecDepth 8000 in
theorem asked_any (q : Option Addr) (c : Nat) (L : List Rl) (q2 : Option Addr) (c2 : Nat) (ns : List ByteArray) (w : World) (h : RolesIn w q L c) (hn : StrsIn w q2 ns c2) :
    Calls Try.prog 30 #[.slice q L.length c, .slice q2 ns.length c2] w fun e w' => ∃ v, e = .returned (.tuple #[v, .int .i64 (clE L ns : Nat)]) ∧ AskP w' L ns L.length v ∧ Below w.heap.size w w' := by
  have CK := dCheck_any q c L w h
  have hnI : (L.length : Int) ≤ 9223372036854775807 := by have := h.le; have := h.cap; unfold maxLen at this; omega
  have hmI : (ns.length : Int) ≤ 9223372036854775807 := by have := hn.le; have := hn.cap; unfold maxLen at this; omega
  have HH : Hid (RolesIn w q L c ∧ StrsIn w q2 ns c2) := ⟨h, hn⟩
  clear h hn
  obtain ⟨n, hN⟩ : ∃ n, L.length = n := ⟨_, rfl⟩
  obtain ⟨m, hM⟩ : ∃ m, ns.length = m := ⟨_, rfl⟩
  have HN : Hid (L.length = n ∧ ns.length = m) := ⟨hN, hM⟩
  rw [hN] at CK hnI ⊢
  rw [hM] at hmI ⊢
  clear hN hM
  rcases chk_cases L with hE | hE | hE
  · have HE : Hid (chkE L = 4 ∧ clE L ns = 4) := ⟨hE, by rw [clE_bad (by omega), hE]⟩
    rw [hE] at CK
    clear hE
    go_enter Try.func30, Try.ntmps30
    go_wp2_with fail
    refine CK.mono ?_
    rintro e w1 ⟨rfl, rfl⟩
    simp only []
    go_wp2_with fail
    go_ret2
    exact ⟨_, by rw [HE.out.2]; rfl, .bad (by have := HE.out; omega), Below.refl _ _⟩
  · by_cases hm : 1024 < m
    · have HE : Hid (chkE L = 0 ∧ clE L ns = 4) := ⟨hE, clE_long hE (by have := HN.out; omega)⟩
      have mI : (1024 : Int) < (m : Int) := by omega
      rw [hE] at CK
      clear hE hm
      go_enter Try.func30, Try.ntmps30
      go_wp2_with fail
      refine CK.mono ?_
      rintro e w1 ⟨rfl, rfl⟩
      simp only []
      go_wp2_with fail
      go_ret2
      exact ⟨_, by rw [HE.out.2]; rfl, .bad (by have := HE.out; omega), Below.refl _ _⟩
    · have HE : Hid (chkE L = 0 ∧ clE L ns = 0 ∧ m ≤ 1024 ∧ Fit L) := ⟨hE, clE_ok hE (by have := HN.out; omega), by omega, fit_of hE⟩
      have mI : ¬ (1024 : Int) < (m : Int) := by omega
      have mI2 : (m : Int) ≤ 1024 := by omega
      have nI2 : (n : Int) ≤ 32 := by have := HE.out.2.2.2.few; have := HN.out; omega
      rw [hE] at CK
      clear hE hm
      go_enter Try.func30, Try.ntmps30
      go_wp2_with fail
      refine CK.mono ?_
      rintro e w1 ⟨rfl, hw⟩
      subst hw
      simp only []
      clear CK
      have hmk := made_marks n (by omega) w1
      have HM0 : Hid (MarkAt (w1.alloc (.cells (Array.replicate n (.bool false)) 4)) w1.heap.size (List.replicate n false) ∧ Below w1.heap.size w1 (w1.alloc (.cells (Array.replicate n (.bool false)) 4))) := ⟨marks_zero _ _, below_new _ _⟩
      go_wp2_with fail
      clear hmk
      go_loopw [8] (fun t wr => ∃ (k : Nat) (M : List Bool), k ≤ m ∧ t = .int .i64 (k : Int) ∧ MarkAt wr w1.heap.size M ∧ AskI L ns M k ∧ Below w1.heap.size w1 wr) (fun t _ => m - (intOf t).toNat)
      case atStart => exact ⟨0, List.replicate n false, Nat.zero_le _, rfl, HM0.out.1, by rw [← HN.out.1]; exact AskI.start L ns, HM0.out.2⟩
      case round =>
        obtain ⟨k, M, hk, rfl, hM, hA, hb⟩ := hrel
        generalize wr = wo at hM hb ⊢
        have HI : Hid (MarkAt wo w1.heap.size M ∧ AskI L ns M k ∧ Below w1.heap.size w1 wo) := ⟨hM, hA, hb⟩
        clear hM hA
        by_cases hlt : k < m
        · have hkI : (k : Int) < (m : Int) := by omega
          have hk0 : (0 : Int) ≤ (k : Int) := by omega
          have HK : Hid (k < m ∧ k < ns.length) := ⟨hlt, by have := HN.out; omega⟩
          have hen := HH.out.2.below hb
          obtain ⟨fb, fo, rfl⟩ := hen.addr (by have := HK.out; omega)
          have z0 := hen.at (i := k) HK.out.2
          have PL := place_any q c L (ns.getD k ByteArray.empty) wo (HH.out.1.below hb)
          rw [HN.out.1] at PL
          generalize hx : ns.getD k ByteArray.empty = x at z0 PL
          have HX : Hid (ns.getD k ByteArray.empty = x) := hx
          clear hk hlt hen hx hb
          go_wp2_with fail
          refine PL.mono ?_
          rintro e w3 ⟨z, rfl, hp, hw⟩
          subst hw
          simp only []
          clear PL
          cases hp with
          | no hp =>
            have HP : Hid (x ∉ nmL L) := hp
            clear hp
            go_wp2_with fail
            go_roundw
            case rel => exact ⟨k + 1, M, HK.out.1, by go_num, HI.out.1, HI.out.2.1.skip HK.out.2 (by rw [HX.out]; exact HP.out), HI.out.2.2⟩
            case measure => have := HK.out; simp [intOf]; omega
          | «at» i hi hnm _ =>
            have HP : Hid (i < L.length ∧ nmA L i = x ∧ i < M.length) := ⟨hi, hnm, by rw [HI.out.2.1.len]; exact hi⟩
            have iI : (i : Int) < (n : Int) := by have := HN.out; omega
            have i0 : (0 : Int) ≤ (i : Int) := by omega
            have ni : ¬ (i : Int) < 0 := by omega
            have c0 := HI.out.1.cell HP.out.2.2
            have f0 := HI.out.1.frozen i
            clear hi hnm
            go_wp2_with fail
            go_roundw
            case rel => exact ⟨k + 1, M.set i true, HK.out.1, by go_num, HI.out.1.set i, HI.out.2.1.put HE.out.2.2.2.nodup HK.out.2 HP.out.1 (HP.out.2.1.trans HX.out.symm), HI.out.2.2.setCell (p := ⟨w1.heap.size, i, none⟩) (Nat.le_refl _) _⟩
            case measure => have := HK.out; simp [intOf]; omega
        · obtain rfl : k = m := by omega
          have HR : Hid (Rd L ns M 0) := HI.out.2.1.rd (by have := HN.out; omega)
          clear hk hlt hb
          go_wp2_with fail
          have HW : Hid (MarkAt wo w1.heap.size M ∧ Below w1.heap.size w1 wo) := ⟨HI.out.1, HI.out.2.2⟩
          go_loopw [10] (fun t wr => ∃ (r : Nat) (M : List Bool), r ≤ n ∧ t = .int .i64 (r : Int) ∧ MarkAt wr w1.heap.size M ∧ Rd L ns M r ∧ Below w1.heap.size w1 wr) (fun t _ => n - (intOf t).toNat)
          case atStart => exact ⟨0, M, Nat.zero_le _, rfl, HW.out.1, HR.out, HW.out.2⟩
          case round =>
            obtain ⟨r, M0, hr, rfl, hM, hA, hb⟩ := hrel
            generalize wr = wo2 at hM hb ⊢
            have HI2 : Hid (MarkAt wo2 w1.heap.size M0 ∧ Rd L ns M0 r ∧ Below w1.heap.size w1 wo2) := ⟨hM, hA, hb⟩
            clear hM hA hb
            by_cases hlt : r < n
            · have rI : (r : Int) < (n : Int) := by omega
              have r0 : (0 : Int) ≤ (r : Int) := by omega
              have HKR : Hid (r < n) := hlt
              clear hr hlt
              go_wp2_with fail
              go_loopw [11] (fun t wr => ∃ (i : Nat) (M : List Bool), i ≤ n ∧ t = .int .i64 (i : Int) ∧ MarkAt wr w1.heap.size M ∧ Pass L ns M0 M i ∧ Below w1.heap.size w1 wr) (fun t _ => n - (intOf t).toNat)
              case atStart => exact ⟨0, M0, Nat.zero_le _, rfl, HI2.out.1, HI2.out.2.1.pass, HI2.out.2.2⟩
              case round =>
                obtain ⟨i, M1, hi, rfl, hM, hA, hb⟩ := hrel
                generalize wr = wo3 at hM hb ⊢
                have HI3 : Hid (MarkAt wo3 w1.heap.size M1 ∧ Pass L ns M0 M1 i ∧ Below w1.heap.size w1 wo3) := ⟨hM, hA, hb⟩
                clear hM hA hb
                by_cases hlt : i < n
                · have iI : (i : Int) < (n : Int) := by omega
                  have i0 : (0 : Int) ≤ (i : Int) := by omega
                  have HKI : Hid (i < n ∧ i < L.length) := ⟨hlt, by have := HN.out; omega⟩
                  obtain ⟨fb, fo, rfl⟩ := HH.out.1.addr (by have := HKI.out; omega)
                  obtain ⟨hq, hc, mq, mc, hr⟩ := HH.out.1.at (i := i) HKI.out.2
                  obtain ⟨hl, hhl⟩ : ∃ hl, (L.getD i zR).holds.length = hl := ⟨_, rfl⟩
                  have HRI : Hid (w1.cell? ⟨fb, fo + i * 3 + 1, none⟩ = some (.slice hq hl hc) ∧ StrsIn w1 hq (L.getD i zR).holds hc ∧ (L.getD i zR).holds.length = hl ∧ hl ≤ 32) := ⟨by rw [← hhl]; exact hr.c1, hr.h, hhl, by rw [← hhl]; exact HE.out.2.2.2.hl _ (rl_mem HKI.out.2)⟩
                  have hlI : (hl : Int) ≤ 32 := by have := HRI.out.2.2.2; omega
                  clear hi hlt hr hhl
                  go_wp2_with fail
                  go_loopw [12] (fun t wr => ∃ (k : Nat) (M : List Bool), k ≤ hl ∧ t = .int .i64 (k : Int) ∧ MarkAt wr w1.heap.size M ∧ PassK L ns M0 M i k ∧ Below w1.heap.size w1 wr) (fun t _ => hl - (intOf t).toNat)
                  case atStart => exact ⟨0, M1, Nat.zero_le _, rfl, HI3.out.1, HI3.out.2.1.k, HI3.out.2.2⟩
                  case round =>
                    obtain ⟨k2, M2, hk, rfl, hM, hA, hb⟩ := hrel
                    generalize wr = wo4 at hM hb ⊢
                    have HI4 : Hid (MarkAt wo4 w1.heap.size M2 ∧ PassK L ns M0 M2 i k2 ∧ Below w1.heap.size w1 wo4 ∧ k2 ≤ hl) := ⟨hM, hA, hb, hk⟩
                    have c0 := hM.cell (i := i) (by rw [hA.p.len]; exact HKI.out.2)
                    clear hA hM hk
                    cases hmi : mkd M2 i with
                    | false =>
                      have HMI : Hid (mkd M2 i = false) := hmi
                      rw [hmi] at c0
                      clear hmi hb
                      go_wp2_with fail
                      go_roundw
                      case rel => exact ⟨i + 1, M2, HKI.out.1, by go_num, HI4.out.1, HI4.out.2.1.done (.inl HMI.out), HI4.out.2.2.1⟩
                      case measure => have := HKI.out; simp [intOf]; omega
                    | true =>
                      have HMI : Hid (mkd M2 i = true) := hmi
                      rw [hmi] at c0
                      have z1 := below_cell HRI.out.1 hb
                      by_cases hlt : k2 < hl
                      · have kI : (k2 : Int) < (hl : Int) := by omega
                        have k0 : (0 : Int) ≤ (k2 : Int) := by omega
                        have HKK : Hid (k2 < hl ∧ k2 < (L.getD i zR).holds.length) := ⟨hlt, by have := HRI.out; omega⟩
                        have hen := HRI.out.2.1.below hb
                        obtain ⟨gb, go, rfl⟩ := hen.addr (by have := HKK.out; omega)
                        have y0 := hen.at (i := k2) HKK.out.2
                        have PL := place_any (some ⟨fb, fo, none⟩) c L ((L.getD i zR).holds.getD k2 ByteArray.empty) wo4 (HH.out.1.below hb)
                        rw [HN.out.1] at PL
                        have HIN : Hid ((L.getD i zR).holds.getD k2 ByteArray.empty ∈ nmL L) := HE.out.2.2.2.held _ (rl_mem HKI.out.2) _ (getB_mem HKK.out.2)
                        generalize hx : (L.getD i zR).holds.getD k2 ByteArray.empty = x at y0 PL
                        have HX : Hid ((L.getD i zR).holds.getD k2 ByteArray.empty = x) := hx
                        clear hlt hen hx hb hmi
                        go_wp2_with fail
                        refine PL.mono ?_
                        rintro e w3 ⟨z, rfl, hp, hw⟩
                        subst hw
                        simp only []
                        clear PL
                        cases hp with
                        | no hp => exact absurd (HX.out ▸ HIN.out) hp
                        | «at» j hj hnm _ =>
                          have HP : Hid (j < L.length ∧ nmA L j = x ∧ j < M2.length) := ⟨hj, hnm, by rw [HI4.out.2.1.p.len]; exact hj⟩
                          have jI : (j : Int) < (n : Int) := by have := HN.out; omega
                          have j0 : (0 : Int) ≤ (j : Int) := by omega
                          have d0 := HI4.out.1.cell HP.out.2.2
                          have f0 := HI4.out.1.frozen j
                          clear hj hnm c0
                          go_wp2_with fail
                          go_roundw
                          case rel => exact ⟨k2 + 1, M2.set j true, HKK.out.1, by go_num, HI4.out.1.set j, HI4.out.2.1.next HE.out.2.2.2.nodup HKI.out.2 HMI.out HKK.out.2 HP.out.1 (HP.out.2.1.trans HX.out.symm), HI4.out.2.2.1.setCell (p := ⟨w1.heap.size, j, none⟩) (Nat.le_refl _) _⟩
                          case measure => have := HKK.out; simp [intOf]; omega
                      · obtain rfl : k2 = hl := by have := HI4.out; omega
                        clear hlt hb hmi
                        go_wp2_with fail
                        go_roundw
                        case rel => exact ⟨i + 1, M2, HKI.out.1, by go_num, HI4.out.1, HI4.out.2.1.done (.inr (by have := HRI.out; omega)), HI4.out.2.2.1⟩
                        case measure => have := HKI.out; simp [intOf]; omega
                · obtain rfl : i = n := by omega
                  clear hi hlt
                  go_wp2_with fail
                  go_roundw
                  case rel => exact ⟨r + 1, M1, HKR.out, by go_num, HI3.out.1, HI2.out.2.1.next (by rw [HN.out.1]; exact HI3.out.2.1), HI3.out.2.2⟩
                  case measure => have := HKR.out; simp [intOf]; omega
            · obtain rfl : r = n := by omega
              clear hr hlt
              go_wp2_with fail
              go_ret2
              exact ⟨_, by rw [HE.out.2.1]; rfl, .ok w1.heap.size M0 HE.out.2.1 (HI2.out.2.1.len.trans HN.out.1) HI2.out.1 (Rd.end (by rw [HN.out.1]; exact HI2.out.2.1)), HI2.out.2.2⟩
  · have HE : Hid (chkE L = 200 ∧ clE L ns = 200) := ⟨hE, by rw [clE_bad (by omega), hE]⟩
    rw [hE] at CK
    clear hE
    go_enter Try.func30, Try.ntmps30
    go_wp2_with fail
    refine CK.mono ?_
    rintro e w1 ⟨rfl, rfl⟩
    simp only []
    go_wp2_with fail
    go_ret2
    exact ⟨_, by rw [HE.out.2]; rfl, .bad (by have := HE.out; omega), Below.refl _ _⟩
end Go.Proofs.Ytompcdmjbigigaa
