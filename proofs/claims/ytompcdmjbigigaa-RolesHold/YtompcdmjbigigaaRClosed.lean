/-
  closed, Closed (the program's).
-/
import Derived.Test.YtompcdmjbigigaaRCome
namespace Go.Proofs.Ytompcdmjbigigaa
open Go.RowKit Go.WideShapes Go.Joins Go.Maps

/-- Closed's error. -/
def clE (L : List Rl) (ns : List ByteArray) : Nat := if chkE L ≠ 0 then chkE L else if 1024 < ns.length then 4 else 0
theorem clE_bad {L : List Rl} {ns : List ByteArray} (h : chkE L ≠ 0) : clE L ns = chkE L := by unfold clE; rw [if_pos h]
theorem clE_long {L : List Rl} {ns : List ByteArray} (h : chkE L = 0) (k : 1024 < ns.length) : clE L ns = 4 := by unfold clE; rw [if_neg (by omega), if_pos k]
theorem clE_ok {L : List Rl} {ns : List ByteArray} (h : chkE L = 0) (k : ¬ 1024 < ns.length) : clE L ns = 0 := by unfold clE; rw [if_neg (by omega), if_neg k]
theorem clE_zero {L : List Rl} {ns : List ByteArray} (h : clE L ns = 0) : chkE L = 0 ∧ ns.length ≤ 1024 := by
  unfold clE at h
  split at h
  · contradiction
  · split at h
    · cases h
    · exact ⟨by omega, by omega⟩
theorem clE_cases (L : List Rl) (ns : List ByteArray) : clE L ns = 4 ∨ clE L ns = 0 ∨ clE L ns = 200 := by
  unfold clE
  split
  · exact chk_cases L
  · split
    · exact .inl rfl
    · exact .inr (.inl rfl)
/-- What closed hands back. -/
inductive ClP (w : World) (L : List Rl) (ns : List ByteArray) : Value → Prop where
  | bad : clE L ns ≠ 0 → ClP w L ns (.map none)
  | ok (b : Nat) (F : List ByteArray) : clE L ns = 0 → SetAt w b F.length F → F.length ≤ 32 → F.Nodup → (∀ a, a ∈ F ↔ Comes L ns a) → ClP w L ns (.map (some b))
set_option maxHeartbeats 4000000 in
set_option maxRecDepth 8000 in
theorem closed_any (q : Option Addr) (c : Nat) (L : List Rl) (q2 : Option Addr) (c2 : Nat) (ns : List ByteArray) (w : World) (h : RolesIn w q L c) (hn : StrsIn w q2 ns c2) :
    Calls Try.prog 22 #[.slice q L.length c, .slice q2 ns.length c2] w fun e w' => ∃ v, e = .returned (.tuple #[v, .int .i64 (clE L ns : Nat)]) ∧ ClP w' L ns v ∧ Below w.heap.size w w' := by
  have CK := Check_any q c L w h
  have hnI : (L.length : Int) ≤ 9223372036854775807 := by have := h.le; have := h.cap; unfold maxLen at this; omega
  have hmI : (ns.length : Int) ≤ 9223372036854775807 := by have := hn.le; have := hn.cap; unfold maxLen at this; omega
  have HH : Hid (RolesIn w q L c ∧ StrsIn w q2 ns c2) := ⟨h, hn⟩
  clear h hn
  obtain ⟨n, hN⟩ : ∃ n, L.length = n := ⟨_, rfl⟩
  obtain ⟨m, hM⟩ : ∃ m, ns.length = m := ⟨_, rfl⟩
  have HN : Hid (L.length = n ∧ ns.length = m) := ⟨hN, hM⟩
  rw [hN] at CK hnI ⊢
  rw [hM] at hmI ⊢
  clear hN hM
  rcases chk_cases L with hE | hE | hE
  · have HE : Hid (chkE L = 4 ∧ clE L ns = 4) := ⟨hE, by rw [clE_bad (by omega), hE]⟩
    rw [hE] at CK
    clear hE
    go_enter Try.func22, Try.ntmps22
    go_wp2_with fail
    refine CK.mono ?_
    rintro e w1 ⟨rfl, hb1⟩
    simp only []
    go_wp2_with fail
    go_ret2
    exact ⟨_, by rw [HE.out.2]; rfl, .bad (by have := HE.out; omega), hb1⟩
  · by_cases hm : 1024 < m
    · have HE : Hid (chkE L = 0 ∧ clE L ns = 4) := ⟨hE, clE_long hE (by have := HN.out; omega)⟩
      have mI : (1024 : Int) < (m : Int) := by omega
      rw [hE] at CK
      clear hE hm
      go_enter Try.func22, Try.ntmps22
      go_wp2_with fail
      refine CK.mono ?_
      rintro e w1 ⟨rfl, hb1⟩
      simp only []
      go_wp2_with fail
      go_ret2
      exact ⟨_, by rw [HE.out.2]; rfl, .bad (by have := HE.out; omega), hb1⟩
    · have HE : Hid (chkE L = 0 ∧ clE L ns = 0 ∧ m ≤ 1024) := ⟨hE, clE_ok hE (by have := HN.out; omega), by omega⟩
      have mI : ¬ (1024 : Int) < (m : Int) := by omega
      rw [hE] at CK
      clear hE hm
      go_enter Try.func22, Try.ntmps22
      go_wp2_with fail
      refine CK.mono ?_
      rintro e w1 ⟨rfl, hb1⟩
      simp only []
      have HB1 : Hid _ := hb1
      have HL := held_any q c L w1 (HH.out.1.below hb1) (fit_of HE.out.1)
      rw [HN.out.1] at HL
      clear CK hb1
      go_wp2_with fail
      refine HL.mono ?_
      rintro e w2 ⟨hb, D, bs, rfl, hI, hb2⟩
      simp only []
      have HB2 : Hid (Below w.heap.size w w2) := below_more HB1.out hb2
      have CM := comeTo_any w1.heap.size hb L D bs q2 c2 ns w2 (by rw [HN.out.1]; exact hI) (HH.out.2.below HB2.out) (fit_of HE.out.1) (by have := HE.out; have := HN.out; omega)
      rw [HN.out.2] at CM
      clear HL hI hb2
      go_wp2_with fail
      refine CM.mono ?_
      rintro e w3 ⟨b, F, rfl, hs, hnd, hm, hb3⟩
      simp only []
      have hle : F.length ≤ 32 := by
        have h1 := nodup_len (m := nmL L) hnd fun a ha => ((hm a).1 ha).mem
        have h2 := (fit_of HE.out.1).few
        simp [nmL] at h1; omega
      have HF : Hid (SetAt w3 b F.length F ∧ F.length ≤ 32 ∧ F.Nodup ∧ (∀ a, a ∈ F ↔ Comes L ns a) ∧ Below w2.heap.size w2 w3) := ⟨hs, hle, hnd, hm, hb3⟩
      clear CM hs hnd hm hb3 hle
      go_wp2_with fail
      go_ret2
      exact ⟨_, by rw [HE.out.2.1]; rfl, .ok b F HE.out.2.1 HF.out.1 HF.out.2.1 HF.out.2.2.1 HF.out.2.2.2.1, below_more HB2.out HF.out.2.2.2.2⟩
  · have HE : Hid (chkE L = 200 ∧ clE L ns = 200) := ⟨hE, by rw [clE_bad (by omega), hE]⟩
    rw [hE] at CK
    clear hE
    go_enter Try.func22, Try.ntmps22
    go_wp2_with fail
    refine CK.mono ?_
    rintro e w1 ⟨rfl, hb1⟩
    simp only []
    go_wp2_with fail
    go_ret2
    exact ⟨_, by rw [HE.out.2]; rfl, .bad (by have := HE.out; omega), hb1⟩
/-- What Closed tells. -/
structure ClA (L : List Rl) (ns out : List ByteArray) : Prop where
  bad : clE L ns ≠ 0 → out = []
  ok : clE L ns = 0 → IsCl L ns out
theorem ClA.one {L : List Rl} {ns o1 o2 : List ByteArray} (h : ClA L ns o1) (k : ClA L ns o2) : o1 = o2 := by
  by_cases e : clE L ns = 0
  · exact (h.ok e).one (k.ok e)
  · rw [h.bad e, k.bad e]
theorem ClA.few {L : List Rl} {ns out : List ByteArray} (h : ClA L ns out) : out.length ≤ 32 := by
  by_cases e : clE L ns = 0
  · have h1 := nodup_len (m := nmL L) (rise_nodup (h.ok e).rise) fun a ha => (((h.ok e).mem a).1 ha).mem
    have h2 := (fit_of (clE_zero e).1).few
    simp [nmL] at h1; omega
  · rw [h.bad e]; simp
set_option maxHeartbeats 4000000 in
set_option maxRecDepth 8000 in
theorem Closed_any (q : Option Addr) (c : Nat) (L : List Rl) (q2 : Option Addr) (c2 : Nat) (ns : List ByteArray) (w : World) (h : RolesIn w q L c) (hn : StrsIn w q2 ns c2) :
    Calls Try.prog 15 #[.slice q L.length c, .slice q2 ns.length c2] w fun e w' => ∃ v out, e = .returned (.tuple #[v, .int .i64 (clE L ns : Nat)]) ∧ OwnS w' w.heap.size v out ∧ ClA L ns out ∧ Below w.heap.size w w' := by
  have CL := closed_any q c L q2 c2 ns w h hn
  clear h hn
  have HE : Hid (clE L ns = 4 ∨ clE L ns = 0 ∨ clE L ns = 200) := clE_cases L ns
  generalize L.length = n at CL ⊢
  generalize ns.length = m at CL ⊢
  generalize hE : clE L ns = E at CL
  have HEE : Hid (clE L ns = E) := hE
  go_enter Try.func15, Try.ntmps15
  go_wp2_with fail
  refine CL.mono ?_
  rintro e w1 ⟨v, rfl, hP, hb1⟩
  simp only []
  have HB1 : Hid (Below w.heap.size w w1) := hb1
  clear CL hb1
  cases hP with
  | bad h0 =>
    have hEI : ((E : Int) == 0) = false := by
      rw [hE] at h0; simpa using fun e : (E : Int) = 0 => h0 (by omega)
    have H0 : Hid (clE L ns ≠ 0) := h0
    clear hE h0
    go_wp2_with fail
    go_ret2
    exact ⟨_, [], rfl, OwnS.nil _ _, ⟨fun _ => rfl, fun e => absurd e H0.out⟩, HB1.out⟩
  | ok b F h0 hs hl hnd hm =>
    obtain rfl : E = 0 := hE.symm.trans h0
    have H0 : Hid (clE L ns = 0 ∧ SetAt w1 b F.length F ∧ F.length ≤ 32 ∧ F.Nodup ∧ (∀ a, a ∈ F ↔ Comes L ns a)) := ⟨h0, hs, hl, hnd, hm⟩
    have KY := keys_any (some b) w1
    clear hE h0 hs hl hnd hm
    go_wp2_with fail
    refine KY.mono ?_
    rintro e w2 ⟨rfl, rfl⟩
    simp only []
    clear KY
    have hx0 := (Boxed.new w1 54 (.map (some b))).cell
    have b2 := below_new w1 (.cells #[.map (some b)] 54)
    have SR := sorted_any w1.heap.size b F.length F _ (by simp) hx0 (H0.out.2.1.below b2) (by have := H0.out.2.2.1; omega)
    have HB2 : Hid _ := b2
    clear hx0 b2
    go_wp2_with fail
    refine SR.mono ?_
    rintro e w3 ⟨v, out, rfl, ho, hr, hm, hb3⟩
    obtain ⟨q5, c5, rfl⟩ := ownsRow_slice ho.row
    simp only []
    have HO : Hid (OwnS w3 (w1.alloc (.cells #[.map (some b)] 54)).heap.size (.slice q5 out.length c5) out ∧ Rise out ∧ (∀ s, s ∈ out ↔ s ∈ F) ∧ Below (w1.alloc (.cells #[.map (some b)] 54)).heap.size (w1.alloc (.cells #[.map (some b)] 54)) w3) := ⟨ho, hr, hm, hb3⟩
    clear SR ho hr hm hb3
    go_wp2_with fail
    go_ret2
    refine ⟨_, out, rfl, HO.out.1.more (by have := HB1.out.size; simp; omega), ⟨fun e => absurd H0.out.1 e, fun _ => ⟨HO.out.2.1, fun a => ?_⟩⟩, below_more (below_more HB1.out HB2.out) HO.out.2.2.2⟩
    rw [HO.out.2.2.1 a, H0.out.2.2.2.2 a]
end Go.Proofs.Ytompcdmjbigigaa
