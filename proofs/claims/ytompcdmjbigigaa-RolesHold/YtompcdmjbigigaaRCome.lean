/-
  What names come to: the program's worklist.
-/
import Derived.Test.YtompcdmjbigigaaRApq
import Derived.Test.YtompcdmjbigigaaRHeld
import Derived.Deep.LoopGhost
import Derived.Lib.SliceRun
namespace Go.Proofs.Ytompcdmjbigigaa
open Go.RowKit Go.WideShapes Go.Joins Go.Maps

theorem strs_news {w : World} {q : Addr} {l : List ByteArray} {c : Nat} (h : StrsIn w (some q) l c) : ∀ j u, (l.map Value.string)[j]? = some u → w.cell? (q.add j) = some u := by
  intro j u hj
  rw [List.getElem?_map] at hj
  cases hx : l[j]? with
  | none => rw [hx] at hj; cases hj
  | some x =>
    rw [hx] at hj
    cases hj
    have hlt : j < l.length := (List.getElem?_eq_some_iff.1 hx).1
    obtain ⟨b, o, rfl⟩ : ∃ b o, q = ⟨b, o, none⟩ := by
      obtain ⟨b, o, e⟩ := h.addr (by omega)
      exact ⟨b, o, Option.some.inj e⟩
    have := h.at (i := j) hlt
    rw [List.getD_eq_getElem?_getD, hx] at this
    by_cases h0 : j = 0
    · subst h0; simpa [Addr.add] using this
    · simpa [Addr.add, h0] using this
theorem one_strs (l : List ByteArray) : ∀ u ∈ l.map Value.string, u.oneCell' = true := by
  intro u hu
  obtain ⟨s, _, rfl⟩ := List.mem_map.1 hu
  simp [Value.oneCell']
set_option maxHeartbeats 1000000 in
set_option maxRecDepth 8000 in
theorem clone_any (q : Option Addr) (c : Nat) (l : List ByteArray) (w : World) (h : StrsIn w q l c) (hl : l.length ≤ 1000000) :
    Calls Try.prog 44 #[.slice q l.length c] w fun e w' => ∃ v, e = .returned v ∧ OwnS w' w.heap.size v l ∧ Below w.heap.size w w' := by
  obtain ⟨i0, hi, hz0, hz1, hz2⟩ := info_parts info_str
  have hq : ∀ (w : World) (a : Option Addr) (n c n' c' : Nat), (binOp .eql 27 (.slice a n c) (.slice none n' c')).run Try.prog w = .ok (.bool a.isNone) w := fun w a n c n' c' => Lib.run_eql_slice_nil w _ _ a n c n' c' Try.underlying27
  cases q with
  | none =>
    obtain ⟨rfl, rfl⟩ := strs_none h
    clear h
    go_enter Try.func44, Try.ntmps44
    go_wp2_with fail
    go_ret
    exact ⟨_, rfl, OwnS.nil _ _, Below.refl _ _⟩
  | some a =>
    have HF : Hid (∀ s ∈ l, s.size ≤ maxLen) := h.fits
    have hb := below_new w (.cells #[] 9)
    have h2 := h.below hb
    have hnews := strs_news h2
    have hr := World.ownsRow_made (base := w.heap.size) (e := 9) (size := 1) w #[] 0 (Nat.le_refl _) (Nat.zero_le _) rfl
    obtain ⟨n, hn⟩ : ∃ n, l.length = n := ⟨_, rfl⟩
    have hlm : (l.map Value.string).length = n * 1 := by simp [hn]
    rw [hn] at hl ⊢
    have hone := one_strs l
    have HN0 : Hid (l.length = n) := hn
    generalize hnw : l.map Value.string = news at hnews hlm hone
    have HNW : Hid (l.map Value.string = news) := hnw
    clear hnw hn
    clear h h2
    go_enter Try.func44, Try.ntmps44
    go_wp2_with (first
      | (at_builtin; refine wpList_append_own _ rfl _ _ 27 rfl w.heap.size 9 i0 (.string ⟨#[]⟩) 1 16 Try.underlying27 hi hz0 hz1 hz2 rfl (by decide) _ 0 [] rfl hr a n _ news rfl hlm hnews hone (by unfold maxLen; omega) (by omega) (by simp) ?_; intro v' w1 hown' hgrow hnil'; obtain ⟨q', c', rfl⟩ := ownsRow_slice hown')
      | fail)
    go_ret
    have e0 : 0 + n = n := Nat.zero_add n
    rw [e0, List.nil_append] at hown'
    refine ⟨_, rfl, ⟨?_, HF.out⟩, below_of_grown hb hgrow (Nat.le_refl _)⟩
    rw [HN0.out, HNW.out]
    exact hown'
theorem map_at {H : Type} {P : Program} {k : TypeId} {R : Value → Option (DataW H × List MemPlace)} {w w' : World} {b n : Nat} {D : DataW H} (h : w.ownsMap P k R b n D) (hb : w'.heap[b]? = w.heap[b]?) : w'.ownsMap P k R b n D := by
  obtain ⟨es, clock, h0, F, hs, hD⟩ := h
  exact ⟨es, clock, hb.trans h0, F, hs, hD⟩
theorem HeldIn.low {w w' : World} {base hb k n₀ : Nat} {L : List Rl} {D : DataW Unit} {bs : Nat → Nat} (h : HeldIn w base hb L k D bs) (hg : Below n₀ w w') (h1 : hb < n₀) (h2 : ∀ i, i < k → bs i < n₀) : HeldIn w' base hb L k D bs :=
  ⟨map_at h.own (hg.block _ h1), h.isM, h.at', h.has, fun i hi => map_at (h.sets i hi) (hg.block _ (h2 i hi)), h.ne⟩
set_option maxHeartbeats 4000000 in
set_option maxRecDepth 8000 in
theorem comeTo_any (b0 kb : Nat) (L : List Rl) (D : DataW Unit) (bs : Nat → Nat) (q : Option Addr) (c : Nat) (ns : List ByteArray) (w : World) (hI : HeldIn w b0 kb L L.length D bs) (hn : StrsIn w q ns c) (hf : Fit L) (hns : ns.length ≤ 1024) :
    Calls Try.prog 33 #[.map (some kb), .slice q ns.length c] w fun e w' => ∃ b F, e = .returned (.map (some b)) ∧ SetAt w' b F.length F ∧ F.Nodup ∧ (∀ a, a ∈ F ↔ Comes L ns a) ∧ Below w.heap.size w w' := by
  have hmm := @run_makeMap Try.prog
  have hb1 := below_new w (.map #[] 0)
  have CL := clone_any q c ns _ (hn.below hb1) (by omega)
  have HH : Hid (HeldIn w b0 kb L L.length D bs ∧ Fit L ∧ ns.length ≤ 1024) := ⟨hI, hf, hns⟩
  have HB1 : Hid _ := hb1
  obtain ⟨nn, hnn⟩ : ∃ nn, ns.length = nn := ⟨_, rfl⟩
  rw [hnn] at CL ⊢
  clear hI hn hf hns hb1
  go_enter Try.func33, Try.ntmps33
  go_wp2_with fail
  refine CL.mono ?_
  rintro e w1 ⟨v, rfl, ho, hbl⟩
  obtain ⟨q1, c1, rfl⟩ := ownsRow_slice ho.row
  rw [hnn] at ho ⊢
  simp only []
  have HS : Hid (SetAt (w.alloc (.map #[] 0)) w.heap.size 0 []) := World.ownsMap_made (H := Unit) w Try.prog 9 unitElem
  have HO : Hid (OwnS w1 (w.alloc (.map #[] 0)).heap.size (.slice q1 nn c1) ns ∧ Below (w.alloc (.map #[] 0)).heap.size (w.alloc (.map #[] 0)) w1) := ⟨ho, hbl⟩
  clear hmm CL ho hbl
  have hnn2 := hnn
  have HN : Hid (ns.length = nn) := hnn2
  have I0 : OwnS w1 (w.heap.size + 1) (.slice q1 nn c1) ns ∧ SetAt w1 w.heap.size 0 [] ∧ HeldIn w1 b0 kb L L.length D bs ∧ Below w.heap.size w w1 ∧ w.heap.size < w1.heap.size := by
    have h1 := HO.out.1
    rw [World.size_alloc] at h1
    exact ⟨h1, HS.out.below HO.out.2, (HH.out.1.below HB1.out).below HO.out.2, below_more HB1.out HO.out.2, by have := HO.out.2.size; simp at this; omega⟩
  have HI0 : Hid _ := I0
  clear I0 hnn hnn2
  go_wp2_with fail
  go_loopg [6] (32 * 33 + 1024) (fun gk t wr => ∃ F W q2 n2 c2, t = .slice q2 n2 c2 ∧ W.length = n2 ∧ OwnS wr (w.heap.size + 1) (.slice q2 n2 c2) W ∧ SetAt wr w.heap.size F.length F ∧ Wk L ns F W ∧ HeldIn wr b0 kb L L.length D bs ∧ Below w.heap.size w wr ∧ w.heap.size < wr.heap.size ∧ W.length + 33 * (32 - F.length) ≤ gk ∧ W.length ≤ 1024 + 32 * F.length)
  case atStart =>
    refine ⟨[], ns, q1, nn, c1, rfl, HN.out, HI0.out.1, HI0.out.2.1, Wk.start L ns, HI0.out.2.2.1, HI0.out.2.2.2.1, HI0.out.2.2.2.2, ?_, ?_⟩
    · have := HH.out.2.2; simp; omega
    · have := HH.out.2.2; simp; omega
  case round =>
    obtain ⟨F, W, q2, n2, c2, rfl, hW, hO, hS, hK, hI, hbl, hlt, hg, hl⟩ := hrel
    generalize wr = wo at hO hS hI hbl hlt ⊢
    have HR : Hid (OwnS wo (w.heap.size + 1) (.slice q2 n2 c2) W ∧ SetAt wo w.heap.size F.length F ∧ Wk L ns F W ∧ HeldIn wo b0 kb L L.length D bs ∧ Below w.heap.size w wo ∧ w.heap.size < wo.heap.size ∧ W.length + 33 * (32 - F.length) ≤ gk ∧ W.length ≤ 1024 + 32 * F.length ∧ W.length = n2) := ⟨hO, hS, hK, hI, hbl, hlt, hg, hl, hW⟩
    clear hO hS hK hI hbl hlt hg hl
    rcases List.eq_nil_or_concat W with rfl | ⟨W, x, rfl⟩
    · obtain rfl : n2 = 0 := by simpa using hW.symm
      clear hW
      go_wp2_with fail
      go_ret
      refine ⟨_, _, rfl, HR.out.2.1, HR.out.2.2.1.nodup, HR.out.2.2.1.done, HR.out.2.2.2.2.1⟩
    · rw [List.concat_eq_append] at HR hW
      obtain ⟨m, rfl⟩ : ∃ m, n2 = m + 1 := ⟨W.length, by simpa using hW.symm⟩
      have hWm : W.length = m := by simpa using hW
      obtain ⟨hcut, -, hq2⟩ := HR.out.1.cut
      obtain ⟨q3, c3, e3, hst, h3⟩ := HR.out.1.read
      simp only [List.length_append, List.length_singleton, Value.slice.injEq] at e3
      obtain ⟨rfl, -, rfl⟩ := e3
      obtain ⟨g, rfl, hg1, hg2, hg3⟩ : ∃ g, q2 = some ⟨g, 0, none⟩ ∧ w.heap.size + 1 ≤ g ∧ g < wo.heap.size ∧ wo.frozen? ⟨g, 0, none⟩ = false := by
        rcases h3 with h3 | h3
        · exact absurd h3 hq2
        · exact h3
      have c0 := hst.at (i := m) (by simp; omega)
      have hx : (W ++ [x]).getD m ByteArray.empty = x := by
        rw [List.getD_eq_getElem?_getD, List.getElem?_append_right (by omega), hWm]; simp
      rw [hx, Nat.zero_add] at c0
      have hxs := HR.out.1.fits x (by simp)
      have hkey := key_of x hxs
      have hown := HR.out.2.2.2.1.own
      have hm1 : (m : Int) < 2100 := by have := HR.out.2.2.2.2.2.2.2.1; have := HR.out.2.2.1.few; have := HH.out.2.1.few; simp at *; omega
      have hm0 : (0 : Int) ≤ (m : Int) := by omega
      have hmc : m ≤ c2 := by have := hst.le; simp at this; omega
      have HC : Hid (OwnS wo (w.heap.size + 1) (.slice (some ⟨g, 0, none⟩) m c2) W ∧ W.length = m) := ⟨by rw [← hWm]; exact hcut, hWm⟩
      have hhas := HR.out.2.2.2.1.has x
      clear hcut hst h3 hx hW hWm hg1 hg2 hg3 hq2
      have HHs : Hid (Maps.has D (litS x) = isIn ((nmL L).take L.length) x) := hhas
      clear hhas
      by_cases hin : x ∈ nmL L
      · obtain ⟨i, hi, hnm⟩ := nmA_of hin
        have hhas : Maps.has D (litS x) = true := by
          rw [HHs.out, show L.length = (nmL L).length by simp [nmL], List.take_length]
          exact isIn_iff.2 hin
        have hat := HR.out.2.2.2.1.at' i hi
        rw [hnm] at hat
        have HX : Hid (x ∈ nmL L ∧ i < L.length ∧ nmA L i = x ∧ x.size ≤ maxLen) := ⟨hin, hi, hnm, hxs⟩
        clear hin hi hnm hxs
        have HA := fun v h => has_any w.heap.size F.length F x wo HX.out.2.2.2 HR.out.2.1 v h
        cases hf : isIn F x with
        | true =>
          have HF : Hid (isIn F x = true) := hf
          have HA := HA true hf
          clear hf
          go_wp2_with (first
            | (at_lookup; refine wpList_lookup_own_ok _ rfl _ _ 70 rfl 9 54 map_keyed Try.underlying70 mapE (set_zero _) .nil [] rfl kb L.length D rfl hown _ _ rfl hkey ?_; intro v ps hv; rw [hat] at hv; obtain rfl := mapE_inv hv; rw [hhas])
            | fail)
          refine HA.mono ?_
          rintro e w2 ⟨rfl, hb2⟩
          simp only []
          go_wp2_with fail
          go_roundg (gk - 1)
          case measure => have := HR.out.2.2.2.2.2.2.1; simp at this; omega
          case rel =>
            have hr := HR.out
            simp only [List.length_append, List.length_singleton] at hr
            exact ⟨F, W, _, m, c2, rfl, HC.out.2, HC.out.1.below hb2, hr.2.1.below hb2, hr.2.2.1.skip (.inr (isIn_iff.1 HF.out)), hr.2.2.2.1.below hb2, below_more hr.2.2.2.2.1 hb2, by have := hb2.size; omega, by omega, by omega⟩
        | false =>
          have HF : Hid (isIn F x = false) := hf
          have HA := HA false hf
          clear hf
          go_wp2_with (first
            | (at_lookup; refine wpList_lookup_own_ok _ rfl _ _ 70 rfl 9 54 map_keyed Try.underlying70 mapE (set_zero _) .nil [] rfl kb L.length D rfl hown _ _ rfl hkey ?_; intro v ps hv; rw [hat] at hv; obtain rfl := mapE_inv hv; rw [hhas])
            | fail)
          refine HA.mono ?_
          rintro e w2 ⟨rfl, hb2⟩
          simp only []
          clear hat hhas hown c0 hkey HA
          have hFL := HR.out.2.2.1.less HX.out.1 (isIn_not.1 HF.out)
          have PT := put_any w.heap.size F.length F x w2 HX.out.2.2.2 (HR.out.2.1.below hb2) (by have := HH.out.2.1.few; unfold maxLen; omega)
          have HB2 : Hid (Below wo.heap.size wo w2 ∧ F.length < L.length) := ⟨hb2, hFL⟩
          clear hb2 hFL
          go_wp2_with fail
          refine PT.mono ?_
          rintro e w3 ⟨rfl, hs3, hg3⟩
          simp only []
          clear PT
          have KY := keys_any (some (bs i)) w3
          have hlow := HH.out.1.lt
          have h3 : HeldIn w3 b0 kb L L.length D bs := (HR.out.2.2.2.1.below HB2.out.1).kept hg3 (by have := hlow.1; omega) (fun j hj => by have := hlow.2 j hj; omega)
          have o3 : OwnS w3 (w.heap.size + 1) (.slice (some ⟨g, 0, none⟩) m c2) W := (HC.out.1.below HB2.out.1).kept hg3 (fun j e => by cases e; omega)
          have b3 : Below w.heap.size w w3 := below_of_grown (below_more HR.out.2.2.2.2.1 HB2.out.1) hg3 (Nat.le_refl _)
          have s3 : w.heap.size < w3.heap.size := Nat.lt_of_lt_of_le HR.out.2.2.2.2.2.1 (Nat.le_trans HB2.out.1.size hg3.size)
          have HS3 : Hid (SetAt w3 w.heap.size (F.length + 1) (F ++ [x]) ∧ HeldIn w3 b0 kb L L.length D bs ∧ OwnS w3 (w.heap.size + 1) (.slice (some ⟨g, 0, none⟩) m c2) W ∧ Below w.heap.size w w3 ∧ w.heap.size < w3.heap.size) := ⟨hs3, h3, o3, b3, s3⟩
          clear hs3 hg3 hlow h3 o3 b3 s3
          go_wp2_with fail
          refine KY.mono ?_
          rintro e w4 ⟨rfl, rfl⟩
          simp only []
          clear KY
          have b4 := below_new w3 (.cells #[.map (some (bs i))] 54)
          have hx0 := (Boxed.new w3 54 (.map (some (bs i)))).cell
          have hl0 : (L.getD i zR).holds.length ≤ 32 := HH.out.2.1.hl _ (rl_mem HX.out.2.1)
          have AQ := appendSeq_any (w.heap.size + 1) (.slice (some ⟨g, 0, none⟩) m c2) W w3.heap.size (bs i) _ _ _ (HS3.out.2.2.1.below b4) (by have := HS3.out.2.2.2.2; simp; omega) (by simp) hx0 ((HS3.out.2.1.sets i HX.out.2.1).below b4) (by omega) (by have := HC.out.2; omega)
          have HL0 : Hid ((L.getD i zR).holds.length ≤ 32) := hl0
          have HB4 : Hid _ := b4
          clear hx0 hl0 b4
          go_wp2_with fail
          refine AQ.mono ?_
          rintro e w5 ⟨v5, ks, rfl, ho5, hm5, hl5, hb5⟩
          obtain ⟨q5, c5, rfl⟩ := ownsRow_slice ho5.row
          simp only []
          clear AQ
          have HO5 : Hid (OwnS w5 (w.heap.size + 1) (.slice q5 (W ++ ks).length c5) (W ++ ks) ∧ (∀ s, s ∈ ks ↔ s ∈ (L.getD i zR).holds) ∧ ks.length ≤ (L.getD i zR).holds.length ∧ Below (w.heap.size + 1) (w3.alloc (.cells #[.map (some (bs i))] 54)) w5) := ⟨ho5, hm5, hl5, hb5⟩
          clear ho5 hm5 hl5 hb5
          go_wp2_with fail
          go_roundg (gk - 1)
          case measure => have := HR.out.2.2.2.2.2.2.1; simp at this; omega
          case rel =>
            have hr := HR.out
            simp only [List.length_append, List.length_singleton] at hr
            have hlow := HH.out.1.lt
            have ho5 := HO5.out
            have hs3 := HS3.out
            have hl0 := HL0.out
            have hfl := HB2.out.2
            have hfw := HH.out.2.1.few
            refine ⟨F ++ [x], W ++ ks, q5, _, c5, rfl, rfl, ho5.1, ?_, ?_, (hs3.2.1.below HB4.out).low ho5.2.2.2 (by have := hlow.1; omega) (fun j hj => by have := hlow.2 j hj; omega), ?_, ?_, ?_, ?_⟩
            · rw [List.length_append, List.length_singleton]
              exact map_at (hs3.1.below HB4.out) (ho5.2.2.2.block _ (by omega))
            · have := hr.2.2.1
              rw [← HX.out.2.2.1] at this ⊢
              exact this.put HH.out.2.1.nodup (rl_mem HX.out.2.1) (by rw [show (L.getD i zR).name = x from HX.out.2.2.1]; exact isIn_not.1 HF.out) ho5.2.1
            · exact (below_more hs3.2.2.2.1 HB4.out).trans (ho5.2.2.2.mono (by omega))
            · have h1 := ho5.2.2.2.size
              simp at h1
              omega
            · simp only [List.length_append, List.length_singleton]
              omega
            · simp only [List.length_append, List.length_singleton]
              omega
      · have hno : isIn ((nmL L).take L.length) x = false := by
          rw [show L.length = (nmL L).length by simp [nmL], List.take_length]
          exact isIn_not.2 hin
        have hhas : Maps.has D (litS x) = false := HHs.out.trans hno
        have HX : Hid (x ∉ nmL L) := hin
        clear hno hin hxs
        go_wp2_with (first
          | (at_lookup; refine wpList_lookup_own_ok _ rfl _ _ 70 rfl 9 54 map_keyed Try.underlying70 mapE (set_zero _) .nil [] rfl kb L.length D rfl hown _ _ rfl hkey ?_; intro v ps hv; rw [hhas])
          | fail)
        go_roundg (gk - 1)
        case measure => have := HR.out.2.2.2.2.2.2.1; simp at this; omega
        case rel =>
          have hr := HR.out
          simp only [List.length_append, List.length_singleton] at hr
          exact ⟨F, W, _, m, c2, rfl, HC.out.2, HC.out.1, hr.2.1, hr.2.2.1.skip (.inl HX.out), hr.2.2.2.1, hr.2.2.2.2.1, hr.2.2.2.2.2.1, by omega, by omega⟩
end Go.Proofs.Ytompcdmjbigigaa
