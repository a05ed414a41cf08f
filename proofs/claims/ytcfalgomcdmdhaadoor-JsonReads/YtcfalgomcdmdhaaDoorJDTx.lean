/-
  The document's reader: text.
-/
import Derived.Test.YtcfalgomcdmdhaaDoorJDTm
import Derived.Deep.RegionLaw
namespace Go.Proofs.YtcfalgomcdmdhaaDoor
open Go.RowKit Go.WideShapes Go.Joins

theorem ss_grownD {w w' : World} {Z : Nat → Prop} {q : Option Addr} {ss : List ByteArray} {g : Nat} (h : SsIn w Z q ss) (hg : w.grownBy w' (some g)) (hz : ∀ b, Z b → b ≠ g) : SsIn w' Z q ss :=
  h.mono fun _ _ z hc => ⟨hg.cell hc (fun e => hz _ z (Option.some.inj e)), z⟩
theorem own_below {w w' : World} {base n : Nat} {v : Value} {xs : List Value} (h : w.ownsRow base 5 1 v n xs) (hb : Below w.heap.size w w') : w'.ownsRow base 5 1 v n xs :=
  h.kept (grown_below hb none) (by cases hv : v.ownBlock with | none => exact .inl rfl | some k => exact .inr (by simp))
theorem own_reader {w w' : World} {base n b : Nat} {v : Value} {xs : List Value} (h : w.ownsRow base 5 1 v n xs) (hg : w.grownBy w' (some b)) (hb : b < base) : w'.ownsRow base 5 1 v n xs :=
  h.kept hg (.inr fun e => by have := h.lt _ e; omega)
theorem step_append_string {ops : Array Oper} {o : Oper} {a : Act} {w : World} {K : Act → World → Prop} {Q : Exit → Act → World → Prop} {E : Prop} (hgd : o.guard = none) (s x : Operand)
    (ho : o.op = .call { callee := .builtin .append, args := #[s, x], argTypes := #[62, 9] }) (base : Nat) (v : Value) (xs : List Nat) (t : ByteArray) (hs : a.eval s = v) (hx : a.eval x = .string t)
    (hown : w.ownsRow base 5 1 v xs.length (Bs xs)) (hlen : xs.length + t.size ≤ 140737488355328) (hbase : base ≤ w.heap.size)
    (h : ∀ v' w', w'.ownsRow base 5 1 v' (xs ++ numsOf t).length (Bs (xs ++ numsOf t)) → w.grownBy w' v.ownBlock → K (a.put o.dst v') w') : if Region.wanted o (yielded ops a.tmps) = true then Oper.wp Tryd.prog o a w K Q else E := by
  obtain ⟨i0, hi, hz0, hz1, hz2⟩ := info_parts info5j
  have hw : Region.wanted o (yielded ops a.tmps) = true := by simp [Region.wanted, hgd]
  rw [if_pos hw]
  obtain ⟨v', w', hr, h2, h3, _⟩ := Lib.run_append_own_string (P := Tryd.prog) w base 62 9 o.type 5 i0 Tryd.underlying62 Tryd.underlying9 hi hz0 hz1 hz2 v xs.length (Bs xs) hown t (by unfold maxLen; omega) hlen hbase
  unfold Oper.wp execOp
  simp only [ho, resolve, invoke, builtin, Sem.run_bind, Sem.run_pure, Result.andThen_ok, List.map_toArray, List.map_cons, List.map_nil, hs, hx, hr]
  refine h v' w' ?_ h3
  rw [List.length_append, numsOf_len, Bs_app, ← strCells_Bs]
  exact h2
theorem grown_own {w w5 w6 : World} {b : Nat} {r : Option Nat} (h : w.grownBy w5 (some b)) (hg : w5.grownBy w6 r) (hr : ∀ k, r = some k → w.heap.size ≤ k) : w.grownBy w6 (some b) :=
  ⟨hg.os.trans h.os, hg.tape.trans h.tape, hg.output.trans h.output, Nat.le_trans h.size hg.size, fun k hk hne => (hg.block k (Nat.lt_of_lt_of_le hk h.size) (fun e => by have := hr k e.symm; omega)).trans (h.block k hk hne)⟩
theorem DIn.own {w w' : World} {b n base : Nat} {S : ByteArray} {dp : Nat} {σ : RS} {v : Value} {xs : List Value} (h : DIn w b S dp σ) (ho : w.ownsRow base 5 1 v n xs) (hg : w.grownBy w' v.ownBlock) (hb : b < base) : DIn w' b S dp σ :=
  h.at (hg.block b h.lt (fun e => by have := ho.lt b e.symm; omega))
theorem dead_no {α : Type} {p : J.Rd α} {σ : RS} {t : ByteArray} {e : Nat} (h : (goR p σ).1 = .dead t e) : (goR p σ).2 = none := by
  cases hg : goR p σ with
  | mk σ1 o =>
    cases o with
    | none => rfl
    | some v =>
      obtain ⟨s, i, j, _, e2⟩ := goR_live hg
      rw [hg] at h
      rw [e2] at h
      cases h
/-- what text answers -/
structure DTxP (b : Nat) (S : ByteArray) (dp : Nat) (T : RS × Option (List Nat)) (w : World) (e : Ending) (w' : World) : Prop where
  ex : ∃ str : ByteArray, e = .returned (.string str) ∧ (∀ v, T.2 = some v → numsOf str = v) ∧ DIn w' b S dp T.1 ∧ w.grownBy w' (some b)
/-- Between two characters of a text. -/
inductive DTxI (ns : List (List Nat)) (T : RS × Option (List Nat)) (b : Nat) (S : ByteArray) (dp : Nat) (w : World) (gk : Nat) (t : Value) (wr : World) : Prop where
  | intro (v : Value) (ht : v = t) (σ : RS) (xs : List Nat) (n : Nat) (hr : DIn wr b S dp σ) (ho : wr.ownsRow w.heap.size 5 1 v xs.length (Bs xs)) (hg : w.grownBy wr (some b)) (hx : ∀ c ∈ xs, c < 256) (he : goR (J.textN ns n xs) σ = T)
      (hl : ∀ s i, σ = .live s i → xs.length ≤ 4 * i ∧ s.size - i < n ∧ s.size - i < gk) (hd : xs.length ≤ 100000)
/-- Between two names that may not be. -/
inductive DTnI (ss : List ByteArray) (xs : List Nat) (b dp : Nat) (s : ByteArray) (i : Nat) (wr : World) (g2 : Nat) (t : Value) (w' : World) : Prop where
  | intro (k : Nat) (ht : Value.int .i64 (k : Int) = t) (hk : k + g2 = ss.length) (hr : DIn w' b s dp (if xs ∈ (ss.take k).map numsOf then (RS.live s i).refuse 160 else .live s i))
      (h1 : w'.cell? ⟨b, 1, none⟩ = some (.int .i64 (i : Int))) (hg : wr.grownBy w' (some b))
theorem str_is {nm : ByteArray} {xs : List Nat} (hx : ∀ c ∈ xs, c < 256) : (nm.toList == (strOf xs).toList) = decide (numsOf nm = xs) := by
  by_cases h : numsOf nm = xs
  · have : nm = strOf xs := by rw [← h, strOf_nums]
    rw [decide_eq_true h]
    exact (Lib.bytes_beq_iff _ _).2 this
  · rw [decide_eq_false h]
    exact (Lib.bytes_beq_false_iff _ _).2 fun e => h (by rw [e, nums_strOf hx])
theorem take_in {ss : List ByteArray} {xs : List Nat} {k : Nat} (hk : k < ss.length) : xs ∈ (ss.take (k + 1)).map numsOf ↔ (xs ∈ (ss.take k).map numsOf ∨ numsOf (ss.getD k ByteArray.empty) = xs) := by
  rw [List.take_succ_eq_append_getElem hk, List.map_append, List.mem_append, List.getD_eq_getElem?_getD, List.getElem?_eq_getElem hk]
  simp only [List.map_cons, List.map_nil, List.mem_singleton, Option.getD_some]
  exact ⟨fun h => h.elim .inl (fun e => .inr e.symm), fun h => h.elim .inl (fun e => .inr e.symm)⟩
theorem text_dead {α : Type} {p : J.Rd α} {t : ByteArray} {e : Nat} : goR p (.dead t e) = (.dead t e, none) := rfl
set_option maxHeartbeats 8000000 in
set_option maxRecDepth 8000 in
theorem dtext_any (F : Nat) (hF : 20001 ≤ F) (b : Nat) (S : ByteArray) (dp : Nat) (q : Option Addr) (c : Nat) (ss : List ByteArray) (Z : Nat → Prop) (σ : RS) (w : World) (h : DIn w b S dp σ) (hs : SsIn w Z q ss) (hz : ∀ k, Z k → k ≠ b) (hn : ss.length ≤ 100000) :
    Calls Tryd.prog 72 #[rp b, .slice q ss.length c] w fun e w' => DTxP b S dp (goR (J.text F (ss.map numsOf)) σ) w e w' := by
  have N0 := need_any b S dp 34 34 ⟨by decide, by decide⟩ σ w h
  have hT : goR (J.text F (ss.map numsOf)) σ = goR (J.textN (ss.map numsOf) F []) (goR (J.need 34 34) σ).1 := need_then 34 34 _ σ
  have HB : Hid (b < w.heap.size) := h.lt
  have HZ : Hid (∀ k, Z k → k ≠ b) := hz
  have HSS : Hid (SsIn w Z q ss ∧ ss.length ≤ 100000) := ⟨hs, hn⟩
  rw [hT]
  generalize (((goR (J.need 34 34) σ).2.getD 0 : Nat) : Int) = V0 at N0
  generalize (goR (J.need 34 34) σ).1 = σm at N0 ⊢
  obtain ⟨T, hTT⟩ : ∃ T, goR (J.textN (ss.map numsOf) F []) σm = T := ⟨_, rfl⟩
  rw [hTT]
  simp only [show (((34 : Nat) : Int)) = 34 from rfl] at N0
  unfold rp at N0 ⊢
  clear h hT hz hs
  go_enter Tryd.func72, Tryd.ntmps72
  go_wp2_with fail
  refine N0.mono ?_
  rintro e w1 ⟨rfl, h1, g1⟩
  clear N0
  simp only []
  go_wp2_with fail
  go_loopg [5] F (fun gk v wr => DTxI (ss.map numsOf) T b S dp w gk v wr)
  case atStart => exact ⟨_, rfl, σm, [], F, h1, World.ownsRow_nil _ _ _ _, g1, by simp, hTT, fun s i e => by subst e; have h2 := h1.sz; obtain rfl := h1.is; exact ⟨by simp, by omega, by omega⟩, by simp⟩
  case round =>
    clear h1 g1 hTT
    obtain ⟨v, rfl, σ1, xs, n, hr, ho, hg, hx, he, hl, hd⟩ := hrel
    obtain ⟨i0, at0, hi0, hat0, hb0, hlv, hdd⟩ := hr.ex
    have c2 : wr.cell? ⟨b, 2, none⟩ = some (.int .i64 (σ1.e : Int)) := by rw [cell_of_block hb0]; rfl
    cases σ1 with
    | dead s e =>
      simp only [RS.e] at c2
      have he0 : ((e : Int) == 0) = false := by
        have := hr.ok.1
        simpa using fun x : (e : Int) = 0 => this (by omega)
      have HE : Hid (DTxP b S dp T w (.returned (.string ⟨#[]⟩)) wr) := ⟨_, rfl, (fun v hv => by rw [← he, text_dead] at hv; cases hv), (by rw [← he, text_dead]; exact hr), hg⟩
      clear hr ho hg hx he hl hd hi0 hat0 hb0 hlv hdd
      go_wp2_with fail
      go_ret
      exact HE.out
    | live s i =>
      simp only [RS.e] at c2
      rw [show (((0 : Nat) : Int)) = 0 from rfl] at c2
      obtain ⟨hl1, hl2, hl3⟩ := hl s i rfl
      obtain ⟨n', rfl⟩ : ∃ n', n = n' + 1 := ⟨n - 1, by omega⟩
      obtain rfl := hr.is
      have hsz := hr.sz
      have hile : i ≤ s.size := hr.ok
      have N1 := next_any b s dp (.live s i) wr hr
      have hnp := nx_pk (.live s i)
      have hpl := pk_lt (.live s i)
      obtain ⟨V, hV⟩ : ∃ V, RS.nx (.live s i) = V := ⟨_, rfl⟩
      rw [hV] at N1
      have HV : Hid (RS.nx (.live s i) = V ∧ (RS.live s i).ok) := ⟨hV, hr.ok⟩
      have HNP : Hid ((V = ((RS.live s i).pk : Int) ∨ (V = -1 ∧ (RS.live s i).pk = 0)) ∧ (RS.live s i).pk < 256) := ⟨by rw [← hV]; exact hnp, hpl⟩
      have HC : Hid (∀ w', Below wr.heap.size wr w' → w'.cell? ⟨b, 1, none⟩ = some (.int .i64 (i : Int)) ∧ w'.frozen? ⟨b, 1, none⟩ = false ∧ w'.cell? ⟨b, 2, none⟩ = some (.int .i64 0) ∧ DIn w' b s dp (.live s i)) := fun w' hb =>
        ⟨(hr.below hb).c1, (hr.below hb).fz 1, by have := hb.cell (World.block_lt_of_cell? _ _ c2); exact this.trans c2, hr.below hb⟩
      have HQ : Hid (xs.length ≤ 4 * i ∧ s.size - i < n' + 1 ∧ s.size - i < gk ∧ s.size ≤ 20000 ∧ i ≤ s.size ∧ (∀ c ∈ xs, c < 256) ∧ goR (J.textN (ss.map numsOf) (n' + 1) xs) (.live s i) = T ∧ w.grownBy wr (some b)) := ⟨hl1, hl2, hl3, hsz, hile, hx, he, hg⟩
      have HOW : Hid (∀ w', wr.grownBy w' (some b) → w'.ownsRow w.heap.size 5 1 v xs.length (Bs xs)) := fun w' hg' => own_reader ho hg' HB.out
      have fin : Hid (∀ (σ2 : RS) (ys : List Nat) (v2 : Value) (w3 : World), DIn w3 b s dp σ2 → w3.ownsRow w.heap.size 5 1 v2 (xs ++ ys).length (Bs (xs ++ ys)) → w.grownBy w3 (some b) → (∀ c ∈ ys, c < 256) → ys.length ≤ 20000 → goR (J.textN (ss.map numsOf) n' (xs ++ ys)) σ2 = T →
          (∀ s' j, σ2 = .live s' j → s' = s ∧ i + 1 ≤ j ∧ j ≤ s.size ∧ ys.length ≤ 4 * (j - i)) → DTxI (ss.map numsOf) T b s dp w (gk - 1) v2 w3) := by
        intro σ2 ys v2 w3 d3 o3 g3 y1 y2 t3 l3
        refine ⟨v2, rfl, σ2, xs ++ ys, n', d3, o3, g3, fun c hc => ?_, t3, fun s' j e => ?_, by rw [List.length_append]; omega⟩
        · rcases List.mem_append.1 hc with hc | hc
          · exact hx c hc
          · exact y1 c hc
        · obtain ⟨rfl, k1, k2, k3⟩ := l3 s' j e
          rw [List.length_append]
          exact ⟨by omega, by omega, by omega⟩
      unfold rp at N1
      clear hr ho hg hx he hl hd hi0 hat0 hb0 hlv hdd hl1 hl2 hl3 hsz hile hnp hpl hV
      go_wp2_with fail
      refine N1.mono ?_
      rintro e w2 ⟨rfl, hb2⟩
      obtain ⟨c1, f1, c2', d2⟩ := HC.out w2 hb2
      clear N1 c2
      simp only []
      by_cases q1 : V < 32
      · have F1 := fail_any b s dp (.live s i) 160 (i : Int) (fun s' j e => by cases e; rfl) ⟨by decide, by decide⟩ w2 d2
        have HR : Hid (goR (J.textN (ss.map numsOf) (n' + 1) xs) (.live s i) = ((RS.live s i).refuse 160, none)) := tx_stop HV.out.2 (by rw [HV.out.1]; exact q1)
        simp only [show (((160 : Nat) : Int)) = 160 from rfl] at F1
        unfold rp at F1
        clear d2
        go_wp2_with fail
        refine F1.mono ?_
        rintro e w3 ⟨rfl, h3, g3⟩
        clear F1
        go_wp2_with fail
        go_roundg (gk - 1)
        case measure => have := HQ.out; omega
        case rel =>
          have hq := HQ.out
          have g23 := grown_trans (grown_below hb2 _) g3
          refine fin.out _ [] v w3 h3 (by rw [List.append_nil]; exact HOW.out w3 g23) (grown_trans hq.2.2.2.2.2.2.2 g23) (by simp) (by simp) ?_ (fun s' j e => by cases e)
          rw [← hq.2.2.2.2.2.2.1, HR.out]
          rfl
      have hVc : V = ((RS.live s i).pk : Int) := by
        rcases HNP.out.1 with e | ⟨e, _⟩
        · exact e
        · omega
      have hile : i ≤ s.size ∧ s.size ≤ 20000 := ⟨HQ.out.2.2.2.2.1, HQ.out.2.2.2.1⟩
      obtain ⟨I, hI⟩ : ∃ I : Int, (i : Int) = I := ⟨_, rfl⟩
      have I0 : 0 ≤ I := by omega
      have I1 : I < 1000000 := by omega
      have HII : Hid ((i : Int) = I) := hI
      by_cases q2 : V = 34
      · have HPK : Hid ((RS.live s i).pk = 34) := by show _ = _; omega
        obtain ⟨qv, mv, rfl, _⟩ := own_form (HOW.out wr (grown_refl _ _))
        have HOV : Hid (∀ w', wr.grownBy w' (some b) → ∀ j, (convert 62 9 (.slice qv xs.length mv)).run Tryd.prog (w'.drewN j) = .ok (.string (strOf xs)) (w'.drewN j)) := fun w' hg' j =>
          bin_conv Tryd.underlying62 Tryd.underlying5 Tryd.underlying9 (own_binj (own_below (HOW.out w' hg') (below_dN (Below.refl _ _) j)) rfl HQ.out.2.2.2.2.2.1).1 rfl mv
        have H2 : Hid (DTnI ss xs b dp s i wr ss.length (.int .i64 0) w2) := ⟨0, rfl, by omega, by simp only [List.take_zero, List.map_nil, List.not_mem_nil, if_false]; exact d2, c1, grown_below hb2 _⟩
        subst q2
        rw [hI] at c1
        clear d2 f1 c2' hb2 hVc hile I0 I1 hI q1
        go_wp2_with fail
        clear c1
        obtain ⟨wo, hwo⟩ : ∃ x, x = wr := ⟨_, rfl⟩
        subst hwo
        go_loopg [8] ss.length (fun g2 t w' => DTnI ss xs b dp s i wo g2 t w')
        case atStart => exact H2.out
        case round =>
          clear H2
          obtain ⟨k, rfl, hk, hr, h1, hg⟩ := hrel
          by_cases hlt : k < ss.length
          · have hkI : (k : Int) < (ss.length : Int) := by omega
            have hk0 : (0 : Int) ≤ (k : Int) := by omega
            have hsw := ss_grownD HSS.out.1 (grown_trans HQ.out.2.2.2.2.2.2.2 hg) HZ.out
            obtain ⟨nb, no, rfl⟩ := hsw.addr (by omega)
            have hnc := hsw.at hlt
            obtain ⟨nm, hnm⟩ : ∃ x, ss.getD k ByteArray.empty = x := ⟨_, rfl⟩
            rw [hnm] at hnc
            have hcv := HOV.out _ hg
            have hbb := str_is (nm := nm) HQ.out.2.2.2.2.2.1
            have hti := take_in (xs := xs) hlt
            rw [hnm] at hti
            have hkb : (k : Int) < 100001 := by have := HSS.out.2; omega
            have HG : Hid (wo.grownBy wr (some b)) := hg
            have HK : Hid (k + 1 + (gk - 1) = ss.length ∧ 0 < gk) := ⟨by omega, by omega⟩
            have HTI : Hid (xs ∈ (ss.take (k + 1)).map numsOf ↔ (xs ∈ (ss.take k).map numsOf ∨ numsOf nm = xs)) := hti
            have HRD : Hid (DIn wr b s dp (if xs ∈ (ss.take k).map numsOf then (RS.live s i).refuse 160 else .live s i) ∧ wr.cell? ⟨b, 1, none⟩ = some (.int .i64 (i : Int))) := ⟨hr, h1⟩
            by_cases he : numsOf nm = xs
            · rw [decide_eq_true he] at hbb
              have HE : Hid (numsOf nm = xs) := he
              clear hsw hnm hti hg hk hr h1 he hlt
              go_wp2_with fail
              go_quiet (fail)
              have B1 : Below wr.heap.size wr (wr.drewN nq) := below_dN (Below.refl _ _) _
              have F1 := fail_stays b s dp (if xs ∈ (ss.take k).map numsOf then (RS.live s i).refuse 160 else .live s i) 160 (i : Int) (i : Int) (fun s' j e => by
                split at e
                · cases e
                · cases e; rfl) ⟨by decide, by decide⟩ _ (HRD.out.1.below B1) ((B1.cell (World.block_lt_of_cell? _ _ HRD.out.2)).trans HRD.out.2)
              have c1 := (B1.cell (World.block_lt_of_cell? _ _ HRD.out.2)).trans HRD.out.2
              have HB1 : Hid (Below wr.heap.size wr (wr.drewN nq)) := B1
              generalize wr.drewN nq = w4 at *
              simp only [show (((160 : Nat) : Int)) = 160 from rfl] at F1
              unfold rp at F1
              clear hcv hbb hnc B1
              go_wp2_with fail
              refine F1.mono ?_
              rintro e w5 ⟨rfl, d5, g5, c5⟩
              clear F1 c1
              simp only []
              go_wp2_with fail
              go_roundg (gk - 1)
              case measure => have := HK.out; omega
              case rel =>
                have hti := HTI.out
                refine ⟨k + 1, by rw [Int.natCast_add]; rfl, HK.out.1, ?_, c5, grown_trans HG.out (grown_trans (grown_below HB1.out _) g5)⟩
                rw [if_pos (hti.2 (.inr HE.out))]
                have : (if xs ∈ (ss.take k).map numsOf then (RS.live s i).refuse 160 else .live s i).refuse 160 = (RS.live s i).refuse 160 := by split <;> rfl
                rw [this] at d5
                exact d5
            · rw [decide_eq_false he] at hbb
              have HE : Hid (numsOf nm ≠ xs) := he
              clear hsw hnm hti hg hk hr h1 he hlt
              go_wp2_with fail
              go_quiet (fail)
              have B1 : Below wr.heap.size wr (wr.drewN nq) := below_dN (Below.refl _ _) _
              have HB1 : Hid (Below wr.heap.size wr (wr.drewN nq)) := B1
              generalize wr.drewN nq = w4 at *
              clear hcv hbb hnc B1
              go_wp2_with fail
              go_roundg (gk - 1)
              case measure => have := HK.out; omega
              case rel =>
                have hti := HTI.out
                have hrd := HRD.out
                refine ⟨k + 1, by rw [Int.natCast_add]; rfl, HK.out.1, ?_, (HB1.out.cell (World.block_lt_of_cell? _ _ hrd.2)).trans hrd.2, grown_trans HG.out (grown_below HB1.out _)⟩
                have hn := HE.out
                have e : (if xs ∈ (ss.take (k + 1)).map numsOf then (RS.live s i).refuse 160 else .live s i) = (if xs ∈ (ss.take k).map numsOf then (RS.live s i).refuse 160 else .live s i) := by
                  by_cases hm : xs ∈ (ss.take k).map numsOf
                  · rw [if_pos hm, if_pos (hti.2 (.inl hm))]
                  · rw [if_neg hm, if_neg (fun h => (hti.1 h).elim hm hn)]
                rw [e]
                exact hrd.1.below HB1.out
          · have hke : k = ss.length := by omega
            subst hke
            rw [List.take_length] at hr
            have hx := HQ.out.2.2.2.2.2.1
            have f1 := hr.fz 1
            have hile : i ≤ s.size ∧ s.size ≤ 20000 := ⟨HQ.out.2.2.2.2.1, HQ.out.2.2.2.1⟩
            obtain ⟨I, hI⟩ : ∃ I : Int, (i : Int) = I := ⟨_, rfl⟩
            have I0 : 0 ≤ I := by omega
            have I1 : I < 1000000 := by omega
            have HT : Hid (DIn (wr.setCell ⟨b, 1, none⟩ (.int .i64 (I + 1))) b s dp T.1 ∧ (∀ v, T.2 = some v → v = xs) ∧ w.grownBy wr (some b)) := by
              have ht := HQ.out.2.2.2.2.2.2.1
              rw [← hI]
              by_cases hm : xs ∈ ss.map numsOf
              · rw [if_pos hm] at hr
                rw [tx_quote_in HV.out.2 HPK.out hm] at ht
                rw [← ht]
                exact ⟨hr.over hile.1, (fun v hv => by cases hv), grown_trans HQ.out.2.2.2.2.2.2.2 hg⟩
              · rw [if_neg hm] at hr
                rw [tx_quote_no HPK.out hm] at ht
                rw [← ht]
                have hi2 : i < s.size := by
                  rcases Nat.lt_or_ge i s.size with h | h
                  · exact h
                  · have := pk_out s i (by omega); have := HPK.out; omega
                exact ⟨hr.step hi2, (fun v hv => by cases hv; rfl), grown_trans HQ.out.2.2.2.2.2.2.2 hg⟩
            have HX : Hid (numsOf (strOf xs) = xs) := nums_strOf hx
            have hcv : (convert 62 9 (.slice qv xs.length mv)).run Tryd.prog (wr.setCell ⟨b, 1, none⟩ (.int .i64 (I + 1))) = .ok (.string (strOf xs)) (wr.setCell ⟨b, 1, none⟩ (.int .i64 (I + 1))) := HOV.out _ (grown_trans hg (grown_set _ _ _ _)) 0
            rw [hI] at h1
            clear hk hr hx hg hlt hile hI
            go_wp2_with fail
            go_ret
            have H := HT.out
            exact ⟨_, rfl, fun v hv => by rw [HX.out]; exact (H.2.1 v hv).symm, H.1, grown_trans H.2.2 (grown_set _ _ _ _)⟩
      have hi2 : i < s.size := by
        rcases Nat.lt_or_ge i s.size with h | h
        · exact h
        · have := pk_out s i (by omega); omega
      by_cases q3 : V = 92
      · have HPK : Hid ((RS.live s i).pk = 92) := by show _ = _; omega
        have HD3 : Hid (DIn (w2.setCell ⟨b, 1, none⟩ (.int .i64 (I + 1))) b s dp (.live s (i + 1)) ∧ wr.grownBy (w2.setCell ⟨b, 1, none⟩ (.int .i64 (I + 1))) (some b)) := by
          have := d2.step hi2
          rw [hI] at this
          exact ⟨this, grown_trans (grown_below hb2 _) (grown_set _ _ _ _)⟩
        have E3 := descaped_any b s dp (.live s (i + 1)) _ HD3.out.1
        have HES : Hid (∀ ys, (∀ x, (goR J.escaped (.live s (i + 1))).2 = some x → ys = J.utf8 x) → T = goR (J.textN (ss.map numsOf) n' (xs ++ ys)) (goR J.escaped (.live s (i + 1))).1) := fun ys hy => by
          rw [← HQ.out.2.2.2.2.2.2.1]
          exact tx_esc HPK.out hy
        have HMO : Hid (∀ s' j, (goR J.escaped (.live s (i + 1))).1 = .live s' j → s' = s ∧ i + 1 ≤ j ∧ j ≤ s.size) := fun s' j e => by
          have hmo := goR_mono J.Good.escaped (.live s (i + 1)) (show i + 1 ≤ s.size by omega)
          rw [e] at hmo
          have hst := stays J.escaped (s := s) (i := i + 1)
          have hok := goR_ok (p := J.escaped) (σ := .live s (i + 1))
          rcases hst with ⟨j', e'⟩ | ⟨t, e1, e'⟩
          · rw [e] at e'
            cases e'
            have hd := (goR_live (p := J.escaped) (σ := .live s (i + 1)) (σ1 := .live s j) (v := ((goR J.escaped (.live s (i + 1))).2.getD 0)))
            exact ⟨rfl, hmo, by
              simp only [goR] at e
              split at e <;> cases e
              omega⟩
          · rw [e] at e'; cases e'
        rw [hI] at c1
        subst q3
        unfold rp at E3
        clear d2 hb2 hVc hile hi2 hI q1 q2
        go_wp2_with fail
        refine E3.mono ?_
        rintro e w4 ⟨I2, rfl, k1, k2, k3, d4, g4⟩
        obtain ⟨N, hN⟩ : ∃ N : Nat, I2 = (N : Int) := ⟨I2.toNat, by omega⟩
        subst hN
        have hN2 : N < 2000000 := by omega
        obtain ⟨σ4, hσ4⟩ : ∃ x, (goR J.escaped (.live s (i + 1))).1 = x := ⟨_, rfl⟩
        rw [hσ4] at d4
        have HK3 : Hid (∀ x, (goR J.escaped (.live s (i + 1))).2 = some x → (N : Int) = (x : Int)) := k3
        have HS4 : Hid ((goR J.escaped (.live s (i + 1))).1 = σ4) := hσ4
        have HD4 : Hid (DIn w4 b s dp σ4 ∧ wr.grownBy w4 (some b)) := ⟨d4, grown_trans HD3.out.2 g4⟩
        obtain ⟨i4, at4, _, _, hb4, _, _⟩ := d4.ex
        have c2 : w4.cell? ⟨b, 2, none⟩ = some (.int .i64 (σ4.e : Int)) := by rw [cell_of_block hb4]; rfl
        clear E3 c1 f1 c2' k1 k2 k3 d4 g4 hσ4 hb4
        simp only []
        cases σ4 with
        | dead t e4 =>
          simp only [RS.e] at c2
          have he0 : ((e4 : Int) == 0) = false := by
            have := HD4.out.1.ok.1
            simpa using fun x : (e4 : Int) = 0 => this (by omega)
          go_wp2_with fail
          go_roundg (gk - 1)
          case measure => have := HQ.out; omega
          case rel =>
            have hq := HQ.out
            refine fin.out _ [] v w4 HD4.out.1 (by rw [List.append_nil]; exact HOW.out w4 HD4.out.2) (grown_trans hq.2.2.2.2.2.2.2 HD4.out.2) (by simp) (by simp) ?_ (fun s' j e => by cases e)
            have := HES.out [] (fun x hx => by rw [dead_no HS4.out] at hx; cases hx)
            rw [HS4.out] at this
            exact this.symm
        | live s' j =>
          simp only [RS.e] at c2
          rw [show (((0 : Nat) : Int)) = 0 from rfl] at c2
          obtain ⟨rfl, hj1, hj2⟩ := HMO.out s' j HS4.out
          have HJ : Hid (i + 1 ≤ j ∧ j ≤ s'.size) := ⟨hj1, hj2⟩
          have HU : Hid (∀ c ∈ J.utf8 N, c < 256) := utf_lt hN2
          have UA := utf8_any N hN2 w4
          clear hj1 hj2 hN2
          go_wp2_with fail
          refine UA.mono ?_
          rintro e w5 ⟨p5, m5, c5, rfl, hm5, hbin, hp5, hb5⟩
          have HO5 : Hid (w5.ownsRow w.heap.size 5 1 v xs.length (Bs xs)) := HOW.out w5 (grown_trans HD4.out.2 (grown_below hb5 _))
          have HL5 : Hid (xs.length + (J.utf8 N).length ≤ 140737488355328 ∧ w.heap.size ≤ w5.heap.size ∧ (J.utf8 N).length ≤ 4) := by
            have hq := HQ.out
            have : (J.utf8 N).length ≤ 4 := by unfold J.utf8; (repeat' split) <;> simp
            exact ⟨by omega, Nat.le_trans hq.2.2.2.2.2.2.2.size (Nat.le_trans HD4.out.2.size hb5.size), this⟩
          have HB5 : Hid (Below w4.heap.size w4 w5) := hb5
          clear UA c2 hb5
          simp only []
          go_wp2_with (at_builtin; refine wpList_append_bytesj _ rfl _ _ rfl w.heap.size v xs (J.utf8 N) p5 m5 c5 rfl rfl hm5 HO5.out hbin hp5 HL5.out.1 HL5.out.2.1 ?_; intro v6 w6 hown6 hgrow6)
          go_roundg (gk - 1)
          case measure => have := HQ.out; omega
          case rel =>
            have hq := HQ.out
            refine fin.out (.live s' j) (J.utf8 N) v6 w6 ((HD4.out.1.below HB5.out).own HO5.out hgrow6 HB.out) hown6 (grown_own (grown_trans hq.2.2.2.2.2.2.2 (grown_trans HD4.out.2 (grown_below HB5.out _))) hgrow6 (fun k e => (HO5.out.lt k e).1)) HU.out (by have := HL5.out.2.2; omega) ?_ (fun s2 j2 e => by cases e; have := HJ.out; have := HL5.out.2.2; exact ⟨rfl, by omega, by omega, by omega⟩)
            have := HES.out (J.utf8 N) (fun x hx => by have := HK3.out x hx; rw [show N = x by omega])
            rw [HS4.out] at this
            exact this.symm
      obtain ⟨C, hC⟩ : ∃ C, (RS.live s i).pk = C := ⟨_, rfl⟩
      rw [hC] at hVc
      by_cases q4 : V < 128
      · have HPK : Hid ((RS.live s i).pk = C ∧ ¬ C < 32 ∧ C ≠ 34 ∧ C ≠ 92 ∧ C < 128) := ⟨hC, by omega, by omega, by omega, by omega⟩
        have hd3 := d2.step hi2
        rw [hI] at hd3
        have HD3 : Hid (DIn (w2.setCell ⟨b, 1, none⟩ (.int .i64 (I + 1))) b s dp (.live s (i + 1)) ∧ wr.grownBy (w2.setCell ⟨b, 1, none⟩ (.int .i64 (I + 1))) (some b)) :=
          ⟨hd3, grown_trans (grown_below hb2 _) (grown_set _ _ _ _)⟩
        have HI2 : Hid (i < s.size) := hi2
        rw [hI] at c1
        have hbs : (Bs [C]).toArray = #[.int .u8 V] := by rw [hVc]; rfl
        have HNB : Hid (BIn ((w2.setCell ⟨b, 1, none⟩ (.int .i64 (I + 1))).alloc (.cells #[.int .u8 V] 5)) (some ⟨w2.heap.size, 0, none⟩) [C]) := by
          have hsz : (w2.setCell ⟨b, 1, none⟩ (.int .i64 (I + 1))).heap.size = w2.heap.size := by simp
          have := u8_laid (w := (w2.setCell ⟨b, 1, none⟩ (.int .i64 (I + 1)))) (ys := [C]) (by simp; omega)
          rw [hbs, hsz] at this
          exact this
        have HB4 : Hid (Below (w2.setCell ⟨b, 1, none⟩ (.int .i64 (I + 1))).heap.size (w2.setCell ⟨b, 1, none⟩ (.int .i64 (I + 1))) ((w2.setCell ⟨b, 1, none⟩ (.int .i64 (I + 1))).alloc (.cells #[.int .u8 V] 5))) := below_new _ _
        have HO4 : Hid (((w2.setCell ⟨b, 1, none⟩ (.int .i64 (I + 1))).alloc (.cells #[.int .u8 V] 5)).ownsRow w.heap.size 5 1 v xs.length (Bs xs)) := HOW.out _ (grown_trans HD3.out.2 (grown_below HB4.out _))
        have HL4 : Hid (xs.length + [C].length ≤ 140737488355328 ∧ w.heap.size ≤ ((w2.setCell ⟨b, 1, none⟩ (.int .i64 (I + 1))).alloc (.cells #[.int .u8 V] 5)).heap.size) := by
          have hq := HQ.out
          exact ⟨by simp; omega, Nat.le_trans hq.2.2.2.2.2.2.2.size (Nat.le_trans HD3.out.2.size HB4.out.size)⟩
        have v1 : (0 : Int) ≤ V := by omega
        have b3 : (V == 34) = false := by simpa using q2
        have b4 : (V == 92) = false := by simpa using q3
        clear d2 hb2 hVc hile hi2 hI hd3 hbs hC
        go_wp2_with (at_builtin; refine wpList_append_bytesj _ rfl _ _ rfl w.heap.size v xs [C] (some ⟨w2.heap.size, 0, none⟩) 1 1 rfl rfl rfl HO4.out HNB.out (fun h => by cases h) HL4.out.1 HL4.out.2 ?_; intro v6 w6 hown6 hgrow6)
        go_roundg (gk - 1)
        case measure => have := HQ.out; omega
        case rel =>
          have hq := HQ.out
          refine fin.out (.live s (i + 1)) [C] v6 w6 ((HD3.out.1.below HB4.out).own HO4.out hgrow6 HB.out) hown6 (grown_own (grown_trans hq.2.2.2.2.2.2.2 (grown_trans HD3.out.2 (grown_below HB4.out _))) hgrow6 (fun k e => (HO4.out.lt k e).1)) (fun c hc => by rw [List.mem_singleton] at hc; have := HPK.out.2.2.2.2; omega) (by simp) ?_ (fun s2 j2 e => by cases e; have := HI2.out; exact ⟨rfl, by omega, by omega, by simp only [List.length_singleton]; omega⟩)
          rw [← hq.2.2.2.2.2.2.1]
          exact (tx_low HPK.out.1 HPK.out.2.1 HPK.out.2.2.1 HPK.out.2.2.2.1 HPK.out.2.2.2.2).symm
      have HPK : Hid ((RS.live s i).pk = C ∧ ¬ C < 128) := ⟨hC, by omega⟩
      have K3 := dchar_any b s dp (.live s i) w2 d2
      obtain ⟨σ3, hσ3⟩ : ∃ x, (goR J.char (.live s i)).1 = x := ⟨_, rfl⟩
      rw [hσ3] at K3
      have HS3 : Hid ((goR J.char (.live s i)).1 = σ3) := hσ3
      have HI2 : Hid (i < s.size) := hi2
      have HB2 : Hid (Below wr.heap.size wr w2) := hb2
      rw [hI] at c1
      have b3 : (V == 34) = false := by simpa using q2
      have b4 : (V == 92) = false := by simpa using q3
      unfold rp at K3
      clear d2 hb2 hVc hile hi2 hC hσ3
      go_wp2_with fail
      refine K3.mono ?_
      rintro e w4 ⟨rfl, d4, g4⟩
      have HD4 : Hid (DIn w4 b s dp σ3 ∧ wr.grownBy w4 (some b)) := ⟨d4, grown_trans (grown_below HB2.out _) g4⟩
      obtain ⟨i4, at4, hi4, _, hb4, hlv4, _⟩ := d4.ex
      have c2 : w4.cell? ⟨b, 2, none⟩ = some (.int .i64 (σ3.e : Int)) := by rw [cell_of_block hb4]; rfl
      have c0 : w4.cell? ⟨b, 0, none⟩ = some (.string s) := by rw [cell_of_block hb4]; rfl
      have c4 : w4.cell? ⟨b, 1, none⟩ = some (.int .i64 (i4 : Int)) := by rw [cell_of_block hb4]; rfl
      clear K3 c1 f1 c2' d4 g4 hb4
      simp only []
      cases σ3 with
      | dead t e4 =>
        simp only [RS.e] at c2
        have he0 : ((e4 : Int) == 0) = false := by
          have := HD4.out.1.ok.1
          simpa using fun x : (e4 : Int) = 0 => this (by omega)
        clear hlv4 c0 c4
        go_wp2_with fail
        go_roundg (gk - 1)
        case measure => have := HQ.out; omega
        case rel =>
          have hq := HQ.out
          have hsd := seen_go J.char (.live s i)
          have h1 : (goR J.char.seen (.live s i)).1 = .dead t e4 := by rw [hsd.1]; exact HS3.out
          refine fin.out _ [] v w4 HD4.out.1 (by rw [List.append_nil]; exact HOW.out w4 HD4.out.2) (grown_trans hq.2.2.2.2.2.2.2 HD4.out.2) (by simp) (by simp) ?_ (fun s' j e => by cases e)
          rw [← hq.2.2.2.2.2.2.1, tx_char (ys := []) HPK.out.1 HPK.out.2 (fun x hx => by rw [dead_no h1] at hx; cases hx), h1]
      | live s' j =>
        simp only [RS.e] at c2
        rw [show (((0 : Nat) : Int)) = 0 from rfl] at c2
        obtain ⟨hss, hij⟩ := hlv4 s' j rfl
        subst hss
        subst hij
        have hadv := char_adv HS3.out
        have hsd := seen_go J.char (.live s' i)
        have h1 : (goR J.char.seen (.live s' i)).1 = .live s' i4 := by rw [hsd.1]; exact HS3.out
        have X := slice_mid s' i i4 (by omega) hadv.2
        obtain ⟨tx, htx⟩ : ∃ tx, s'.extract i i4 = tx := ⟨_, rfl⟩
        have htz : tx.size = i4 - i := by rw [← htx, ByteArray.size_extract]; omega
        rw [htx] at X
        have HTX : Hid (T = goR (J.textN (ss.map numsOf) n' (xs ++ numsOf tx)) (.live s' i4) ∧ tx.size = i4 - i ∧ i + 1 ≤ i4 ∧ i4 ≤ s'.size) := by
          refine ⟨?_, htz, hadv⟩
          rw [← HQ.out.2.2.2.2.2.2.1, tx_char (ys := numsOf tx) HPK.out.1 HPK.out.2 (fun x hx => by rw [hsd.2 s' i i4 rfl (by omega) HS3.out x hx, htx]), h1]
        have HO4 : Hid (∀ w', Below w4.heap.size w4 w' → w'.ownsRow w.heap.size 5 1 v xs.length (Bs xs)) := fun w' hb => HOW.out w' (grown_trans HD4.out.2 (grown_below hb _))
        have HL4 : Hid (xs.length + tx.size ≤ 140737488355328 ∧ ∀ w', Below w4.heap.size w4 w' → w.heap.size ≤ w'.heap.size) := by
          have hq := HQ.out
          exact ⟨by omega, fun w' hb => Nat.le_trans hq.2.2.2.2.2.2.2.size (Nat.le_trans HD4.out.2.size hb.size)⟩
        have HMK : Hid (∀ wd, Below w4.heap.size w4 wd → ∀ v6 w6, wd.grownBy w6 v.ownBlock → w6.ownsRow w.heap.size 5 1 v6 (xs ++ numsOf tx).length (Bs (xs ++ numsOf tx)) → DTxI (ss.map numsOf) T b s' dp w (gk - 1) v6 w6) := by
          intro wd hb v6 w6 hgrow6 hown6
          have hq := HQ.out
          have ht := HTX.out
          refine fin.out (.live s' i4) (numsOf tx) v6 w6 ((HD4.out.1.below hb).own (HO4.out _ hb) hgrow6 HB.out) hown6 (grown_own (grown_trans hq.2.2.2.2.2.2.2 (grown_trans HD4.out.2 (grown_below hb _))) hgrow6 (fun k e => ((HO4.out _ hb).lt k e).1)) (numsOf_lt tx) (by rw [numsOf_len]; omega) ht.1.symm (fun s2 j2 e => by cases e; exact ⟨rfl, ht.2.2.1, ht.2.2.2, by rw [numsOf_len]; omega⟩)
        rw [hI] at X
        obtain ⟨J0, hJ⟩ : ∃ J0 : Int, (i4 : Int) = J0 := ⟨_, rfl⟩
        rw [hJ] at X c4
        clear hadv hsd h1 htx htz hlv4 hI hJ hi4
        go_wp2_with fail
        go_region_law (refine step_append_string rfl (.tmp 30) (.tmp 40) rfl w.heap.size v xs tx (by simp [Act.eval, Act.put]) (by simp [Act.eval, Act.put]) (HO4.out _ (by first | exact below_dN (Below.refl _ _) _ | exact (Below.refl _ _).drew | exact Below.refl _ _)) HL4.out.1 (HL4.out.2 _ (by first | exact below_dN (Below.refl _ _) _ | exact (Below.refl _ _).drew | exact Below.refl _ _)) ?_; intro v6 w6 hown6 hgrow6)
        all_goals
          have HF := HMK.out _ (by first | exact below_dN (Below.refl _ _) _ | exact (Below.refl _ _).drew | exact Below.refl _ _) _ _ hgrow6 hown6
          have HFH : Hid (DTxI _ _ _ _ _ _ _ _ _) := HF
          clear hown6 hgrow6 HF
          go_wp2_with fail
          go_roundg (gk - 1)
          case measure => have := HQ.out; omega
          case rel => exact HFH.out
end Go.Proofs.YtcfalgomcdmdhaaDoor
