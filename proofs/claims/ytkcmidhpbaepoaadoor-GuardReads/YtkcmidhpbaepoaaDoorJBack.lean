/-
  Values are written, and read back.
-/
import Derived.Test.YtkcmidhpbaepoaaDoorJText
namespace Go.Proofs.YtkcmidhpbaepoaaDoor.J

mutual
def written : JV → List Nat
  | .mk k b n t ns vs =>
    if k = 0 then [110, 117, 108, 108]
    else if k = 1 then (if b then [116, 114, 117, 101] else [102, 97, 108, 115, 101])
    else if k = 2 then intT n else if k = 3 then t else if k = 4 then quoted t
    else if k = 6 then 123 :: (itemsT true ns vs ++ [125]) else 91 :: (itemsT false ns vs ++ [93])
def itemsT (obj : Bool) : List (List Nat) → List JV → List Nat
  | _, [] => []
  | ns, v :: vs => (if obj then quoted (ns.headD []) ++ [58] else []) ++
      (written v ++ (if vs.isEmpty then [] else 44 :: itemsT obj ns.tail vs))
end

mutual
def Wf : JV → Nat → Prop
  | .mk k b n t ns vs, d =>
    (k = 0 ∧ b = false ∧ n = 0 ∧ t = [] ∧ ns = [] ∧ vs = []) ∨
    (k = 1 ∧ n = 0 ∧ t = [] ∧ ns = [] ∧ vs = []) ∨
    (k = 2 ∧ b = false ∧ Rng n ∧ t = [] ∧ ns = [] ∧ vs = []) ∨
    (k = 3 ∧ b = false ∧ n = 0 ∧ number t = .ok (.mk 3 false 0 t [] []) [] ∧ ns = [] ∧ vs = []) ∨
    (k = 4 ∧ b = false ∧ n = 0 ∧ Fm t ∧ ns = [] ∧ vs = []) ∨
    (k = 5 ∧ b = false ∧ n = 0 ∧ t = [] ∧ ns = [] ∧ 0 < d ∧ vs.length ≤ 1024 ∧ WfL vs (d - 1)) ∨
    (k = 6 ∧ b = false ∧ n = 0 ∧ t = [] ∧ ns.length = vs.length ∧ ns.Nodup ∧ (∀ s ∈ ns, Fm s) ∧ 0 < d ∧ vs.length ≤ 1024 ∧ WfL vs (d - 1))
def WfL : List JV → Nat → Prop
  | [], _ => True
  | v :: vs, d => Wf v d ∧ WfL vs d
end

theorem blanks_stay {c : Nat} {m : List Nat} (h : isBlank c = false) : blanks (c :: m) = .ok () (c :: m) := by
  simp [blanks, skip, h]

theorem esc_long (c : Nat) : 1 ≤ (esc c).length := by
  unfold esc
  repeat' split
  all_goals simp

theorem qbody_long (s : List Nat) : s.length ≤ (qbody s).length := by
  induction s with
  | nil => simp
  | cons c s ih =>
    have := esc_long c
    simp only [qbody, List.flatMap_cons, List.length_append, List.length_cons] at ih ⊢
    omega

theorem quoted_long (s : List Nat) : s.length + 2 ≤ (quoted s).length := by
  have := qbody_long s
  simp [quoted]; omega

/-- a value's text begins with no blank -/
theorem written_head {v : JV} {d : Nat} (h : Wf v d) : ∃ c t, written v = c :: t ∧ isBlank c = false ∧ c ≠ 93 := by
  cases v with
  | mk k b n t ns vs =>
    simp only [Wf] at h
    rcases h with ⟨rfl, _⟩ | ⟨rfl, _⟩ | ⟨rfl, _⟩ | ⟨rfl, _, _, hn, _⟩ | ⟨rfl, _⟩ | ⟨rfl, _⟩ | ⟨rfl, _⟩
    · exact ⟨110, _, by simp [written]; rfl, rfl, by decide⟩
    · cases b
      · exact ⟨102, _, by simp [written]; rfl, rfl, by decide⟩
      · exact ⟨116, _, by simp [written]; rfl, rfl, by decide⟩
    · obtain ⟨x, ds, e, h1, _⟩ := natT_shape n.natAbs
      by_cases hn : n < 0
      · exact ⟨45, natT n.natAbs, by simp [written, intT, hn], rfl, by decide⟩
      · refine ⟨x, ds, by simp [written, intT, hn, e], ?_⟩
        simp [isDig] at h1; simp [isBlank]; omega
    · cases t with
      | nil => simp [number_nil] at hn
      | cons c t =>
        refine ⟨c, t, by simp [written], ?_⟩
        rcases number_head hn with rfl | h1
        · exact ⟨rfl, by decide⟩
        · simp [isDig] at h1; simp [isBlank]; omega
    · exact ⟨34, _, by simp [written, quoted]; rfl, rfl, by decide⟩
    · exact ⟨91, _, by simp [written]; rfl, rfl, by decide⟩
    · exact ⟨123, _, by simp [written]; rfl, rfl, by decide⟩

theorem number_value {F : Nat} {g : Option (Rd JV)} {a m : List Nat} {v : JV} (h : number a = .ok v []) (hm : StopL m) :
    valueB F g (a ++ m) = .ok v m := by
  cases a with
  | nil => simp [number_nil] at h
  | cons c a =>
    have hc := number_head h
    have hd : c = 45 ∨ (48 ≤ c ∧ c ≤ 57) := by
      rcases hc with h | h
      · exact .inl h
      · simp [isDig] at h; exact .inr h
    have e := Halts.number _ _ h m hm
    simp only [List.cons_append] at e ⊢
    simp only [valueB, sw]
    rw [if_neg (by omega), if_neg (by omega), if_neg (by omega), if_neg (by omega), if_neg (by omega), if_neg (by omega)]
    exact e

theorem fin_stop (obj : Bool) (m : List Nat) : StopL (fin obj :: m) := by
  refine .inr ⟨_, _, rfl, ?_⟩
  cases obj <;> simp [fin, StopC]

theorem fin_blank (obj : Bool) : isBlank (fin obj) = false := by cases obj <;> rfl

/-- the items are read back, one after another -/
theorem items_back {F : Nat} (d : Nat) (obj : Bool)
    (hv : ∀ v m, Wf v d → StopL m → (written v).length < F → value F d (written v ++ m) = .ok v m) :
    ∀ (vs : List JV) (n : Nat) (ns ns0 : List (List Nat)) (vs0 : List JV) (m : List Nat), vs ≠ [] → WfL vs d → vs.length ≤ n →
      vs0.length + vs.length ≤ 1024 → (itemsT obj ns vs).length < F →
      (obj = true → ns.length = vs.length ∧ (ns0 ++ ns).Nodup ∧ ∀ s ∈ ns, Fm s) → (obj = false → ns = []) →
      groupN F (value F d) obj n ns0 vs0 (itemsT obj ns vs ++ fin obj :: m) = .ok (ns0 ++ ns, vs0 ++ vs) m := by
  intro vs
  induction vs with
  | nil => intro n ns ns0 vs0 m h; exact absurd rfl h
  | cons v vs ih =>
    intro n ns ns0 vs0 m _ hw hn hk hl ho hq
    simp only [WfL] at hw
    simp only [List.length_cons] at hn hk
    obtain ⟨n, rfl⟩ : ∃ j, n = j + 1 := ⟨n - 1, by omega⟩
    obtain ⟨c, t, hc, hb, hx⟩ := written_head hw.1
    -- the rest behind the value
    have hrest : ∃ rest, itemsT obj ns (v :: vs) ++ fin obj :: m =
        (if obj then quoted (ns.headD []) ++ [58] else []) ++ (written v ++ rest) ∧ StopL rest ∧
        rest = (if vs.isEmpty then [] else 44 :: itemsT obj ns.tail vs) ++ fin obj :: m := by
      refine ⟨_, ?_, ?_, rfl⟩
      · simp [itemsT]
      · cases vs with
        | nil => simpa using fin_stop obj m
        | cons x xs => exact .inr ⟨44, _, by simp; rfl, .inl rfl⟩
    obtain ⟨rest, e, hs, er⟩ := hrest
    have hlv : (written v).length < F := by
      simp only [itemsT, List.length_append] at hl; omega
    have hname : ∃ ns1 ns2, ns0 ++ ns = ns1 ++ ns2 ∧ ns2 = ns.tail ∧
        nameR F obj ns0 ((if obj then quoted (ns.headD []) ++ [58] else []) ++ (written v ++ rest)) = .ok ns1 (written v ++ rest) := by
      cases obj with
      | false =>
        obtain rfl := hq rfl
        exact ⟨ns0, [], rfl, rfl, rfl⟩
      | true =>
        obtain ⟨h1, h2, h3⟩ := ho rfl
        cases ns with
        | nil => simp at h1
        | cons s ns =>
          refine ⟨ns0 ++ [s], ns, by simp, rfl, ?_⟩
          have hni : s ∉ ns0 := by
            intro hx
            rw [List.nodup_append] at h2
            exact h2.2.2 s hx s (by simp) rfl
          have hsl : s.length < F := by
            have := quoted_long s
            simp only [itemsT, if_true, List.headD_cons, List.length_append] at hl
            omega
          simp only [nameR, if_true, List.headD_cons, List.append_assoc]
          rw [then_go (text_back ns0 (h3 s (by simp)) hsl hni _)]
          rw [List.singleton_append, then_go (blanks_stay (by rfl)), then_go (need_go ⟨Nat.le_refl _, Nat.le_refl _⟩)]
          rfl
    obtain ⟨ns1, ns2, en, e2, hnm⟩ := hname
    rw [e, en]
    unfold groupN
    rw [then_go hnm, then_go (hv v rest hw.1 hs hlv)]
    cases vs with
    | nil =>
      simp only [List.isEmpty_nil, if_true, List.nil_append] at er
      subst er
      rw [then_go (blanks_stay (fin_blank obj))]
      have : ns2 = [] := by
        rw [e2]
        cases obj with
        | false => rw [hq rfl]; rfl
        | true =>
          have := (ho rfl).1
          cases ns with
          | nil => rfl
          | cons s ns => simp at this; simp [this]
      subst this
      simp [sw, Rd.pure]
    | cons x xs =>
      simp only [List.isEmpty_cons, Bool.false_eq_true, if_false, List.cons_append] at er
      subst er
      rw [then_go (blanks_stay (by rfl))]
      have hf : (44 : Nat) ≠ fin obj := by cases obj <;> simp [fin]
      simp only [List.length_cons] at hn hk
      simp only [sw, hf, if_false, if_true]
      rw [if_neg (by omega)]
      simp only
      -- blanks stay: the next item begins with no blank
      have hhead : ∃ y u, itemsT obj ns.tail (x :: xs) ++ fin obj :: m = y :: u ∧ isBlank y = false := by
        cases obj with
        | true => exact ⟨34, _, by simp [itemsT, quoted]; rfl, rfl⟩
        | false =>
          simp only [WfL] at hw
          obtain ⟨c, t, hc, hb, hx⟩ := written_head hw.2.1
          exact ⟨c, _, by simp [itemsT, hc]; rfl, hb⟩
      obtain ⟨y, u, ey, hy⟩ := hhead
      rw [ey, then_go (blanks_stay hy), ← ey]
      have hi := ih n ns.tail ns1 (vs0 ++ [v]) m (by simp) hw.2 (by simp; omega) (by simp; omega)
        (by simp only [itemsT, List.length_append, List.isEmpty_cons, Bool.false_eq_true, if_false, List.length_cons] at hl ⊢; omega)
        (by
          intro hob
          obtain ⟨h1, h2, h3⟩ := ho hob
          refine ⟨by simp [h1], by rw [← e2, ← en]; exact h2, fun s hs => h3 s (List.mem_of_mem_tail hs)⟩)
        (by intro hob; rw [hq hob]; rfl)
      rw [hi, e2]
      simp

theorem group_back {F : Nat} {f : Rd JV} {obj : Bool} {l m u : List Nat} {y : Nat} {p : List (List Nat) × List JV}
    (h : groupN F f obj F [] [] l = .ok p m) (e : l = y :: u) (hy : isBlank y = false) (hf : y ≠ fin obj) :
    group F f obj l = .ok (groupV obj p) m := by
  subst e
  unfold group
  refine then_go (p := blanks.then fun _ => _) (x := p) (m := m) ?_
  rw [then_go (blanks_stay hy)]
  simp only [sw, hf, if_false]
  exact h

/-- THE STAGE'S THEOREM, without a program: what is written is read back -/
theorem value_back {F : Nat} (hF : 1024 ≤ F) (d : Nat) : ∀ v m, Wf v d → StopL m → (written v).length < F →
    value F d (written v ++ m) = .ok v m := by
  have key : ∀ (d : Nat) (g : Option (Rd JV)), (∀ e, d = e + 1 → g = some (value F e) ∧
      ∀ v m, Wf v e → StopL m → (written v).length < F → value F e (written v ++ m) = .ok v m) →
      ∀ v m, Wf v d → StopL m → (written v).length < F → (blanks.then fun _ => valueB F g) (written v ++ m) = .ok v m := by
    intro d g hg v m hw hm hl
    obtain ⟨c, t, hc, hb, hx⟩ := written_head hw
    have e1 : blanks (written v ++ m) = .ok () (written v ++ m) := by rw [hc]; exact blanks_stay hb
    rw [then_go e1]
    cases v with
    | mk k b n t ns vs =>
      simp only [Wf] at hw
      rcases hw with ⟨rfl, rfl, rfl, rfl, rfl, rfl⟩ | ⟨rfl, rfl, rfl, rfl, rfl⟩ | ⟨rfl, rfl, hr, rfl, rfl, rfl⟩ |
        ⟨rfl, rfl, rfl, hn, rfl, rfl⟩ | ⟨rfl, rfl, rfl, hf, rfl, rfl⟩ | ⟨rfl, rfl, rfl, rfl, rfl, hd, hk, hws⟩ |
        ⟨rfl, rfl, rfl, rfl, hlen, hnd, hfm, hd, hk, hws⟩
      · simp [written]; rfl
      · cases b
        · simp [written]; rfl
        · simp [written]; rfl
      · have : written (.mk 2 false n [] [] []) = intT n := by simp [written]
        rw [this]
        exact number_value (number_int hr) hm
      · have : written (.mk 3 false 0 t [] []) = t := by simp [written]
        rw [this]
        exact number_value hn hm
      · have e : written (.mk 4 false 0 t [] []) = quoted t := by simp [written]
        rw [e] at hl ⊢
        have := quoted_long t
        have e2 := textN_back [] hf F [] m (by omega) (by simp)
        show ((textN [] F []).then fun s => Rd.pure (JV.mk 4 false 0 s [] [])) ((qbody t ++ [34]) ++ m) = _
        rw [List.append_assoc, List.singleton_append, then_go e2]
        rfl
      · obtain ⟨e, rfl⟩ : ∃ e, d = e + 1 := ⟨d - 1, by omega⟩
        obtain ⟨rfl, hv⟩ := hg e rfl
        have ew : written (.mk 5 false 0 [] [] vs) = 91 :: (itemsT false [] vs ++ [93]) := by simp [written]
        rw [ew] at hl ⊢
        show group F (value F e) false ((itemsT false [] vs ++ [93]) ++ m) = _
        rw [List.append_assoc, List.singleton_append]
        cases vs with
        | nil => rfl
        | cons x xs =>
          simp only [Nat.add_sub_cancel] at hws
          have hi := items_back e false hv (x :: xs) F [] [] [] m (by simp) hws (by omega) (by simpa using hk)
            (by simp only [List.length_cons, List.length_append] at hl; omega) (by simp) (by simp)
          simp only [WfL] at hws
          obtain ⟨c, t, hc, hb, hx⟩ := written_head hws.1
          have hc2 : ∃ u, itemsT false [] (x :: xs) ++ 93 :: m = c :: u := ⟨_, by simp [itemsT, hc]; rfl⟩
          obtain ⟨u, eu⟩ := hc2
          exact group_back hi eu hb hx
      · obtain ⟨e, rfl⟩ : ∃ e, d = e + 1 := ⟨d - 1, by omega⟩
        obtain ⟨rfl, hv⟩ := hg e rfl
        have ew : written (.mk 6 false 0 [] ns vs) = 123 :: (itemsT true ns vs ++ [125]) := by simp [written]
        rw [ew] at hl ⊢
        show group F (value F e) true ((itemsT true ns vs ++ [125]) ++ m) = _
        rw [List.append_assoc, List.singleton_append]
        cases vs with
        | nil =>
          obtain rfl : ns = [] := by cases ns with
            | nil => rfl
            | cons s ns => simp at hlen
          rfl
        | cons x xs =>
          simp only [Nat.add_sub_cancel] at hws
          have hi := items_back e true hv (x :: xs) F ns [] [] m (by simp) hws (by omega) (by simpa using hk)
            (by simp only [List.length_cons, List.length_append] at hl; omega) (fun _ => ⟨hlen, by simpa using hnd, hfm⟩) (by simp)
          have hc2 : ∃ u, itemsT true ns (x :: xs) ++ 125 :: m = 34 :: u := ⟨_, by simp [itemsT, quoted]; rfl⟩
          obtain ⟨u, eu⟩ := hc2
          exact group_back hi eu (by rfl) (by decide)
  induction d with
  | zero => exact key 0 none (by intro e h; omega)
  | succ d ih => exact key (d + 1) (some (value F d)) (by intro e h; cases h; exact ⟨rfl, ih⟩)

/-- Read of Text is the value -/
theorem read_back {F : Nat} (hF : 1024 ≤ F) {v : JV} (hw : Wf v 32) (hl : (written v).length < F) : read F (written v) = .ok v [] := by
  have h := value_back hF 32 v [] hw (.inl rfl) hl
  rw [List.append_nil] at h
  unfold read valueE
  have : ((value F 32).then fun v => blanks.then fun _ => Rd.pure v) (written v) = .ok v [] := by
    rw [then_go h]; rfl
  rw [then_go this]
  rfl

end Go.Proofs.YtkcmidhpbaepoaaDoor.J
