/-
  Files that find their sectors, with no program.
-/
import Derived.Test.YtiakfdhbbkpfhaaGreatDoorJ13
import Derived.Test.YtiakfdhbbkpfhaaGreatDoorJ19
namespace Go.Proofs.YtiakfdhbbkpfhaaGreatDoor
set_option maxRecDepth 8000

/-- What a sector may be behind acts. -/
def Cand (data : List Nat) (B : Acts) (s : Nat) (x : List Nat) : Prop := x = secN data s ∨ (false, (s : Int), x) ∈ B
structure CInv (count : Int) (data : List Nat) (B : Acts) (st : List Nat × Puts) : Prop where
  sec : ∀ s : Nat, (s : Int) < count → Cand data B s (secN st.1 s)
  wait : ∀ y ∈ st.2, (false, y.1, y.2) ∈ B
theorem Cand.app {data : List Nat} {B : Acts} {s : Nat} {x : List Nat} (h : Cand data B s x) (C : Acts) : Cand data (B ++ C) s x := by
  rcases h with h | h
  · exact .inl h
  · exact .inr (List.mem_append.2 (.inl h))
theorem cinv_step {count : Int} {data : List Nat} {B : Acts} {st st' : List Nat × Puts} {a : Bool × Int × List Nat} (ho : Okay count st.1 st.2) (h : CInv count data B st) (e : stepA count st a = .ok st') : CInv count data (B ++ [a]) st' := by
  unfold stepA at e
  split at e
  · simp only [Except.ok.injEq] at e
    subst e
    refine ⟨fun s hs => ?_, fun y hy => by cases hy⟩
    show Cand data (B ++ [a]) s (secN (settleN st.1 st.2) s)
    rw [settleN, sec_settle ho hs _ (Nat.le_refl _)]
    cases en : nowK st.2 s st.2.length with
    | none => exact (h.sec s hs).app _
    | some x =>
      obtain ⟨_, y, hy, hy1, hy2⟩ := nowK_len ho _ (Nat.le_refl _) en
      right
      have := h.wait y hy
      rw [hy1, hy2] at this
      exact List.mem_append.2 (.inl this)
  · rename_i hf
    split at e
    · cases e
    · split at e
      · cases e
      · split at e
        · cases e
        · simp only [Except.ok.injEq] at e
          subst e
          refine ⟨fun s hs => (h.sec s hs).app _, fun y hy => ?_⟩
          rcases List.mem_append.1 hy with hy | hy
          · exact List.mem_append.2 (.inl (h.wait y hy))
          · rw [List.mem_singleton.1 hy]
            refine List.mem_append.2 (.inr (List.mem_singleton.2 ?_))
            obtain ⟨b, i, x⟩ := a
            cases b with
            | true => exact absurd rfl hf
            | false => rfl
theorem cinv_do {count : Int} {data : List Nat} : ∀ (C B : Acts) {st st' : List Nat × Puts}, Okay count st.1 st.2 → CInv count data B st → doN count st C = .ok st' → CInv count data (B ++ C) st' := by
  intro C
  induction C with
  | nil =>
    intro B st st' _ h e
    simp only [doN, Except.ok.injEq] at e
    subst e
    simpa using h
  | cons a C ih =>
    intro B st st' ho h e
    simp only [doN] at e
    cases e1 : stepA count st a with
    | ok s1 =>
      rw [e1] at e
      have := ih (B ++ [a]) (okay_step ho e1) (cinv_step ho h e1) e
      simpa using this
    | error c => rw [e1] at e; cases e
/-- Behind a loss each sector is as it was, or one of its writes. -/
theorem crash_cand {count : Int} {data D : List Nat} {W : Puts} {C : Acts} (ho : Okay count data []) (e : doN count (data, []) C = .ok (D, W)) (keep : List Bool) (s : Nat) (hs : (s : Int) < count) : Cand data C s (secN (crashN D W keep) s) := by
  have hi := cinv_do C [] (st := (data, [])) (st' := (D, W)) ho ⟨fun s _ => .inl rfl, fun y hy => by cases hy⟩ e
  rw [List.nil_append] at hi
  have hok := okay_do C (s := (data, [])) (s' := (D, W)) ho e
  rcases sec_crash hok keep hs W.length (Nat.le_refl _) with h | ⟨y, hy, hy1, hy2⟩
  · have h' : secN (crashN D W keep) s = secN D s := h
    rw [h']
    exact hi.sec s hs
  · right
    have := hi.wait y hy
    rw [hy1, hy2] at this
    exact this
/-- A sector all whose writes are the same is so behind one of them. -/
theorem now_do {count : Int} {s : Nat} {X : List Nat} (hs : (s : Int) < count) : ∀ (C B : Acts) {st st' : List Nat × Puts}, Okay count st.1 st.2 → ((∀ x, (false, (s : Int), x) ∉ B) ∨ nowN st.1 st.2 s = X) → (∀ x, (false, (s : Int), x) ∈ C → x = X) → doN count st C = .ok st' → ((∀ x, (false, (s : Int), x) ∉ B ++ C) ∨ nowN st'.1 st'.2 s = X) := by
  intro C
  induction C with
  | nil =>
    intro B st st' _ h _ e
    simp only [doN, Except.ok.injEq] at e
    subst e
    simpa using h
  | cons a C ih =>
    intro B st st' ho h hX e
    simp only [doN] at e
    cases e1 : stepA count st a with
    | error c => rw [e1] at e; cases e
    | ok s1 =>
      rw [e1] at e
      have h1 : (∀ x, (false, (s : Int), x) ∉ B ++ [a]) ∨ nowN s1.1 s1.2 s = X := by
        have e2 := e1
        unfold stepA at e2
        split at e2
        · rename_i hf
          simp only [Except.ok.injEq] at e2
          subst e2
          rcases h with h | h
          · left
            intro x hx
            rcases List.mem_append.1 hx with hx | hx
            · exact h x hx
            · have := List.mem_singleton.1 hx
              rw [← this] at hf
              cases hf
          · right
            show nowN (settleN st.1 st.2) [] s = X
            rw [now_settled ho hs]
            exact h
        · rename_i hf
          split at e2
          · cases e2
          · split at e2
            · cases e2
            · split at e2
              · cases e2
              · simp only [Except.ok.injEq] at e2
                subst e2
                have hw : nowN st.1 (st.2 ++ [a.2]) s = if a.2.1 = (s : Int) then a.2.2 else nowN st.1 st.2 s := now_written
                by_cases hy : a.2.1 = (s : Int)
                · right
                  show nowN st.1 (st.2 ++ [a.2]) s = X
                  rw [hw, if_pos hy]
                  apply hX
                  refine List.mem_cons.2 (.inl ?_)
                  obtain ⟨b, i, x⟩ := a
                  cases b with
                  | true => exact absurd rfl hf
                  | false => simp only at hy; rw [← hy]
                · rcases h with h | h
                  · left
                    intro x hx
                    rcases List.mem_append.1 hx with hx | hx
                    · exact h x hx
                    · have := List.mem_singleton.1 hx
                      rw [← this] at hy
                      exact hy rfl
                  · right
                    show nowN st.1 (st.2 ++ [a.2]) s = X
                    rw [hw, if_neg hy]
                    exact h
      have := ih (B ++ [a]) (okay_step ho e1) h1 (fun x hx => hX x (List.mem_cons_of_mem _ hx)) e
      simpa using this
/-- What was written ahead of a flush stays. -/
theorem crash_sure {count : Int} {data D : List Nat} {W : Puts} {B1 B2 : Acts} {y : Bool × Int × List Nat} (ho : Okay count data []) (hy : y.1 = true) (e : doN count (data, []) (B1 ++ y :: B2) = .ok (D, W)) (keep : List Bool) (s : Nat) (hs : (s : Int) < count) (X : List Nat) (hX : ∀ x, (false, (s : Int), x) ∈ B1 ++ y :: B2 → x = X) (hin : (false, (s : Int), X) ∈ B1) : secN (crashN D W keep) s = X := by
  rw [doN_app] at e
  cases e1 : doN count (data, []) B1 with
  | error c => rw [e1] at e; cases e
  | ok s1 =>
    rw [e1] at e
    have hok1 := okay_do B1 (s := (data, [])) ho e1
    have n1 := now_do hs B1 [] (st := (data, [])) ho (.inl (fun x hx => by cases hx)) (fun x hx => hX x (List.mem_append.2 (.inl hx))) e1
    rw [List.nil_append] at n1
    have n2 : nowN s1.1 s1.2 s = X := by
      rcases n1 with h | h
      · exact absurd hin (h X)
      · exact h
    have e2 : stepA count s1 y = .ok (settleN s1.1 s1.2, []) := by unfold stepA; rw [if_pos hy]
    have e3 : doN count (settleN s1.1 s1.2, []) B2 = .ok (D, W) := by
      simp only [doN, e2] at e
      exact e
    have hs1 : secN (settleN s1.1 s1.2) s = X := by
      have := now_settled hok1 hs
      rw [n2] at this
      simpa [nowN, nowK] using this
    rcases crash_cand (okay_settled hok1) e3 keep s hs with h | h
    · rw [h, hs1]
    · exact hX _ (List.mem_append.2 (.inr (List.mem_cons_of_mem _ h)))
end Go.Proofs.YtiakfdhbbkpfhaaGreatDoor
namespace Go.Proofs.YtiakfdhbbkpfhaaGreatDoor
open Go.RowKit Go.WideShapes Rm Dk

/-- A slot that was written anew: the new directory where all its sectors are new, else what was there, or none. -/
theorem slot_broken {lt : ByteArray → ByteArray → Prop} {count : Int} {xs0 xs : List Nat} {y : DirV} {o : Option DirV} (hy : IsDir lt y (bytesN y)) (hf : errK count (allPcs y.files) = 0) (h0 : xs0.length = 1024) (hg : ∀ i, i < 8 → ((beg8 (secAt xs0 i) : Nat) : Int) ≠ y.gen) (p : Nat → Bool)
    (hx : xs = (List.range 8).flatMap fun i => if p i = true then secAt (bytesN y) i else secAt xs0 i) (ho : SlotR lt count xs0 o) :
    ((∀ i, i < 8 → p i = true) ∧ SlotR lt count xs (some y)) ∨ (¬ (∀ i, i < 8 → p i = true) ∧ ∃ o', SlotR lt count xs o' ∧ (o' = o ∨ o' = none)) := by
  by_cases hp : ∀ i, i < 8 → p i = true
  · refine .inl ⟨hp, ?_⟩
    rcases mix_cases hy h0 hg p hx with ⟨_, h2⟩ | ⟨h1, _⟩ | h1
    · exact ⟨h2 ▸ hy, hf⟩
    · have a := h1 0 (by omega); rw [hp 0 (by omega)] at a; cases a
    · exfalso
      refine h1 y ?_
      rw [hx, flat_congr (g := secAt (bytesN y)) (fun i hi => by rw [if_pos (hp i hi)]), eight_secs (bytes_len hy)]
      exact hy
  · refine .inr ⟨hp, ?_⟩
    rcases mix_cases hy h0 hg p hx with ⟨h1, _⟩ | ⟨_, h2⟩ | h1
    · exact absurd h1 hp
    · exact ⟨o, h2 ▸ ho, .inl rfl⟩
    · exact ⟨none, fun z hz => absurd hz (h1 z), .inr rfl⟩
/-- What counts, told from the slot that counted before: 'a' is that one, 'o' the other. -/
def mountS (at_ : Nat) (a o : Option DirV) : Option (DirV × Int) := if at_ = 0 then mountR a o else mountR o a
abbrev flA : Bool × Int × List Nat := (true, 0, [])
def slotA (other : Nat) (y : DirV) : Acts := (List.range 8).map fun i => (false, ((other + i : Nat) : Int), secAt (bytesN y) i)
def turnA (F : Acts) (other : Nat) (y : DirV) : Acts := (if F = [] then [] else F ++ [flA]) ++ (slotA other y ++ [flA])
structure FileActs (count : Int) (x : DirV) (F : Acts) : Prop where
  each : ∀ a ∈ F, a.1 = false ∧ ∃ s : Nat, a.2.1 = (s : Int) ∧ 80 ≤ s ∧ (s : Int) < count ∧ cov (allPcs x.files) s = false
  once : ∀ (s : Int) (u v : List Nat), (false, s, u) ∈ F → (false, s, v) ∈ F → u = v
theorem turnA_mem {F : Acts} {other : Nat} {y : DirV} {s : Nat} {X : List Nat} (h : (false, (s : Int), X) ∈ turnA F other y) : (false, (s : Int), X) ∈ F ∨ ∃ i, i < 8 ∧ s = other + i ∧ X = secAt (bytesN y) i := by
  unfold turnA at h
  rcases List.mem_append.1 h with h | h
  · split at h
    · cases h
    · rcases List.mem_append.1 h with h | h
      · exact .inl h
      · simp [flA] at h
  · rcases List.mem_append.1 h with h | h
    · obtain ⟨i, hi, e⟩ := List.mem_map.1 h
      simp only [Prod.mk.injEq, true_and] at e
      exact .inr ⟨i, List.mem_range.1 hi, by omega, e.2.symm⟩
    · simp [flA] at h
theorem slot_secs {Y : List Nat} (a : Nat) : slotK Y [] a 8 = (List.range 8).flatMap fun i => secN Y (a + i) := by
  unfold slotK
  refine flat_congr (fun i _ => ?_)
  show secN Y ((a + i : Nat) : Int).toNat = _
  rw [Int.toNat_natCast]
theorem turn_broken {lt : ByteArray → ByteArray → Prop} {count : Int} {data D : List Nat} {W : Puts} {x y : DirV} {o : Option DirV} {F : Acts} {at_ other : Nat} (n : Nat) (keep : List Bool)
    (hao : (at_ = 0 ∧ other = 8) ∨ (at_ = 8 ∧ other = 0)) (ho : Okay count data []) (hc : 96 ≤ count) (hsx : SlotR lt count (slotK data [] at_ 8) (some x)) (hso : SlotR lt count (slotK data [] other 8) o) (hm : mountS at_ (some x) o = some (x, (at_ : Int)))
    (hy : IsDir lt y (bytesN y)) (hf : errK count (allPcs y.files) = 0) (hxy : x.gen < y.gen) (hg : ∀ i, i < 8 → ((beg8 (secN data (other + i)) : Nat) : Int) ≠ y.gen) (hF : FileActs count x F)
    (hn : n ≤ (turnA F other y).length) (e : doN count (data, []) ((turnA F other y).take n) = .ok (D, W)) :
    ∃ o', SlotR lt count (slotK (crashN D W keep) [] at_ 8) (some x) ∧ SlotR lt count (slotK (crashN D W keep) [] other 8) o' ∧
      ((n < (turnA F other y).length ∧ mountS at_ (some x) o' = some (x, (at_ : Int)) ∧ ∀ s : Nat, cov (allPcs x.files) s = true → secN (crashN D W keep) s = secN data s) ∨
       (mountS at_ (some x) o' = some (y, (other : Int)) ∧ (∀ (s : Nat) (X : List Nat), (false, (s : Int), X) ∈ F → secN (crashN D W keep) s = X) ∧ ∀ s : Nat, cov (allPcs x.files) s = true → secN (crashN D W keep) s = secN data s)) := by
  have hcand : ∀ s : Nat, (s : Int) < count → secN (crashN D W keep) s = secN data s ∨ (false, (s : Int), secN (crashN D W keep) s) ∈ (turnA F other y).take n := fun s hs => crash_cand ho e keep s hs
  generalize hY : crashN D W keep = Y at *
  have hcov : ∀ s : Nat, cov (allPcs x.files) s = true → secN Y s = secN data s := by
    intro s hs
    obtain ⟨p, hp, a, b⟩ := cov_iff.1 hs
    have hw := (errK_zero hsx.2).2.2.wn p hp
    obtain ⟨f, hff, hpf⟩ := List.mem_flatMap.1 hp
    have h80 := (hsx.1.1.each f hff).2.2.2.1 p hpf
    unfold Wn at hw
    rcases hcand s (by omega) with h | h
    · exact h
    · rcases turnA_mem (List.mem_of_mem_take h) with h | ⟨i, hi, e1, _⟩
      · obtain ⟨_, s', e', _, _, hn'⟩ := hF.each _ h
        simp only at e'
        rw [show (s' : Int) = (s : Int) by omega] at hn'
        rw [hs] at hn'
        cases hn'
      · omega
  have hat : slotK Y [] at_ 8 = slotK data [] at_ 8 := by
    rw [slot_secs, slot_secs]
    refine flat_congr fun i hi => ?_
    rcases hcand (at_ + i) (by omega) with h | h
    · exact h
    · rcases turnA_mem (List.mem_of_mem_take h) with h | ⟨j, hj, e1, _⟩
      · obtain ⟨_, s', e', h80, _⟩ := hF.each _ h
        simp only at e'
        omega
      · omega
  have hoth : slotK Y [] other 8 = (List.range 8).flatMap fun i => if (decide (secN Y (other + i) = secAt (bytesN y) i)) = true then secAt (bytesN y) i else secAt (slotK data [] other 8) i := by
    rw [slot_secs]
    refine flat_congr fun i hi => ?_
    have e8 : secAt (slotK data [] other 8) i = secN data (other + i) := by
      rw [slot_secs]
      unfold secAt
      exact flat_at (c := 128) (f := fun i => secN data (other + i)) (fun j hj => secN_len (by have := ho.len; have := ho.hi; omega)) hi
    rw [e8]
    by_cases hd : secN Y (other + i) = secAt (bytesN y) i
    · rw [if_pos (by rw [decide_eq_true hd]), hd]
    · rw [if_neg (by rw [decide_eq_false hd]; decide)]
      rcases hcand (other + i) (by omega) with h | h
      · exact h
      · rcases turnA_mem (List.mem_of_mem_take h) with h | ⟨j, hj, e1, e2⟩
        · obtain ⟨_, s', e', h80, _⟩ := hF.each _ h
          simp only at e'
          omega
        · obtain rfl : i = j := by omega
          exact absurd e2 hd
  have hlen : (slotK data [] other 8).length = 1024 := slotK_len ho (by omega)
  have hgs : ∀ i, i < 8 → ((beg8 (secAt (slotK data [] other 8) i) : Nat) : Int) ≠ y.gen := by
    intro i hi
    have e8 : secAt (slotK data [] other 8) i = secN data (other + i) := by
      rw [slot_secs]
      unfold secAt
      exact flat_at (c := 128) (f := fun i => secN data (other + i)) (fun j hj => secN_len (by have := ho.len; have := ho.hi; omega)) hi
    rw [e8]
    exact hg i hi
  rcases slot_broken hy hf hlen hgs _ hoth hso with ⟨hp, hs⟩ | ⟨hp, o', hs, ho'⟩
  · refine ⟨some y, hat ▸ hsx, hs, .inr ⟨?_, ?_, hcov⟩⟩
    · unfold mountS
      rcases hao with ⟨rfl, rfl⟩ | ⟨rfl, rfl⟩
      · show (if x.gen < y.gen then some (y, (8 : Int)) else some (x, 0)) = _
        rw [if_pos hxy]; rfl
      · show (if y.gen < x.gen then some (x, (8 : Int)) else some (y, 0)) = _
        rw [if_neg (by omega)]; rfl
    · intro s X hX
      have h0 : secN Y (other + 0) = secAt (bytesN y) 0 := of_decide_eq_true (hp 0 (by omega))
      have hne : F ≠ [] := by rintro rfl; cases hX
      have hin : ∃ Z, (false, ((other + 0 : Nat) : Int), Z) ∈ (turnA F other y).take n := by
        rcases hcand (other + 0) (by omega) with h | h
        · exfalso
          have a := hg 0 (by omega)
          rw [← h, h0] at a
          exact a (sec_bytes hy (by omega)).2
        · exact ⟨_, h⟩
      obtain ⟨Z, hZ⟩ := hin
      have hsplit : turnA F other y = (F ++ [flA]) ++ (slotA other y ++ [flA]) := by unfold turnA; rw [if_neg hne]
      have hlong : (F ++ [flA]).length ≤ n := by
        apply Classical.byContradiction
        intro hlt
        rw [hsplit, List.take_append_of_le_length (by omega)] at hZ
        rcases List.mem_append.1 (List.mem_of_mem_take hZ) with h | h
        · obtain ⟨_, s', e', h80, _⟩ := hF.each _ h
          simp only at e'
          omega
        · simp [flA] at h
      have htake : (turnA F other y).take n = F ++ flA :: ((slotA other y ++ [flA]).take (n - (F ++ [flA]).length)) := by
        rw [hsplit, List.take_append, List.take_of_length_le hlong]
        simp
      rw [htake] at e
      obtain ⟨_, s', e', h80, hsc, _⟩ := hF.each _ hX
      simp only at e'
      have hk := crash_sure (y := flA) ho rfl e keep s (by omega) X (fun u hu => ?_) hX
      · rw [hY] at hk; exact hk
      · rw [← htake] at hu
        rcases turnA_mem (List.mem_of_mem_take hu) with h | ⟨i, hi, e1, _⟩
        · exact hF.once _ _ _ h hX
        · omega
  · refine ⟨o', hat ▸ hsx, hs, .inl ⟨?_, ?_, hcov⟩⟩
    · apply Classical.byContradiction
      intro hlt
      apply hp
      intro i hi
      refine decide_eq_true ?_
      have hfull : (turnA F other y).take n = (if F = [] then [] else F ++ [flA]) ++ slotA other y ++ flA :: [] := by
        rw [List.take_of_length_le (by omega)]
        unfold turnA
        rw [List.append_assoc]
      have e2 := e
      rw [hfull] at e2
      have hk := crash_sure (y := flA) ho rfl e2 keep (other + i) (by omega) (secAt (bytesN y) i) (fun u hu => ?_) (List.mem_append.2 (.inr (List.mem_map.2 ⟨i, List.mem_range.2 hi, rfl⟩)))
      · rw [hY] at hk; exact hk
      · rw [← hfull] at hu
        rcases turnA_mem (List.mem_of_mem_take hu) with h | ⟨j, hj, e1, e3⟩
        · obtain ⟨_, s', e', h80, _⟩ := hF.each _ h
          simp only at e'
          omega
        · obtain rfl : i = j := by omega
          exact e3
    · rcases ho' with rfl | rfl
      · exact hm
      · unfold mountS
        rcases hao with ⟨rfl, rfl⟩ | ⟨rfl, rfl⟩
        · rfl
        · rfl
end Go.Proofs.YtiakfdhbbkpfhaaGreatDoor
namespace Go.Proofs.YtiakfdhbbkpfhaaGreatDoor
open Go.RowKit Go.WideShapes Rm Dk

/-- The greatest of a Gen and of what the first k sectors begin with, those that are no Gen left out. -/
def genK (data : List Nat) (ws : Puts) (other : Nat) (g : Int) : Nat → Int
  | 0 => g
  | k + 1 => if beg8 (nowN data ws ((other + k : Nat) : Int)) < 4611686018427387904 then max (genK data ws other g k) (beg8 (nowN data ws ((other + k : Nat) : Int)) : Nat) else genK data ws other g k
theorem genK_le (data : List Nat) (ws : Puts) (other : Nat) (g : Int) : ∀ k, g ≤ genK data ws other g k
  | 0 => Int.le_refl _
  | k + 1 => by
    have := genK_le data ws other g k
    unfold genK
    split <;> omega
theorem genK_hi (data : List Nat) (ws : Puts) (other : Nat) (g : Int) (hg : g < 4611686018427387904) : ∀ k, genK data ws other g k < 4611686018427387904
  | 0 => hg
  | k + 1 => by
    have := genK_hi data ws other g hg k
    unfold genK
    split <;> omega
theorem genK_has (data : List Nat) (ws : Puts) (other : Nat) (g : Int) : ∀ k i, i < k → beg8 (nowN data ws ((other + i : Nat) : Int)) < 4611686018427387904 → ((beg8 (nowN data ws ((other + i : Nat) : Int)) : Nat) : Int) ≤ genK data ws other g k
  | k + 1, i, hi, hb => by
    unfold genK
    by_cases e : i = k
    · subst e
      rw [if_pos hb]
      omega
    · have := genK_has data ws other g k i (by omega) hb
      split <;> omega
/-- The new Gen is above the old one, and none of the other slot's sectors begins with it. -/
theorem next_fresh {data : List Nat} {ws : Puts} {other : Nat} {g G : Int} (h : genK data ws other g 8 + 1 = G) (hG : G < 4611686018427387904) : g < G ∧ ∀ i, i < 8 → ((beg8 (nowN data ws ((other + i : Nat) : Int)) : Nat) : Int) ≠ G := by
  have h1 := genK_le data ws other g 8
  refine ⟨by omega, fun i hi e => ?_⟩
  have := genK_has data ws other g 8 i hi (by omega)
  omega

/-! ### lists that rise by a key -/
theorem rise_ext {α : Type} {R : α → α → Prop} (irr : ∀ a, ¬ R a a) (tr : ∀ a b c, R a b → R b c → R a c) : ∀ {a b : List α}, a.Pairwise R → b.Pairwise R → (∀ n, n ∈ a ↔ n ∈ b) → a = b
  | [], [], _, _, _ => rfl
  | [], y :: b, _, _, h => by have := (h y).2 (by simp); simp at this
  | x :: a, [], _, _, h => by have := (h x).1 (by simp); simp at this
  | x :: a, y :: b, ha, hb, h => by
    rw [List.pairwise_cons] at ha hb
    have hxy : x = y := by
      rcases List.mem_cons.1 ((h x).1 (by simp)) with h1 | h1
      · exact h1
      · rcases List.mem_cons.1 ((h y).2 (by simp)) with h2 | h2
        · exact h2.symm
        · exact absurd (tr _ _ _ (ha.1 y h2) (hb.1 x h1)) (irr _)
    subst hxy
    congr 1
    refine rise_ext irr tr ha.2 hb.2 fun n => ?_
    constructor
    · intro hn
      rcases List.mem_cons.1 ((h n).1 (List.mem_cons_of_mem _ hn)) with rfl | h1
      · exact absurd (ha.1 _ hn) (irr _)
      · exact h1
    · intro hn
      rcases List.mem_cons.1 ((h n).2 (List.mem_cons_of_mem _ hn)) with rfl | h1
      · exact absurd (hb.1 _ hn) (irr _)
      · exact h1
/-- One put among others by its key, as the statement tells it: those below, it, those above. -/
def putIn {α κ : Type} [DecidableEq κ] (key : α → κ) (lt : κ → κ → Bool) (k : κ) (new : Option α) (l : List α) : List α := l.filter (fun a => lt (key a) k) ++ new.toList ++ l.filter (fun a => lt k (key a))
theorem mem_putIn {α κ : Type} [DecidableEq κ] {key : α → κ} {lt : κ → κ → Bool} (tot : ∀ a b, a ≠ b → lt a b = true ∨ lt b a = true) (irr : ∀ a, lt a a = false) {k : κ} {new : Option α} {l : List α} {a : α} : a ∈ putIn key lt k new l ↔ (a ∈ l ∧ key a ≠ k) ∨ new = some a := by
  unfold putIn
  simp only [List.mem_append, List.mem_filter, Option.mem_toList]
  constructor
  · rintro ((⟨h1, h2⟩ | h) | ⟨h1, h2⟩)
    · exact .inl ⟨h1, fun e => by rw [e, irr] at h2; cases h2⟩
    · exact .inr h
    · exact .inl ⟨h1, fun e => by rw [e, irr] at h2; cases h2⟩
  · rintro (⟨h1, h2⟩ | h)
    · rcases tot _ _ h2 with h3 | h3
      · exact .inl (.inl ⟨h1, h3⟩)
      · exact .inr ⟨h1, h3⟩
    · exact .inl (.inr h)
theorem putIn_up {α κ : Type} [DecidableEq κ] {key : α → κ} {lt : κ → κ → Bool} (tr : ∀ a b c, lt a b = true → lt b c = true → lt a c = true) {k : κ} {new : Option α} {l : List α} (hl : l.Pairwise fun a b => lt (key a) (key b) = true) (hn : ∀ a, new = some a → key a = k) : (putIn key lt k new l).Pairwise fun a b => lt (key a) (key b) = true := by
  unfold putIn
  rw [List.pairwise_append, List.pairwise_append]
  refine ⟨⟨hl.filter _, ?_, fun a ha b hb => ?_⟩, hl.filter _, fun a ha b hb => ?_⟩
  · cases new <;> simp
  · rw [Option.mem_toList] at hb
    rw [hn b hb]
    exact (List.mem_filter.1 ha).2
  · have h2 := (List.mem_filter.1 hb).2
    rcases List.mem_append.1 ha with ha | ha
    · exact tr _ _ _ (List.mem_filter.1 ha).2 h2
    · rw [Option.mem_toList] at ha
      rw [hn a ha]
      exact h2
/-- Changes one behind the other. -/
def putAll {α κ : Type} [DecidableEq κ] (key : α → κ) (lt : κ → κ → Bool) (cs : List (κ × Option α)) (l : List α) : List α := cs.foldl (fun l c => putIn key lt c.1 c.2 l) l
theorem mem_putAll {α κ : Type} [DecidableEq κ] {key : α → κ} {lt : κ → κ → Bool} (tot : ∀ a b, a ≠ b → lt a b = true ∨ lt b a = true) (irr : ∀ a, lt a a = false) {a : α} : ∀ {cs : List (κ × Option α)} {l : List α}, cs.Pairwise (fun c d => c.1 ≠ d.1) → (∀ c ∈ cs, ∀ b, c.2 = some b → key b = c.1) →
    (a ∈ putAll key lt cs l ↔ (a ∈ l ∧ ∀ c ∈ cs, key a ≠ c.1) ∨ ∃ c ∈ cs, c.2 = some a)
  | [], l, _, _ => by simp [putAll]
  | c :: cs, l, hp, hk => by
    rw [List.pairwise_cons] at hp
    have ih := mem_putAll tot irr (a := a) (cs := cs) (l := putIn key lt c.1 c.2 l) hp.2 (fun d hd => hk d (List.mem_cons_of_mem _ hd))
    have e : putAll key lt (c :: cs) l = putAll key lt cs (putIn key lt c.1 c.2 l) := rfl
    rw [e, ih, mem_putIn tot irr]
    constructor
    · rintro (⟨⟨h1, h2⟩ | h1, h3⟩ | ⟨d, hd, h⟩)
      · refine .inl ⟨h1, fun d hd => ?_⟩
        rcases List.mem_cons.1 hd with rfl | hd
        · exact h2
        · exact h3 d hd
      · exact .inr ⟨c, by simp, h1⟩
      · exact .inr ⟨d, List.mem_cons_of_mem _ hd, h⟩
    · rintro (⟨h1, h2⟩ | ⟨d, hd, h⟩)
      · exact .inl ⟨.inl ⟨h1, h2 c (by simp)⟩, fun d hd => h2 d (List.mem_cons_of_mem _ hd)⟩
      · rcases List.mem_cons.1 hd with rfl | hd
        · refine .inl ⟨.inr h, fun d' hd' => ?_⟩
          rw [hk d (by simp) a h]
          exact hp.1 d' hd'
        · exact .inr ⟨d, hd, h⟩
theorem putAll_up {α κ : Type} [DecidableEq κ] {key : α → κ} {lt : κ → κ → Bool} (tr : ∀ a b c, lt a b = true → lt b c = true → lt a c = true) : ∀ {cs : List (κ × Option α)} {l : List α}, l.Pairwise (fun a b => lt (key a) (key b) = true) → (∀ c ∈ cs, ∀ b, c.2 = some b → key b = c.1) → (putAll key lt cs l).Pairwise fun a b => lt (key a) (key b) = true
  | [], _, hl, _ => hl
  | c :: cs, l, hl, hk => putAll_up tr (cs := cs) (l := putIn key lt c.1 c.2 l) (putIn_up tr hl (hk c (by simp))) (fun d hd => hk d (List.mem_cons_of_mem _ hd))
/-- What the statement tells by its words is the one list that rises and has these members. -/
theorem putAll_only {α κ : Type} [DecidableEq κ] {key : α → κ} {lt : κ → κ → Bool} (tot : ∀ a b, a ≠ b → lt a b = true ∨ lt b a = true) (irr : ∀ a, lt a a = false) (tr : ∀ a b c, lt a b = true → lt b c = true → lt a c = true) {cs : List (κ × Option α)} {l m : List α} (hp : cs.Pairwise (fun c d => c.1 ≠ d.1)) (hk : ∀ c ∈ cs, ∀ b, c.2 = some b → key b = c.1)
    (hl : l.Pairwise fun a b => lt (key a) (key b) = true) (hm : m.Pairwise fun a b => lt (key a) (key b) = true) (h : ∀ a, a ∈ m ↔ (a ∈ l ∧ ∀ c ∈ cs, key a ≠ c.1) ∨ ∃ c ∈ cs, c.2 = some a) : putAll key lt cs l = m :=
  rise_ext (R := fun a b => lt (key a) (key b) = true) (fun a h => by rw [irr] at h; cases h) (fun a b c => tr _ _ _) (putAll_up tr hl hk) hm (fun a => (mem_putAll tot irr hp hk).trans (h a).symm)
end Go.Proofs.YtiakfdhbbkpfhaaGreatDoor
namespace Go.Proofs.YtiakfdhbbkpfhaaGreatDoor
open Go.RowKit Go.WideShapes Rm Dk

/-- The files that are put, each with its sectors: the error, or the files. -/
def placeN (count : Int) : Pcs → List (ByteArray × List Nat) → Except Int (List FileV)
  | _, [] => .ok []
  | used, c :: cs =>
    if 4096 < needsN (c.2.length : Nat) then .error 30
    else if errT 80 count used (needsN (c.2.length : Nat)) ≠ 0 then .error (errT 80 count used (needsN (c.2.length : Nat)))
    else match placeN count (used ++ resT 80 count used (needsN (c.2.length : Nat))) cs with
      | .ok l => .ok (⟨c.1, (c.2.length : Nat), resT 80 count used (needsN (c.2.length : Nat))⟩ :: l)
      | .error e => .error e
theorem take_facts {count many : Int} {used : Pcs} (hz : 80 ≤ count ∧ count ≤ 4096) (h : errT 80 count used many = 0) : Rm.Good count (resT 80 count used many) ∧ (∀ n, n ∈ secs (resT 80 count used many) → cov used n = false) ∧ (∀ p ∈ resT 80 count used many, 80 ≤ p.1) ∧ sumC (resT 80 count used many) = many := by
  have hz' : (0 ≤ count ∧ count ≤ 4096) ∧ (0 : Int) ≤ 80 ∧ 80 ≤ count := ⟨⟨by omega, hz.2⟩, by omega, hz.1⟩
  rw [resT_ok h]
  have hm : 0 ≤ many ∧ many ≤ 4096 := Classical.byContradiction fun hn => by rw [errT_arg hn] at h; exact absurd h (by decide)
  have hF : errF 80 count used = 0 := Classical.byContradiction fun hn => by rw [errT_bad hm hn] at h; exact hn h
  have hfew : ¬ (((gotF 80 count used many.toNat).2 : Nat) : Int) < many := fun hlt => by rw [errT_few hm hF hlt] at h; exact absurd h (by decide)
  have hle : (gotF 80 count used many.toNat).2 ≤ many.toNat := runsK_le _ _ _ _
  refine ⟨got_good hz', got_free, fun p hp => ?_, ?_⟩
  · have := ((gotF_of 80 count used many.toNat).ends p hp).1
    simpa using this
  · have := got_sum 80 count used many.toNat
    have e : sumC (gotF 80 count used many.toNat).1 = sumP (gotF 80 count used many.toNat).1 := rfl
    rw [e, this]
    omega
theorem place_facts {count : Int} (hz : 80 ≤ count ∧ count ≤ 4096) : ∀ {cs : List (ByteArray × List Nat)} {used : Pcs} {l : List FileV}, Rm.Good count used → placeN count used cs = .ok l →
    Rm.Good count (used ++ allPcs l) ∧ l.map (fun f => (f.name, f.size)) = cs.map (fun c => (c.1, ((c.2.length : Nat) : Int))) ∧ (∀ f ∈ l, (∀ p ∈ f.pcs, 80 ≤ p.1) ∧ sumC f.pcs = needsN f.size ∧ 0 ≤ f.size ∧ f.size ≤ 524288)
  | [], used, l, hu, h => by
    simp only [placeN, Except.ok.injEq] at h
    subst h
    refine ⟨by simpa [allPcs] using hu, rfl, fun f hf => by cases hf⟩
  | c :: cs, used, l, hu, h => by
    unfold placeN at h
    split at h
    · cases h
    · rename_i h1
      split at h
      · cases h
      · rename_i h2
        have h2' : errT 80 count used (needsN (c.2.length : Nat)) = 0 := Classical.byContradiction h2
        obtain ⟨g1, g2, g3, g4⟩ := take_facts hz h2'
        split at h
        · rename_i l' hl
          simp only [Except.ok.injEq] at h
          subst h
          obtain ⟨i1, i2, i3⟩ := place_facts hz (good_app hu g1 g2) hl
          refine ⟨?_, ?_, fun f hf => ?_⟩
          · have e : allPcs (⟨c.1, ((c.2.length : Nat) : Int), resT 80 count used (needsN (c.2.length : Nat))⟩ :: l') = resT 80 count used (needsN (c.2.length : Nat)) ++ allPcs l' := by simp [allPcs]
            rw [e, ← List.append_assoc]
            exact i1
          · simp [i2]
          · rcases List.mem_cons.1 hf with rfl | hf
            · refine ⟨g3, g4, by show (0 : Int) ≤ (c.2.length : Nat); omega, ?_⟩
              show ((c.2.length : Nat) : Int) ≤ 524288
              unfold needsN at h1
              omega
            · exact i3 f hf
        · cases h
end Go.Proofs.YtiakfdhbbkpfhaaGreatDoor
