/-
  Files behind all acts of a turn, with no program; and that the acts can be done.
-/
import Derived.Test.YtkgmhmhphgaclabGreatDoorJ24
namespace Go.Proofs.YtkgmhmhphgaclabGreatDoor
open Go.RowKit Go.WideShapes Rm Dk

/-- The files that are put, each with its sectors: the error, or the files. -/
def placeN (count : Int) : Pcs → List (ByteArray × List Nat) → Except Int (List FileV)
  | _, [] => .ok []
  | used, c :: cs =>
    if 4096 < needsN (c.2.length : Nat) then .error 30
    else if errT 80 count used (needsN (c.2.length : Nat)) ≠ 0 then .error (errT 80 count used (needsN (c.2.length : Nat)))
    else match placeN count (used ++ resT 80 count used (needsN (c.2.length : Nat))) cs with
      | .ok l => .ok (⟨c.1, (c.2.length : Nat), resT 80 count used (needsN (c.2.length : Nat))⟩ :: l)
      | .error e => .error e
theorem take_facts {count many : Int} {used : Pcs} (hz : 80 ≤ count ∧ count ≤ 4096) (h : errT 80 count used many = 0) : Rm.Good count (resT 80 count used many) ∧ (∀ n, n ∈ secs (resT 80 count used many) → cov used n = false) ∧ (∀ p ∈ resT 80 count used many, 80 ≤ p.1) ∧ sumC (resT 80 count used many) = many := by
  have hz' : (0 ≤ count ∧ count ≤ 4096) ∧ (0 : Int) ≤ 80 ∧ 80 ≤ count := ⟨⟨by omega, hz.2⟩, by omega, hz.1⟩
  rw [resT_ok h]
  have hm : 0 ≤ many ∧ many ≤ 4096 := Classical.byContradiction fun hn => by rw [errT_arg hn] at h; exact absurd h (by decide)
  have hF : errF 80 count used = 0 := Classical.byContradiction fun hn => by rw [errT_bad hm hn] at h; exact hn h
  have hfew : ¬ (((gotF 80 count used many.toNat).2 : Nat) : Int) < many := fun hlt => by rw [errT_few hm hF hlt] at h; exact absurd h (by decide)
  have hle : (gotF 80 count used many.toNat).2 ≤ many.toNat := runsK_le _ _ _ _
  refine ⟨got_good hz', got_free, fun p hp => ?_, ?_⟩
  · have := ((gotF_of 80 count used many.toNat).ends p hp).1
    simpa using this
  · have := got_sum 80 count used many.toNat
    have e : sumC (gotF 80 count used many.toNat).1 = sumP (gotF 80 count used many.toNat).1 := rfl
    rw [e, this]
    omega
theorem place_facts {count : Int} (hz : 80 ≤ count ∧ count ≤ 4096) : ∀ {cs : List (ByteArray × List Nat)} {used : Pcs} {l : List FileV}, Rm.Good count used → placeN count used cs = .ok l →
    Rm.Good count (used ++ allPcs l) ∧ l.map (fun f => (f.name, f.size)) = cs.map (fun c => (c.1, ((c.2.length : Nat) : Int))) ∧ (∀ f ∈ l, (∀ p ∈ f.pcs, 80 ≤ p.1) ∧ sumC f.pcs = needsN f.size ∧ 0 ≤ f.size ∧ f.size ≤ 524288)
  | [], used, l, hu, h => by
    simp only [placeN, Except.ok.injEq] at h
    subst h
    refine ⟨by simpa [allPcs] using hu, rfl, fun f hf => by cases hf⟩
  | c :: cs, used, l, hu, h => by
    unfold placeN at h
    split at h
    · cases h
    · rename_i h1
      split at h
      · cases h
      · rename_i h2
        have h2' : errT 80 count used (needsN (c.2.length : Nat)) = 0 := Classical.byContradiction h2
        obtain ⟨g1, g2, g3, g4⟩ := take_facts hz h2'
        split at h
        · rename_i l' hl
          simp only [Except.ok.injEq] at h
          subst h
          obtain ⟨i1, i2, i3⟩ := place_facts hz (good_app hu g1 g2) hl
          refine ⟨?_, ?_, fun f hf => ?_⟩
          · have e : allPcs (⟨c.1, ((c.2.length : Nat) : Int), resT 80 count used (needsN (c.2.length : Nat))⟩ :: l') = resT 80 count used (needsN (c.2.length : Nat)) ++ allPcs l' := by simp [allPcs]
            rw [e, ← List.append_assoc]
            exact i1
          · simp [i2]
          · rcases List.mem_cons.1 hf with rfl | hf
            · refine ⟨g3, g4, by show (0 : Int) ≤ (c.2.length : Nat); omega, ?_⟩
              show ((c.2.length : Nat) : Int) ≤ 524288
              unfold needsN at h1
              omega
            · exact i3 f hf
        · cases h
end Go.Proofs.YtkgmhmhphgaclabGreatDoor
namespace Go.Proofs.YtkgmhmhphgaclabGreatDoor
open Go.RowKit Go.WideShapes Rm Dk

theorem good_either {count : Int} {l m : Pcs} (h : Rm.Good count (l ++ m)) {n : Int} (hm : cov m n = true) : cov l n = false := by
  refine cov_false.2 fun p hp hn => ?_
  obtain ⟨q, hq, a, b⟩ := cov_iff.1 hm
  have := (List.pairwise_append.1 h.apart).2.2 p hp q hq
  unfold Apart at this
  omega
theorem good_nodup {count : Int} {l : Pcs} (h : Rm.Good count l) : (secs l).Nodup := by
  obtain ⟨s, hp, hu⟩ := sorted_perm l
  have hg := h.perm hp
  have h1 : (secs s).Pairwise (· < ·) := secs_up (hg.chain hu) (fun p hp => by have := hg.wn p hp; unfold Wn at this; omega)
  have h2 : (secs s).Nodup := h1.imp (fun h => by omega)
  exact (List.Perm.flatMap_right _ hp).nodup_iff.2 h2
/-- A sector's part of a file's bytes. -/
def partN (v : List Nat) (k : Nat) : List Nat := (v.drop (k * 128)).take 128 ++ List.replicate (128 - ((v.drop (k * 128)).take 128).length) 0
theorem partN_len (v : List Nat) (k : Nat) : (partN v k).length = 128 := by
  unfold partN
  simp
  omega
def fileA (f : FileV) (v : List Nat) : Acts := (List.range (secs f.pcs).length).map fun k => (false, (secs f.pcs).getD k 0, partN v k)
def filesA : List FileV → List (List Nat) → Acts
  | f :: fs, v :: vs => fileA f v ++ filesA fs vs
  | _, _ => []
theorem fileA_mem {f : FileV} {v : List Nat} {a : Bool × Int × List Nat} (h : a ∈ fileA f v) : ∃ k, k < (secs f.pcs).length ∧ a = (false, (secs f.pcs).getD k 0, partN v k) := by
  obtain ⟨k, hk, e⟩ := List.mem_map.1 h
  exact ⟨k, List.mem_range.1 hk, e.symm⟩
theorem getD_mem2 {l : List Int} {k : Nat} (h : k < l.length) : l.getD k 0 ∈ l := by
  rw [List.getD_eq_getElem?_getD, List.getElem?_eq_getElem h]
  exact List.getElem_mem _
theorem filesA_sec : ∀ {fs : List FileV} {vs : List (List Nat)} {a : Bool × Int × List Nat}, a ∈ filesA fs vs → a.1 = false ∧ a.2.1 ∈ secs (allPcs fs)
  | f :: fs, v :: vs, a, h => by
    have e : secs (allPcs (f :: fs)) = secs f.pcs ++ secs (allPcs fs) := by rw [← secs_append]; simp [allPcs]
    rw [e]
    unfold filesA at h
    rcases List.mem_append.1 h with h | h
    · obtain ⟨k, hk, rfl⟩ := fileA_mem h
      exact ⟨rfl, List.mem_append.2 (.inl (getD_mem2 hk))⟩
    · obtain ⟨h1, h2⟩ := filesA_sec h
      exact ⟨h1, List.mem_append.2 (.inr h2)⟩
  | [], _, a, h => by unfold filesA at h; cases h
  | _ :: _, [], a, h => by unfold filesA at h; cases h
theorem filesA_once : ∀ {fs : List FileV} {vs : List (List Nat)}, (secs (allPcs fs)).Nodup → ∀ (s : Int) (u v : List Nat), (false, s, u) ∈ filesA fs vs → (false, s, v) ∈ filesA fs vs → u = v
  | f :: fs, x :: vs, hn, s, u, v, h1, h2 => by
    have e : secs (allPcs (f :: fs)) = secs f.pcs ++ secs (allPcs fs) := by rw [← secs_append]; simp [allPcs]
    rw [e, List.nodup_append] at hn
    unfold filesA at h1 h2
    rcases List.mem_append.1 h1 with h1 | h1
    · obtain ⟨k, hk, e1⟩ := fileA_mem h1
      simp only [Prod.mk.injEq, true_and] at e1
      rcases List.mem_append.1 h2 with h2 | h2
      · obtain ⟨j, hj, e2⟩ := fileA_mem h2
        simp only [Prod.mk.injEq, true_and] at e2
        have e3 : (secs f.pcs).getD k 0 = (secs f.pcs).getD j 0 := e1.1.symm.trans e2.1
        rw [List.getD_eq_getElem?_getD, List.getElem?_eq_getElem hk, List.getD_eq_getElem?_getD, List.getElem?_eq_getElem hj] at e3
        have : k = j := Classical.byContradiction fun hne => by
          rcases Nat.lt_or_gt_of_ne hne with hlt | hlt
          · exact List.pairwise_iff_getElem.1 hn.1 k j hk hj hlt e3
          · exact List.pairwise_iff_getElem.1 hn.1 j k hj hk hlt e3.symm
        rw [e1.2, e2.2, this]
      · exact absurd rfl (hn.2.2 s (e1.1 ▸ getD_mem2 hk) s (filesA_sec h2).2)
    · rcases List.mem_append.1 h2 with h2 | h2
      · obtain ⟨j, hj, e2⟩ := fileA_mem h2
        simp only [Prod.mk.injEq, true_and] at e2
        exact absurd rfl (hn.2.2 s (e2.1 ▸ getD_mem2 hj) s (filesA_sec h1).2)
      · exact filesA_once hn.2.1 s u v h1 h2
  | [], _, _, s, u, v, h, _ => by unfold filesA at h; cases h
  | _ :: _, [], _, s, u, v, h, _ => by unfold filesA at h; cases h
theorem filesA_acts {count : Int} {x : DirV} {fs : List FileV} {vs : List (List Nat)} (hg : Rm.Good count (allPcs x.files ++ allPcs fs)) (h80 : ∀ p ∈ allPcs fs, 80 ≤ p.1) : FileActs count x (filesA fs vs) := by
  refine ⟨fun a ha => ?_, filesA_once (good_nodup hg.right)⟩
  obtain ⟨h1, h2⟩ := filesA_sec ha
  have hc := mem_secs.1 h2
  obtain ⟨p, hp, b1, b2⟩ := cov_iff.1 hc
  have hw := hg.right.wn p hp
  have h3 := h80 p hp
  unfold Wn at hw
  have e : ((a.2.1.toNat : Nat) : Int) = a.2.1 := by omega
  refine ⟨h1, a.2.1.toNat, e.symm, by omega, by omega, ?_⟩
  rw [e]
  exact good_either hg hc
theorem filesA_in : ∀ {fs : List FileV} {vs : List (List Nat)} {f : FileV} {v : List Nat}, (f, v) ∈ fs.zip vs → ∀ k, k < (secs f.pcs).length → (false, (secs f.pcs).getD k 0, partN v k) ∈ filesA fs vs
  | f :: fs, x :: vs, g, v, h, k, hk => by
    unfold filesA
    rw [List.zip_cons_cons] at h
    rcases List.mem_cons.1 h with h | h
    · simp only [Prod.mk.injEq] at h
      obtain ⟨rfl, rfl⟩ := h
      exact List.mem_append.2 (.inl (List.mem_map.2 ⟨k, List.mem_range.2 hk, rfl⟩))
    · exact List.mem_append.2 (.inr (filesA_in h k hk))
theorem flat_getD {l : List Int} (g : Int → List Nat) : l.flatMap g = (List.range l.length).flatMap fun k => g (l.getD k 0) := by
  induction l with
  | nil => rfl
  | cons n l ih =>
    rw [List.flatMap_cons, ih, List.length_cons, List.range_succ_eq_map, List.flatMap_cons, List.flatMap_map]
    rfl
theorem parts_take (v : List Nat) : ∀ k, ((List.range k).flatMap (partN v)).take v.length = v.take (k * 128)
  | 0 => by simp
  | k + 1 => by
    have ih := parts_take v k
    have hl : ((List.range k).flatMap (partN v)).length = k * 128 := flat_len (fun i _ => partN_len v i)
    rw [List.range_succ, List.flatMap_append, List.take_append, ih, hl]
    simp only [List.flatMap_cons, List.flatMap_nil, List.append_nil]
    by_cases h : v.length ≤ k * 128
    · rw [show v.length - k * 128 = 0 by omega, List.take_zero, List.append_nil, List.take_of_length_le (by omega), List.take_of_length_le (by omega)]
    · have e : (partN v k).take (v.length - k * 128) = (v.drop (k * 128)).take 128 := by
        unfold partN
        rw [List.take_append, List.take_of_length_le (by simp; omega)]
        have : v.length - k * 128 - ((v.drop (k * 128)).take 128).length = 0 ∨ 128 - ((v.drop (k * 128)).take 128).length = 0 := by
          rw [List.length_take, List.length_drop]
          omega
        rcases this with h1 | h1
        · rw [h1, List.take_zero, List.append_nil]
        · rw [h1]; simp
      rw [e, show (k + 1) * 128 = k * 128 + 128 by omega, List.take_add]
/-- A file whose sectors are written has its bytes. -/
theorem file_new {Y : List Nat} {f : FileV} {v : List Nat} (hs : f.size = (v.length : Nat)) (hn : ((secs f.pcs).length : Int) = needsN f.size) (h : ∀ k, k < (secs f.pcs).length → nowN Y [] ((secs f.pcs).getD k 0) = partN v k) : fileD Y [] f = v := by
  unfold fileD secsD
  rw [flat_getD, flat_congr (g := partN v) (fun k hk => h k hk), hs, Int.toNat_natCast, parts_take]
  refine List.take_of_length_le ?_
  unfold needsN at hn
  rw [hs] at hn
  omega
end Go.Proofs.YtkgmhmhphgaclabGreatDoor
namespace Go.Proofs.YtkgmhmhphgaclabGreatDoor
open Go.RowKit Go.WideShapes Rm Dk

theorem now_empty (Y : List Nat) (n : Int) : nowN Y [] n = secN Y n.toNat := rfl
theorem file_same {Y data : List Nat} {count : Int} {l : List FileV} {f : FileV} (hf : f ∈ l) (hg : Rm.Good count (allPcs l)) (h : ∀ s : Nat, cov (allPcs l) s = true → secN Y s = secN data s) : fileD Y [] f = fileD data [] f := by
  unfold fileD secsD
  congr 1
  rw [flat_getD, flat_getD]
  refine flat_congr fun k hk => ?_
  rw [now_empty, now_empty]
  have hm : (secs f.pcs).getD k 0 ∈ secs f.pcs := getD_mem2 hk
  generalize (secs f.pcs).getD k 0 = n at hm
  obtain ⟨p, hp, a, b⟩ := cov_iff.1 (mem_secs.1 hm)
  have hw := hg.wn p (mem_allPcs hf hp)
  unfold Wn at hw
  refine h n.toNat ?_
  rw [show ((n.toNat : Nat) : Int) = n by omega]
  exact cov_iff.2 ⟨p, mem_allPcs hf hp, a, b⟩
theorem turn_files {lt : ByteArray → ByteArray → Prop} {count : Int} {data D : List Nat} {W : Puts} {x y : DirV} {o : Option DirV} {fs : List FileV} {vs : List (List Nat)} {at_ other : Nat} (n : Nat) (keep : List Bool)
    (hao : (at_ = 0 ∧ other = 8) ∨ (at_ = 8 ∧ other = 0)) (ho : Okay count data []) (hc : 96 ≤ count) (hsx : SlotR lt count (slotK data [] at_ 8) (some x)) (hso : SlotR lt count (slotK data [] other 8) o) (hm : mountS at_ (some x) o = some (x, (at_ : Int)))
    (hy : IsDir lt y (bytesN y)) (hf : errK count (allPcs y.files) = 0) (hxy : x.gen < y.gen) (hg : ∀ i, i < 8 → ((beg8 (secN data (other + i)) : Nat) : Int) ≠ y.gen)
    (hgo : Rm.Good count (allPcs x.files ++ allPcs fs)) (h80 : ∀ p ∈ allPcs fs, 80 ≤ p.1) (hfs : ∀ f ∈ fs, sumC f.pcs = needsN f.size) (hvs : ∀ f v, (f, v) ∈ fs.zip vs → f.size = (v.length : Nat))
    (hn : n ≤ (turnA (filesA fs vs) other y).length) (e : doN count (data, []) ((turnA (filesA fs vs) other y).take n) = .ok (D, W)) :
    ∃ o', SlotR lt count (slotK (crashN D W keep) [] at_ 8) (some x) ∧ SlotR lt count (slotK (crashN D W keep) [] other 8) o' ∧ (∀ f ∈ x.files, fileD (crashN D W keep) [] f = fileD data [] f) ∧
      ((n < (turnA (filesA fs vs) other y).length ∧ mountS at_ (some x) o' = some (x, (at_ : Int))) ∨
       (mountS at_ (some x) o' = some (y, (other : Int)) ∧ ∀ f v, (f, v) ∈ fs.zip vs → fileD (crashN D W keep) [] f = v)) := by
  obtain ⟨o', h1, h2, h3⟩ := turn_broken n keep hao ho hc hsx hso hm hy hf hxy hg (filesA_acts hgo h80) hn e
  have hcov : ∀ s : Nat, cov (allPcs x.files) s = true → secN (crashN D W keep) s = secN data s := by
    rcases h3 with ⟨_, _, h⟩ | ⟨_, _, h⟩
    · exact h
    · exact h
  refine ⟨o', h1, h2, fun f hf' => file_same hf' hgo.left hcov, ?_⟩
  rcases h3 with ⟨h4, h5, _⟩ | ⟨h4, h5, _⟩
  · exact .inl ⟨h4, h5⟩
  · refine .inr ⟨h4, fun f v hz => ?_⟩
    have hff : f ∈ fs := (List.of_mem_zip hz).1
    have hgf : Rm.Good count f.pcs := by
      obtain ⟨a, b, e2⟩ := List.append_of_mem hff
      have e3 : allPcs fs = allPcs a ++ (f.pcs ++ allPcs b) := by rw [e2]; simp [allPcs]
      have := hgo.right
      rw [e3] at this
      exact this.right.left
    have hlen : ((secs f.pcs).length : Int) = needsN f.size := by
      rw [secs_len_sum (fun p hp => by have := hgf.wn p hp; unfold Wn at this; omega)]
      exact hfs f hff
    refine file_new (hvs f v hz) hlen fun k hk => ?_
    have hin := filesA_in hz k hk
    have hm' : (secs f.pcs).getD k 0 ∈ secs f.pcs := getD_mem2 hk
    rw [now_empty]
    generalize (secs f.pcs).getD k 0 = s at hm' hin ⊢
    obtain ⟨p, hp, a, b⟩ := cov_iff.1 (mem_secs.1 hm')
    have hw := hgf.wn p hp
    unfold Wn at hw
    refine h5 s.toNat _ ?_
    rw [show ((s.toNat : Nat) : Int) = s by omega]
    exact hin
end Go.Proofs.YtkgmhmhphgaclabGreatDoor
namespace Go.Proofs.YtkgmhmhphgaclabGreatDoor
open Go.RowKit Go.WideShapes Rm Dk

theorem now_put {count : Int} {data D : List Nat} {ws W : Puts} {C : Acts} {s : Nat} {X : List Nat} (hs : (s : Int) < count) (ho : Okay count data ws) (e : doN count (data, ws) C = .ok (D, W)) (hX : ∀ x, (false, (s : Int), x) ∈ C → x = X) (hin : (false, (s : Int), X) ∈ C) : nowN D W (s : Int) = X := by
  rcases now_do (X := X) hs C [] (st := (data, ws)) (st' := (D, W)) ho (.inl (fun x hx => by cases hx)) hX e with h | h
  · exact absurd (by simpa using hin) (h X)
  · exact h
theorem now_keep {count : Int} {data D : List Nat} {ws W : Puts} {C : Acts} {s : Nat} (hs : (s : Int) < count) (ho : Okay count data ws) (e : doN count (data, ws) C = .ok (D, W)) (hno : ∀ x, (false, (s : Int), x) ∉ C) : nowN D W (s : Int) = nowN data ws (s : Int) := by
  rcases now_do (X := nowN data ws (s : Int)) hs C [(false, (s : Int), nowN data ws (s : Int))] (st := (data, ws)) (st' := (D, W)) ho (.inr rfl) (fun x hx => absurd hx (hno x)) e with h | h
  · exact absurd (by simp) (h (nowN data ws (s : Int)))
  · exact h
theorem can_do {count : Int} : ∀ {B : Acts} {data : List Nat} {ws : Puts}, (∀ a ∈ B, a.1 = true ∨ (0 ≤ a.2.1 ∧ a.2.1 < count ∧ a.2.2.length = 128)) → ws.length + B.length ≤ 4096 → ∃ D W, doN count (data, ws) B = .ok (D, W)
  | [], data, ws, _, _ => ⟨data, ws, rfl⟩
  | a :: B, data, ws, h, hl => by
    simp only [List.length_cons] at hl
    by_cases hf : a.1 = true
    · obtain ⟨D, W, e⟩ := can_do (B := B) (data := settleN data ws) (ws := []) (fun b hb => h b (List.mem_cons_of_mem _ hb)) (by simp; omega)
      refine ⟨D, W, ?_⟩
      rw [← e]
      show (match stepA count (data, ws) a with | .ok s => doN count s B | .error e => .error e) = _
      unfold stepA
      rw [if_pos hf]
    · obtain ⟨h1, h2, h3⟩ := (h a (by simp)).resolve_left hf
      obtain ⟨D, W, e⟩ := can_do (B := B) (data := data) (ws := ws ++ [a.2]) (fun b hb => h b (List.mem_cons_of_mem _ hb)) (by simp; omega)
      refine ⟨D, W, ?_⟩
      rw [← e]
      show (match stepA count (data, ws) a with | .ok s => doN count s B | .error e => .error e) = _
      unfold stepA
      rw [if_neg hf, if_neg (by simp; omega), if_neg (by simp [h3]), if_neg (by simp; omega)]
theorem file_sameD {D data : List Nat} {W ws : Puts} {count : Int} {l : List FileV} {f : FileV} (hf : f ∈ l) (hg : Rm.Good count (allPcs l)) (h : ∀ s : Nat, cov (allPcs l) s = true → nowN D W (s : Int) = nowN data ws (s : Int)) : fileD D W f = fileD data ws f := by
  unfold fileD secsD
  congr 1
  rw [flat_getD, flat_getD]
  refine flat_congr fun k hk => ?_
  have hm : (secs f.pcs).getD k 0 ∈ secs f.pcs := getD_mem2 hk
  generalize (secs f.pcs).getD k 0 = n at hm
  obtain ⟨p, hp, a, b⟩ := cov_iff.1 (mem_secs.1 hm)
  have hw := hg.wn p (mem_allPcs hf hp)
  unfold Wn at hw
  have := h n.toNat (by rw [show ((n.toNat : Nat) : Int) = n by omega]; exact cov_iff.2 ⟨p, mem_allPcs hf hp, a, b⟩)
  rw [show ((n.toNat : Nat) : Int) = n by omega] at this
  exact this
theorem file_newD {D : List Nat} {W : Puts} {f : FileV} {v : List Nat} (hs : f.size = (v.length : Nat)) (hn : ((secs f.pcs).length : Int) = needsN f.size) (h : ∀ k, k < (secs f.pcs).length → nowN D W ((secs f.pcs).getD k 0) = partN v k) : fileD D W f = v := by
  unfold fileD secsD
  rw [flat_getD, flat_congr (g := partN v) (fun k hk => h k hk), hs, Int.toNat_natCast, parts_take]
  refine List.take_of_length_le ?_
  unfold needsN at hn
  rw [hs] at hn
  omega
theorem turn_done {lt : ByteArray → ByteArray → Prop} {count : Int} {data D : List Nat} {ws W : Puts} {x y : DirV} {fs : List FileV} {vs : List (List Nat)} {at_ other : Nat}
    (hao : (at_ = 0 ∧ other = 8) ∨ (at_ = 8 ∧ other = 0)) (ho : Okay count data ws) (hc : 96 ≤ count) (hsx : SlotR lt count (slotK data ws at_ 8) (some x))
    (hy : IsDir lt y (bytesN y)) (hf : errK count (allPcs y.files) = 0) (hxy : x.gen < y.gen)
    (hgo : Rm.Good count (allPcs x.files ++ allPcs fs)) (h80 : ∀ p ∈ allPcs fs, 80 ≤ p.1) (hfs : ∀ f ∈ fs, sumC f.pcs = needsN f.size) (hvs : ∀ f v, (f, v) ∈ fs.zip vs → f.size = (v.length : Nat))
    (e : doN count (data, ws) (turnA (filesA fs vs) other y) = .ok (D, W)) :
    SlotR lt count (slotK D W at_ 8) (some x) ∧ SlotR lt count (slotK D W other 8) (some y) ∧ mountS at_ (some x) (some y) = some (y, (other : Int)) ∧ (∀ f ∈ x.files, fileD D W f = fileD data ws f) ∧ ∀ f v, (f, v) ∈ fs.zip vs → fileD D W f = v := by
  have hF := filesA_acts (vs := vs) hgo h80
  have hno : ∀ s : Nat, s < at_ + 8 → at_ ≤ s → ∀ X, (false, (s : Int), X) ∉ turnA (filesA fs vs) other y := by
    intro s h1 h2 X h
    rcases turnA_mem h with h | ⟨j, hj, e1, _⟩
    · obtain ⟨_, s', e', h8, _⟩ := hF.each _ h
      simp only at e'
      omega
    · omega
  refine ⟨?_, ?_, ?_, fun f hf' => file_sameD hf' hgo.left fun s hs => ?_, fun f v hz => ?_⟩
  · have : slotK D W at_ 8 = slotK data ws at_ 8 := flat_congr fun i hi => now_keep (by omega) ho e (hno (at_ + i) (by omega) (by omega))
    rw [this]
    exact hsx
  · have : slotK D W other 8 = bytesN y := by
      rw [← eight_secs (bytes_len hy)]
      refine flat_congr fun i hi => now_put (by omega) ho e (fun X hX => ?_) ?_
      · rcases turnA_mem hX with h | ⟨j, hj, e1, e2⟩
        · obtain ⟨_, s', e', h8, _⟩ := hF.each _ h
          simp only at e'
          omega
        · obtain rfl : i = j := by omega
          exact e2
      · unfold turnA
        exact List.mem_append.2 (.inr (List.mem_append.2 (.inl (List.mem_map.2 ⟨i, List.mem_range.2 hi, rfl⟩))))
    rw [this]
    exact ⟨hy, hf⟩
  · unfold mountS
    rcases hao with ⟨rfl, rfl⟩ | ⟨rfl, rfl⟩
    · show (if x.gen < y.gen then some (y, (8 : Int)) else some (x, 0)) = _
      rw [if_pos hxy]; rfl
    · show (if y.gen < x.gen then some (x, (8 : Int)) else some (y, 0)) = _
      rw [if_neg (by omega)]; rfl
  · obtain ⟨p, hp, a, b⟩ := cov_iff.1 hs
    have hw := hgo.left.wn p hp
    obtain ⟨g, hgg, hpg⟩ := List.mem_flatMap.1 hp
    have h8 := (hsx.1.1.each g hgg).2.2.2.1 p hpg
    unfold Wn at hw
    refine now_keep (by omega) ho e fun X hX => ?_
    rcases turnA_mem hX with h | ⟨j, hj, e1, _⟩
    · obtain ⟨_, s', e', _, _, hn'⟩ := hF.each _ h
      simp only at e'
      rw [show (s' : Int) = (s : Int) by omega, hs] at hn'
      cases hn'
    · omega
  · have hff : f ∈ fs := (List.of_mem_zip hz).1
    have hgf : Rm.Good count f.pcs := by
      obtain ⟨a, b, e2⟩ := List.append_of_mem hff
      have e3 : allPcs fs = allPcs a ++ (f.pcs ++ allPcs b) := by rw [e2]; simp [allPcs]
      have := hgo.right
      rw [e3] at this
      exact this.right.left
    have hlen : ((secs f.pcs).length : Int) = needsN f.size := by
      rw [secs_len_sum (fun p hp => by have := hgf.wn p hp; unfold Wn at this; omega)]
      exact hfs f hff
    refine file_newD (hvs f v hz) hlen fun k hk => ?_
    have hin := filesA_in hz k hk
    have hm' : (secs f.pcs).getD k 0 ∈ secs f.pcs := getD_mem2 hk
    generalize (secs f.pcs).getD k 0 = s at hm' hin ⊢
    obtain ⟨p, hp, a, b⟩ := cov_iff.1 (mem_secs.1 hm')
    have hw := hgf.wn p hp
    have h8 := h80 p (mem_allPcs hff hp)
    unfold Wn at hw
    have hcast : ((s.toNat : Nat) : Int) = s := by omega
    have hk' := now_put (s := s.toNat) (X := partN v k) (by omega) ho e (fun X hX => ?_) ?_
    · rw [hcast] at hk'
      exact hk'
    · rcases turnA_mem hX with h | ⟨j, hj, e1, _⟩
      · rw [hcast] at h
        exact hF.once _ _ _ h hin
      · omega
    · rw [hcast]
      unfold turnA
      refine List.mem_append.2 (.inl ?_)
      rw [if_neg (fun h0 => by rw [h0] at hin; cases hin)]
      exact List.mem_append.2 (.inl hin)
end Go.Proofs.YtkgmhmhphgaclabGreatDoor
