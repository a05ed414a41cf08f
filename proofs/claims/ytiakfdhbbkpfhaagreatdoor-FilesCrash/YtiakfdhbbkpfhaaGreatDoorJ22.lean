/-
  The Gen that is to come (nextGen).
-/
import Derived.Test.YtiakfdhbbkpfhaaGreatDoorJ21
import Derived.Test.YtiakfdhbbkpfhaaGreatDoorJ19
namespace Go.Proofs.YtiakfdhbbkpfhaaGreatDoor
open Go.RowKit Go.WideShapes Rm Dk

/-- The files of a disk with such a directory: names and bytes. -/
def filesD (D : List Nat) (W : Puts) (x : DirV) : List (ByteArray × List Nat) := x.files.map fun f => (f.name, fileD D W f)
theorem fits_new {lt : ByteArray → ByteArray → Prop} {count : Int} {x y : DirV} {fs : List FileV} (hc : 0 ≤ count ∧ count ≤ 4096) (hy : May lt y) (hm : ∀ f ∈ y.files, f ∈ x.files ∨ f ∈ fs) (hg : Rm.Good count (allPcs x.files ++ allPcs fs)) : errK count (allPcs y.files) = 0 := by
  refine (errK_fits hy.pcs hc).2 (fun p hp => ?_)
  obtain ⟨f, hf, hpf⟩ := List.mem_flatMap.1 hp
  have hpm : p ∈ allPcs x.files ++ allPcs fs := by
    rcases hm f hf with h | h
    · exact List.mem_append.2 (.inl (List.mem_flatMap.2 ⟨f, h, hpf⟩))
    · exact List.mem_append.2 (.inr (List.mem_flatMap.2 ⟨f, h, hpf⟩))
  have := hg.wn p hpm
  unfold Wn at this
  omega
section
variable {lt : ByteArray → ByteArray → Bool} (tot : ∀ a b, a ≠ b → lt a b = true ∨ lt b a = true) (irr : ∀ a, lt a a = false) (tr : ∀ a b c, lt a b = true → lt b c = true → lt a c = true)
include tot irr tr
/-- Behind a loss of power in the midst of a turn. -/
theorem crash_holds {count : Int} {data D : List Nat} {W : Puts} {x y : DirV} {o : Option DirV} {l : List ChgV} {fs : List FileV} {at_ other : Nat} (n : Nat) (keep : List Bool)
    (hao : (at_ = 0 ∧ other = 8) ∨ (at_ = 8 ∧ other = 0)) (ho : Okay count data []) (hc : 96 ≤ count) (hsx : SlotR (fun a b => lt a b = true) count (slotK data [] at_ 8) (some x)) (hso : SlotR (fun a b => lt a b = true) count (slotK data [] other 8) o) (hm : mountS at_ (some x) o = some (x, (at_ : Int)))
    (hy : IsDir (fun a b => lt a b = true) y (bytesN y)) (hxy : x.gen < y.gen) (hg : ∀ i, i < 8 → ((beg8 (secN data (other + i)) : Nat) : Int) ≠ y.gen)
    (hd : l.Pairwise fun c d => c.key ≠ d.key) (hpl : placeN count (allPcs x.files) (puttingN l) = .ok fs) (hmem : ∀ f, f ∈ y.files ↔ f ∈ stayN x.files l ∨ f ∈ fs)
    (hn : n ≤ (turnA (filesA fs ((puttingN l).map Prod.snd)) other y).length) (e : doN count (data, []) ((turnA (filesA fs ((puttingN l).map Prod.snd)) other y).take n) = .ok (D, W)) :
    ∃ o' z s, SlotR (fun a b => lt a b = true) count (slotK (crashN D W keep) [] at_ 8) (some x) ∧ SlotR (fun a b => lt a b = true) count (slotK (crashN D W keep) [] other 8) o' ∧ mountS at_ (some x) o' = some (z, s) ∧
      (filesD (crashN D W keep) [] z = wantN lt (filesD data [] x) l ∨ (n < (turnA (filesA fs ((puttingN l).map Prod.snd)) other y).length ∧ filesD (crashN D W keep) [] z = wantN lt (filesD data [] x) [])) := by
  have hz : 80 ≤ count ∧ count ≤ 4096 := ⟨by omega, ho.hi⟩
  have hgx := (errK_zero hsx.2).2.2
  obtain ⟨p1, p2, p3⟩ := place_facts hz hgx hpl
  obtain ⟨q1, q2⟩ := put_names hz hgx hpl
  have h80 : ∀ p ∈ allPcs fs, 80 ≤ p.1 := fun p hp => by obtain ⟨f, hf, hpf⟩ := List.mem_flatMap.1 hp; exact (p3 f hf).1 p hpf
  have hsub : ∀ f ∈ y.files, f ∈ x.files ∨ f ∈ fs := fun f hf => ((hmem f).1 hf).elim (fun h => .inl (mem_stayN.1 h).1) .inr
  have hfit := fits_new ⟨by omega, hz.2⟩ hy.1 hsub p1
  obtain ⟨o', t1, t2, t3, t4⟩ := turn_files n keep hao ho hc hsx hso hm hy hfit hxy hg p1 h80 (fun f hf => (p3 f hf).2.1) q2 hn e
  have hox := rises_pair tr hsx.1.1.rise
  have hoy := rises_pair tr hy.1.rise
  rcases t4 with ⟨a, b⟩ | ⟨b, c⟩
  · refine ⟨o', x, _, t1, t2, b, .inr ⟨a, ?_⟩⟩
    rw [wantN_nil]
    exact List.map_congr_left (fun f hf => by rw [t3 f hf])
  · refine ⟨o', y, _, t1, t2, b, .inl ?_⟩
    exact (holds_new tot irr tr hd hox hoy hmem q1 c t3).symm
/-- Behind the whole turn. -/
theorem done_holds {count : Int} {data D : List Nat} {ws W : Puts} {x y : DirV} {l : List ChgV} {fs : List FileV} {at_ other : Nat}
    (hao : (at_ = 0 ∧ other = 8) ∨ (at_ = 8 ∧ other = 0)) (ho : Okay count data ws) (hc : 96 ≤ count) (hsx : SlotR (fun a b => lt a b = true) count (slotK data ws at_ 8) (some x))
    (hy : IsDir (fun a b => lt a b = true) y (bytesN y)) (hxy : x.gen < y.gen)
    (hd : l.Pairwise fun c d => c.key ≠ d.key) (hpl : placeN count (allPcs x.files) (puttingN l) = .ok fs) (hmem : ∀ f, f ∈ y.files ↔ f ∈ stayN x.files l ∨ f ∈ fs)
    (e : doN count (data, ws) (turnA (filesA fs ((puttingN l).map Prod.snd)) other y) = .ok (D, W)) :
    SlotR (fun a b => lt a b = true) count (slotK D W at_ 8) (some x) ∧ SlotR (fun a b => lt a b = true) count (slotK D W other 8) (some y) ∧ mountS at_ (some x) (some y) = some (y, (other : Int)) ∧ filesD D W y = wantN lt (filesD data ws x) l := by
  have hz : 80 ≤ count ∧ count ≤ 4096 := ⟨by omega, ho.hi⟩
  have hgx := (errK_zero hsx.2).2.2
  obtain ⟨p1, p2, p3⟩ := place_facts hz hgx hpl
  obtain ⟨q1, q2⟩ := put_names hz hgx hpl
  have h80 : ∀ p ∈ allPcs fs, 80 ≤ p.1 := fun p hp => by obtain ⟨f, hf, hpf⟩ := List.mem_flatMap.1 hp; exact (p3 f hf).1 p hpf
  have hsub : ∀ f ∈ y.files, f ∈ x.files ∨ f ∈ fs := fun f hf => ((hmem f).1 hf).elim (fun h => .inl (mem_stayN.1 h).1) .inr
  have hfit := fits_new ⟨by omega, hz.2⟩ hy.1 hsub p1
  obtain ⟨t1, t2, t3, t4, t5⟩ := turn_done hao ho hc hsx hy hfit hxy p1 h80 (fun f hf => (p3 f hf).2.1) q2 e
  exact ⟨t1, t2, t3, (holds_new tot irr tr hd (rises_pair tr hsx.1.1.rise) (rises_pair tr hy.1.rise) hmem q1 t5 t4).symm⟩
end
end Go.Proofs.YtiakfdhbbkpfhaaGreatDoor
namespace Go.Proofs.YtiakfdhbbkpfhaaGreatDoor
open Go.RowKit Go.WideShapes Rm Dk

/-- Behind a turn no write waits. -/
theorem turn_sure {count : Int} {data D : List Nat} {ws W : Puts} {F : Acts} {other : Nat} {y : DirV} (e : doN count (data, ws) (turnA F other y) = .ok (D, W)) : W = [] := by
  unfold turnA at e
  rw [← List.append_assoc, doN_app] at e
  generalize doN count (data, ws) ((if F = [] then [] else F ++ [flA]) ++ slotA other y) = r at e
  cases r with
  | error c => cases e
  | ok s =>
    have h : doN count s [flA] = .ok (settleN s.1 s.2, []) := rfl
    simp only [h, Except.ok.injEq, Prod.mk.injEq] at e
    exact e.2.symm
theorem mount_swap {at_ other : Nat} (hao : (at_ = 0 ∧ other = 8) ∨ (at_ = 8 ∧ other = 0)) (a b : Option DirV) : mountS other b a = mountS at_ a b := by
  rcases hao with ⟨rfl, rfl⟩ | ⟨rfl, rfl⟩ <;> rfl
section
variable {lt : ByteArray → ByteArray → Bool} (tot : ∀ a b, a ≠ b → lt a b = true ∨ lt b a = true) (irr : ∀ a, lt a a = false) (tr : ∀ a b c, lt a b = true → lt b c = true → lt a c = true)
include tot irr tr
theorem twice_holds {count : Int} {data D D2 : List Nat} {W W2 : Puts} {x y u : DirV} {l m : List ChgV} {fs gs : List FileV} {at_ other : Nat} (n : Nat) (keep : List Bool)
    (hao : (at_ = 0 ∧ other = 8) ∨ (at_ = 8 ∧ other = 0)) (ho : Okay count data []) (hc : 96 ≤ count) (hsx : SlotR (fun a b => lt a b = true) count (slotK data [] at_ 8) (some x))
    (hy : IsDir (fun a b => lt a b = true) y (bytesN y)) (hxy : x.gen < y.gen)
    (hd : l.Pairwise fun c d => c.key ≠ d.key) (hpl : placeN count (allPcs x.files) (puttingN l) = .ok fs) (hmem : ∀ f, f ∈ y.files ↔ f ∈ stayN x.files l ∨ f ∈ fs)
    (e : doN count (data, []) (turnA (filesA fs ((puttingN l).map Prod.snd)) other y) = .ok (D, W))
    (hu : IsDir (fun a b => lt a b = true) u (bytesN u)) (hyu : y.gen < u.gen) (hg : ∀ i, i < 8 → ((beg8 (secN D (at_ + i)) : Nat) : Int) ≠ u.gen)
    (hd2 : m.Pairwise fun c d => c.key ≠ d.key) (hpl2 : placeN count (allPcs y.files) (puttingN m) = .ok gs) (hmem2 : ∀ f, f ∈ u.files ↔ f ∈ stayN y.files m ∨ f ∈ gs)
    (hn : n ≤ (turnA (filesA gs ((puttingN m).map Prod.snd)) at_ u).length) (e2 : doN count (D, []) ((turnA (filesA gs ((puttingN m).map Prod.snd)) at_ u).take n) = .ok (D2, W2)) :
    ∃ o' z s, SlotR (fun a b => lt a b = true) count (slotK (crashN D2 W2 keep) [] other 8) (some y) ∧ SlotR (fun a b => lt a b = true) count (slotK (crashN D2 W2 keep) [] at_ 8) o' ∧ mountS other (some y) o' = some (z, s) ∧
      (filesD (crashN D2 W2 keep) [] z = wantN lt (filesD D [] y) m ∨ (n < (turnA (filesA gs ((puttingN m).map Prod.snd)) at_ u).length ∧ filesD (crashN D2 W2 keep) [] z = wantN lt (filesD data [] x) l)) := by
  obtain rfl := turn_sure e
  obtain ⟨d1, d2, d3, d4⟩ := done_holds tot irr tr hao ho hc hsx hy hxy hd hpl hmem e
  have hoD : Okay count D [] := okay_do _ (s := (data, [])) (s' := (D, [])) ho e
  obtain ⟨o', z, s, c1, c2, c3, c4⟩ := crash_holds tot irr tr (at_ := other) (other := at_) (x := y) (o := some x) n keep (by omega) hoD hc d2 d1 (by rw [mount_swap hao]; exact d3) hu hyu hg hd2 hpl2 hmem2 hn e2
  refine ⟨o', z, s, c1, c2, c3, ?_⟩
  rcases c4 with h | ⟨h, h2⟩
  · exact .inl h
  · exact .inr ⟨h, by rw [h2, wantN_nil, d4]⟩
end
end Go.Proofs.YtiakfdhbbkpfhaaGreatDoor
namespace Go.Proofs.YtiakfdhbbkpfhaaGreatDoor
open Go.RowKit Go.WideShapes Rm Dk

theorem takenN_cons (f : FileV) (l : List FileV) : takenN (f :: l) = needsN f.size + takenN l := by simp [takenN]
section
variable {lt : ByteArray → ByteArray → Bool} (irr : ∀ a, lt a a = false) (tr : ∀ a b c, lt a b = true → lt b c = true → lt a c = true)
include irr
theorem taken_less : ∀ {l : List FileV} {f : FileV}, l.Pairwise (fun f g => lt f.name g.name = true) → f ∈ l → takenN (stayN l [⟨f.name, [], true⟩]) = takenN l - needsN f.size
  | [], _, _, h => by simp at h
  | g :: l, f, hp, hf => by
    obtain ⟨p1, p2⟩ := List.pairwise_cons.1 hp
    rcases List.mem_cons.1 hf with rfl | hf
    · have e : stayN (f :: l) [⟨f.name, [], true⟩] = l := by
        unfold stayN
        rw [List.filter_cons, if_neg (by simp)]
        refine List.filter_eq_self.2 (fun h hh => ?_)
        have hne : f.name ≠ h.name := fun e => by have := p1 h hh; rw [e, irr] at this; cases this
        simp [hne]
      rw [e, takenN_cons]
      omega
    · have hne : f.name ≠ g.name := fun e => by have := p1 f hf; rw [e, irr] at this; cases this
      have e : stayN (g :: l) [⟨f.name, [], true⟩] = g :: stayN l [⟨f.name, [], true⟩] := by
        unfold stayN
        rw [List.filter_cons, if_pos (by simp [hne])]
      rw [e, takenN_cons, takenN_cons, taken_less p2 hf]
      omega
include tr
theorem room_less {x y : List FileV} {f : FileV} (hx : x.Pairwise fun f g => lt f.name g.name = true) (hy : y.Pairwise fun f g => lt f.name g.name = true) (hf : f ∈ x) (hm : ∀ g, g ∈ y ↔ g ∈ stayN x [⟨f.name, [], true⟩] ∨ g ∈ ([] : List FileV)) : takenN y = takenN x - needsN f.size := by
  have e : y = stayN x [⟨f.name, [], true⟩] := by
    refine rise_ext (R := fun f g : FileV => lt f.name g.name = true) (fun a h => by rw [irr] at h; cases h) (fun a b c => tr _ _ _) hy (hx.sublist List.filter_sublist) (fun g => ?_)
    rw [hm g]
    simp
  rw [e]
  exact taken_less irr hx hf
end
end Go.Proofs.YtiakfdhbbkpfhaaGreatDoor
namespace Go.Proofs.YtiakfdhbbkpfhaaGreatDoor
open Go.RowKit Go.WideShapes Rm

set_option maxRecDepth 8000 in
set_option maxHeartbeats 2000000 in
theorem nextGen_any (v : Value) (count : Int) (data : List Nat) (ws : Puts) (w : World) (hd : DiskIn w v count data ws) (ho : Okay count data ws) (g : Int) (o : Nat) (hg0 : 0 ≤ g) (hg1 : g < 4611686018427387904) (hoc : (o : Int) + 8 ≤ count) (hc : count ≤ 4096) :
    Calls Tryz.prog 73 #[v, .int .i64 g, .int .i64 (o : Int)] w fun e w' => e = .returned (.int .i64 (genK data ws o g 8 + 1)) ∧ Below w.heap.size w w' := by
  obtain ⟨p, c, q, m, rfl, _⟩ := hd.parts
  have HD : Hid (DiskIn w (.agg #[.int .i64 count, .slice p data.length c, .slice q ws.length m]) count data ws ∧ Okay count data ws) := ⟨hd, ho⟩
  have HG : Hid (∀ k, g ≤ genK data ws o g k ∧ genK data ws o g k < 4611686018427387904) := fun k => ⟨genK_le _ _ _ _ _, genK_hi _ _ _ _ hg1 _⟩
  have HG0 : Hid (0 ≤ g) := hg0
  have hoI : (o : Int) + 8 ≤ 4096 := by omega
  obtain ⟨dl, hdl⟩ : ∃ n, data.length = n := ⟨_, rfl⟩
  obtain ⟨wl, hwl⟩ : ∃ n, ws.length = n := ⟨_, rfl⟩
  rw [hdl, hwl] at HD ⊢
  have HOC : Hid ((o : Int) + 8 ≤ count) := hoc
  clear hd ho hg1 hdl hwl hoc hc
  go_enter Tryz.func73, Tryz.ntmps73
  go_wp2
  go_loopw [1, 9] (fun s i wr => ∃ k : Nat, k ≤ 8 ∧ i = .int .i64 (k : Int) ∧ s = .int .i64 (genK data ws o g k) ∧ Below w.heap.size w wr ∧ wr.heap[w.heap.size]? = some (.cells #[.int .i64 count, .slice p dl c, .slice q wl m] 25 (0, 0))) (fun _ i _ => 8 - (intOf i).toNat)
  case atStart => exact ⟨0, by omega, rfl, rfl, below_alloc _ _, heap_alloc_new _ _⟩
  case round =>
    obtain ⟨k, hk, rfl, rfl, hbw, hbx⟩ := hrel
    have HB : Hid (Below w.heap.size w wr ∧ wr.heap[w.heap.size]? = some (.cells #[.int .i64 count, .slice p dl c, .slice q wl m] 25 (0, 0))) := ⟨hbw, hbx⟩
    obtain ⟨x0, x1, x2⟩ := three_cells hbx
    obtain ⟨G, hG⟩ : ∃ G, genK data ws o g k = G := ⟨_, rfl⟩
    have HGK : Hid (genK data ws o g k = G) := hG
    have hG0 : 0 ≤ G := by have := HG.out k; have := HG0.out; omega
    have hG1 : G < 4611686018427387904 := by have := HG.out k; omega
    rw [hG]
    clear hbw hbx hG
    by_cases hk8 : k < 8
    · have hkI : (k : Int) < 8 := by omega
      have HK : Hid (k < 8) := hk8
      have HON : Hid ((o : Int) + (k : Int) = ((o + k : Nat) : Int)) := by show _ = _; omega
      have hnw := fnow_any _ (o + k) count data ws wr (HD.out.1.below HB.out.1) HD.out.2 (by have := HOC.out; omega)
      clear hk8 hk
      go_wp2_with fail
      rw [HON.out]
      refine hnw.mono ?_
      rintro e w2 ⟨⟨gb, rfl, hbi, hl, _⟩, hb2⟩
      have hbg := begins_any (some ⟨gb, 0, none⟩) 128 128 _ w2 hbi hl.symm (by omega) (by omega)
      obtain ⟨b, hbe⟩ : ∃ b, beg8 (nowN data ws ((o + k : Nat) : Int)) = b := ⟨_, rfl⟩
      rw [hbe] at hbg
      have HS : Hid (genK data ws o g (k + 1) = if b < 4611686018427387904 then max G (b : Nat) else G) := by
        show _ = _
        rw [genK, hbe, HGK.out]
      have HB2 : Hid (Below w.heap.size w w2 ∧ w2.heap[w.heap.size]? = some (.cells #[.int .i64 count, .slice p dl c, .slice q wl m] 25 (0, 0))) := ⟨below_bt HB.out.1 hb2, (hb2.block _ (lt_heap HB.out.2)).trans HB.out.2⟩
      clear hnw hbi hl hb2 hbe HB
      go_wp2_with fail
      refine hbg.mono ?_
      rintro e w3 ⟨rfl, hb3⟩
      have HB3 : Hid (Below w.heap.size w w3 ∧ w3.heap[w.heap.size]? = some (.cells #[.int .i64 count, .slice p dl c, .slice q wl m] 25 (0, 0))) := ⟨below_bt HB2.out.1 hb3, (hb3.block _ (lt_heap HB2.out.2)).trans HB2.out.2⟩
      clear hbg hb3 HB2
      by_cases hb : b < 4611686018427387904
      · have hbI : (b : Int) < 4611686018427387904 := by omega
        have hbw : IntKind.i64.wrap (b : Int) = (b : Int) := by rw [IntKind.wrap_i64]; omega
        have HS1 : Hid (genK data ws o g (k + 1) = max G (b : Nat)) := by show _ = _; rw [HS.out, if_pos hb]
        clear HS hb
        go_wp2
        go_roundw
        case rel => exact ⟨k + 1, HK.out, by go_num, by rw [HS1.out], HB3.out⟩
        case measure => have := HK.out; simp [intOf]; omega
      · have hbI : decide ((b : Int) < 4611686018427387904) = false := decide_eq_false (by omega)
        have HS1 : Hid (genK data ws o g (k + 1) = G) := by show _ = _; rw [HS.out, if_neg hb]
        clear HS hb
        go_wp2
        go_roundw
        case rel => exact ⟨k + 1, HK.out, by go_num, by rw [HS1.out], HB3.out⟩
        case measure => have := HK.out; simp [intOf]; omega
    · obtain rfl : k = 8 := by omega
      have HZ : Hid (genK data ws o g 8 = G) := HGK.out
      clear hk8 hk
      go_wp2
      go_ret
      exact ⟨by rw [HZ.out]; rfl, HB.out.1⟩
end Go.Proofs.YtiakfdhbbkpfhaaGreatDoor
