/-
  Contracts of the calls checkSector, Sure and Read.
-/
import Derived.Test.YteabacpalnamdaaDCrash
namespace Go.Proofs.Yteabacpalnamdaa
open Go.RowKit Go.WideShapes

/-- What is wrong with a disk, a sector. -/
noncomputable def errS (count : Int) (data : List Nat) (ws : Puts) (n : Int) : Int := if errC count data ws = 0 then (if 0 ≤ n ∧ n < count then 0 else 21) else 20
theorem errS_bad {count : Int} {data : List Nat} {ws : Puts} (n : Int) (h : ¬ Okay count data ws) : errS count data ws n = 20 := by simp [errS, errC_bad h]
theorem errS_range {count : Int} {data : List Nat} {ws : Puts} {n : Int} (h : Okay count data ws) (hn : ¬ (0 ≤ n ∧ n < count)) : errS count data ws n = 21 := by simp [errS, errC_ok h, hn]
theorem errS_ok {count : Int} {data : List Nat} {ws : Puts} {n : Int} (h : Okay count data ws) (hn : 0 ≤ n ∧ n < count) : errS count data ws n = 0 := by simp [errS, errC_ok h, hn]

set_option maxHeartbeats 1000000 in
theorem checkSector_any (v : Value) (n : Int) (count : Int) (data : List Nat) (ws : Puts) (w : World) (hd : DiskIn w v count data ws) :
    Calls Try.prog 35 #[v, .int .i64 n] w fun e w' => e = .returned (.int .i64 (errS count data ws n)) ∧ Below w.heap.size w w' := by
  obtain ⟨p, c, q, m, rfl, _⟩ := hd.parts
  have HD : Hid _ := hd
  clear hd
  by_cases ho : Okay count data ws
  · by_cases hn : 0 ≤ n ∧ n < count
    · have HE : Hid _ := errS_ok ho hn
      go_enter Try.func35, Try.ntmps35
      go_wp2_with fail
      refine (check_ok _ count data ws _ (HD.out.below (below_alloc w _)) ho).mono ?_
      rintro e w1 ⟨rfl, hb1⟩
      replace hb1 : Below (w.heap.size + 1) (w.alloc (.cells #[.int .i64 count, .slice p data.length c, .slice q ws.length m] 25)) w1 := by simpa using hb1
      obtain ⟨c0, c1, c2⟩ := box_cells hb1
      go_wp2_with (go_at_call 37; refine (has_any count n _ _ _).mono ?_; rintro e w2 ⟨rfl, ob, rfl⟩; rw [decide_eq_true hn])
      go_ret
      exact ⟨by rw [HE.out]; rfl, box_below (hb1.alloc (by have := box_size hb1; omega) _)⟩
    · have HE : Hid _ := errS_range ho hn
      go_enter Try.func35, Try.ntmps35
      go_wp2_with fail
      refine (check_ok _ count data ws _ (HD.out.below (below_alloc w _)) ho).mono ?_
      rintro e w1 ⟨rfl, hb1⟩
      replace hb1 : Below (w.heap.size + 1) (w.alloc (.cells #[.int .i64 count, .slice p data.length c, .slice q ws.length m] 25)) w1 := by simpa using hb1
      obtain ⟨c0, c1, c2⟩ := box_cells hb1
      go_wp2_with (go_at_call 37; refine (has_any count n _ _ _).mono ?_; rintro e w2 ⟨rfl, ob, rfl⟩; rw [decide_eq_false hn])
      go_ret
      exact ⟨by rw [HE.out]; rfl, box_below (hb1.alloc (by have := box_size hb1; omega) _)⟩
  · have HE : Hid _ := errS_bad n ho
    go_enter Try.func35, Try.ntmps35
    go_wp2_with fail
    refine (check_bad _ count data ws _ (HD.out.below (below_alloc w _)) ho).mono ?_
    rintro e w1 ⟨rfl, hb1⟩
    replace hb1 : Below (w.heap.size + 1) (w.alloc (.cells #[.int .i64 count, .slice p data.length c, .slice q ws.length m] 25)) w1 := by simpa using hb1
    go_wp2
    go_ret
    exact ⟨by rw [HE.out]; rfl, box_below hb1⟩
theorem sector_fails (v : Value) (n : Int) (count : Int) (data : List Nat) (ws : Puts) (w : World) (hd : DiskIn w v count data ws) (er : Int) (he : errS count data ws n = er) :
    Calls Try.prog 35 #[v, .int .i64 n] w fun e w' => e = .returned (.int .i64 er) ∧ Below w.heap.size w w' := by
  subst he; exact checkSector_any v n count data ws w hd

/-- A sector answered: in a row of its own. -/
def SecNew (w : World) (base : Nat) (v : Value) (xs : List Nat) : Prop := ∃ g, v = .slice (some ⟨g, 0, none⟩) 128 128 ∧ base ≤ g ∧ w.heap[g]? = some (.cells (Bs xs).toArray 5 (0, 0)) ∧ xs.length = 128 ∧ ∀ c ∈ xs, c < 256

set_option maxHeartbeats 1000000 in
theorem sure_err (v : Value) (n : Int) (count : Int) (data : List Nat) (ws : Puts) (w : World) (hd : DiskIn w v count data ws) (er : Int) (hne : er ≠ 0) (he : errS count data ws n = er) :
    Calls Try.prog 14 #[v, .int .i64 n] w fun e w' => e = .returned (.tuple #[.slice none 0 0, .int .i64 er]) ∧ Below w.heap.size w w' := by
  obtain ⟨p, c, q, m, rfl, _⟩ := hd.parts
  have HD : Hid _ := hd
  have HE : Hid (errS count data ws n = er) := he
  have hnb : (er != 0) = true := by simpa using hne
  clear hd he hne
  go_enter Try.func14, Try.ntmps14
  go_wp2_with fail
  refine (sector_fails _ n count data ws _ (HD.out.below (below_alloc w _)) er HE.out).mono ?_
  rintro e w1 ⟨rfl, hb1⟩
  replace hb1 : Below (w.heap.size + 1) (w.alloc (.cells #[.int .i64 count, .slice p data.length c, .slice q ws.length m] 25)) w1 := by simpa using hb1
  go_wp2
  go_ret2
  exact ⟨rfl, box_below hb1⟩
set_option maxHeartbeats 1000000 in
theorem read_err (v : Value) (n : Int) (count : Int) (data : List Nat) (ws : Puts) (w : World) (hd : DiskIn w v count data ws) (er : Int) (hne : er ≠ 0) (he : errS count data ws n = er) :
    Calls Try.prog 15 #[v, .int .i64 n] w fun e w' => e = .returned (.tuple #[.slice none 0 0, .int .i64 er]) ∧ Below w.heap.size w w' := by
  obtain ⟨p, c, q, m, rfl, _⟩ := hd.parts
  have HD : Hid _ := hd
  have HE : Hid (errS count data ws n = er) := he
  have hnb : (er != 0) = true := by simpa using hne
  clear hd he hne
  go_enter Try.func15, Try.ntmps15
  go_wp2_with fail
  refine (sector_fails _ n count data ws _ (HD.out.below (below_alloc w _)) er HE.out).mono ?_
  rintro e w1 ⟨rfl, hb1⟩
  replace hb1 : Below (w.heap.size + 1) (w.alloc (.cells #[.int .i64 count, .slice p data.length c, .slice q ws.length m] 25)) w1 := by simpa using hb1
  go_wp2
  go_ret2
  exact ⟨rfl, box_below hb1⟩
theorem secN_mem {data : List Nat} {n : Nat} (h : ∀ c ∈ data, c < 256) : ∀ c ∈ secN data n, c < 256 := fun c hc => h c (List.mem_of_mem_drop (List.mem_of_mem_take hc))
/-- Where a sector lies among all bytes. -/
theorem bin_sec {w : World} {b o : Nat} {data : List Nat} (h : BIn w (some ⟨b, o, none⟩) data) (n : Nat) : BIn w (some ⟨b, o + n * 128, none⟩) (secN data n) := by
  refine ⟨fun _ => ⟨b, o + n * 128, rfl, fun i hi => ?_⟩, secN_mem h.2⟩
  have := sec_news h n i (.int .u8 ((secN data n).getD i 0 : Nat)) (by simp [Bs, List.getD, List.getElem?_eq_getElem hi])
  rw [add_plain] at this
  exact this

set_option maxHeartbeats 1000000 in
theorem sure_ok (v : Value) (n : Nat) (count : Int) (data : List Nat) (ws : Puts) (w : World) (hd : DiskIn w v count data ws) (ho : Okay count data ws) (hn : (n : Int) < count) :
    Calls Try.prog 14 #[v, .int .i64 n] w fun e w' => (∃ v', e = .returned (.tuple #[v', .int .i64 0]) ∧ SecNew w' w.heap.size v' (secN data n)) ∧ Below w.heap.size w w' := by
  obtain ⟨p, c, q, m, rfl, hb, hc, _⟩ := hd.parts
  have hlen := ho.len
  have hhi := ho.hi
  have hnl : (n + 1) * 128 ≤ data.length := by omega
  have HL : Hid ((secN data n).length = 128) := secN_len hnl
  obtain ⟨b, o, rfl⟩ := hb.addr (by omega)
  have HB : Hid (BIn w (some ⟨b, o, none⟩) data) := hb
  have HD : Hid _ := hd
  have HE : Hid (errS count data ws n = 0) := errS_ok ho ⟨by omega, hn⟩
  clear hd ho hlen hb
  go_enter Try.func14, Try.ntmps14
  go_wp2_with fail
  refine (sector_fails _ n count data ws _ (HD.out.below (below_alloc w _)) 0 HE.out).mono ?_
  rintro e w1 ⟨rfl, hb1⟩
  replace hb1 : Below (w.heap.size + 1) (w.alloc (.cells #[.int .i64 count, .slice (some ⟨b, o, none⟩) data.length c, .slice q ws.length m] 25)) w1 := by simpa using hb1
  obtain ⟨c0, c1, c2⟩ := box_cells hb1
  go_wp2_with (go_at_call 34; refine (sector_any b o data.length c n _ (by omega) hnl hc).mono ?_; rintro e w2 ⟨rfl, rfl⟩)
  refine (copyOf_any _ _ (secN data n) _ (bin_sec (HB.out.below (box_below hb1)) n) HL.out).mono ?_
  rintro e w3 ⟨g, rfl, hg1, hg2, hb3⟩
  have hb4 := (box_below hb1).trans (hb3.mono (by have := box_size hb1; omega))
  have hz := box_size hb1
  have HG : Hid _ := hg2
  clear hg2
  go_wp2
  go_ret2
  exact ⟨⟨_, rfl, g, rfl, by omega, HG.out, HL.out, secN_mem HB.out.2⟩, hb4⟩
end Go.Proofs.Yteabacpalnamdaa
