/-
  What the statements call: heavy.
-/
import Derived.Test.YtglcpfnpbcnejaaGreatDoorJ31
import Derived.Test.YtglcpfnpbcnejaaGreatDoorJ42
import Derived.Test.YtglcpfnpbcnejaaGreatDoorJ32
import Derived.Test.YtglcpfnpbcnejaaGreatDoorJ34
import Derived.Test.YtglcpfnpbcnejaaGreatDoorJ22
namespace Go.Proofs.YtglcpfnpbcnejaaGreatDoor
open Go.RowKit Go.WideShapes Rm

theorem slotR_ex (count : Int) (xs : List Nat) : ∃ a, SlotR ltS count xs a := by
  by_cases h : ∃ x, IsDir ltS x xs ∧ errK count (allPcs x.files) = 0
  · obtain ⟨x, hx⟩ := h
    exact ⟨some x, hx⟩
  · exact ⟨none, fun x hx he => h ⟨x, hx, he⟩⟩
theorem mountIs_ex (count : Int) (data : List Nat) (ws : Puts) : ∃ r n, MountIs count data ws r n := by
  by_cases ho : Okay count data ws
  · by_cases hc : count < 96
    · exact ⟨none, 40, .inr (.inl ⟨ho, hc, rfl, rfl⟩)⟩
    · obtain ⟨a, ha⟩ := slotR_ex count (slotK data ws 0 8)
      obtain ⟨b, hb⟩ := slotR_ex count (slotK data ws 8 8)
      exact ⟨mountR a b, _, .inr (.inr ⟨ho, by omega, a, b, ha, hb, rfl, rfl⟩)⟩
  · exact ⟨none, 20, .inl ⟨ho, rfl, rfl⟩⟩
/-- Is a disk larger than the statements go through? -/
def largeL (count : Int) (data : List Nat) (ws : Puts) : Prop := (40000 < data.length ∧ 0 < count ∧ count ≤ 4096) ∨ 600000 < data.length ∨ 300 < ws.length
instance (count : Int) (data : List Nat) (ws : Puts) : Decidable (largeL count data ws) := by unfold largeL; infer_instance
set_option maxRecDepth 20000 in
set_option maxHeartbeats 4000000 in
theorem large4_any (v : Value) (count : Int) (data : List Nat) (ws : Puts) (w : World) (hd : DiskIn w v count data ws) :
    Calls Tryz.prog 18 #[v] w fun e w' => e = .returned (.bool (decide (largeL count data ws))) ∧ Below w.heap.size w w' := by
  obtain ⟨p, c, q, m, rfl, _⟩ := hd.parts
  clear hd
  generalize hL : data.length = L at *
  generalize hM : ws.length = M at *
  have hl : largeL count data ws ↔ ((40000 < L ∧ 0 < count ∧ count ≤ 4096) ∨ 600000 < L ∨ 300 < M) := by unfold largeL; rw [hL, hM]
  have HL : Hid _ := hl
  clear hl hL hM
  have h : (40000 < L ∧ 0 < count ∧ count ≤ 4096) ∨ ((L ≤ 40000 ∨ (40000 < L ∧ count ≤ 0) ∨ (40000 < L ∧ 0 < count ∧ 4096 < count)) ∧ (600000 < L ∨ (L ≤ 600000 ∧ (300 < M ∨ M ≤ 300)))) := by omega
  rcases h with ⟨a1, a2, a3⟩ | ⟨a1 | ⟨a1, a2⟩ | ⟨a1, a2, a3⟩, b1 | ⟨b1, d1 | d1⟩⟩
  all_goals first | omega | skip
  all_goals
    obtain ⟨bb, HV⟩ : ∃ bb, Hid (decide (largeL count data ws) = bb) := ⟨_, rfl⟩
    have HW : Hid ((bb = true ∧ largeL count data ws) ∨ (bb = false ∧ ¬ largeL count data ws)) := by
      rw [← HV.out]
      by_cases h : largeL count data ws
      · exact .inl ⟨decide_eq_true h, h⟩
      · exact .inr ⟨decide_eq_false h, h⟩
    go_enter Tryz.func18, Tryz.ntmps18
    go_wp2
    go_ret
    refine ⟨?_, below_alloc _ _⟩
    rw [HV.out]
    rcases HW.out with ⟨rfl, h⟩ | ⟨rfl, h⟩ <;> rw [HL.out] at h <;> first | rfl | (exfalso; omega) | (simp; omega)
end Go.Proofs.YtglcpfnpbcnejaaGreatDoor
namespace Go.Proofs.YtglcpfnpbcnejaaGreatDoor
open Go.RowKit Go.WideShapes Rm

end Go.Proofs.YtglcpfnpbcnejaaGreatDoor
namespace Go.Proofs.YtglcpfnpbcnejaaGreatDoor
open Go.RowKit Go.WideShapes Rm

theorem ChgIn.below {w w' : World} {lq : Option Addr} {ln lc : Nat} {l : List CV} (h : ChgIn w lq ln lc l) (hb : Below w.heap.size w w') : ChgIn w' lq ln lc l := ⟨h.lies.below hb, h.len, h.cap, h.fits, h.keys⟩
theorem secs_le {count : Int} (hz : 80 ≤ count ∧ count ≤ 4096) {l : Pcs} (h : Rm.Good count l) : ((secs l).length : Int) ≤ count := by
  have h1 := secs_len_good h (f := 0) (k := count.toNat) (fun p hp => by have := h.wn p hp; unfold Wn at this; omega) (by omega)
  have h2 := meant_all_len (cov l) 0 count.toNat
  omega
theorem turnA_len (F : Acts) (other : Nat) (y : DirV) : (turnA F other y).length ≤ F.length + 10 := by
  unfold turnA slotA
  rw [List.length_append, List.length_append, List.length_map, List.length_range]
  split <;> simp
theorem turn_len {count : Int} {data : List Nat} {ws : Puts} {l : List CV} {x y : DirV} {at_ other : Nat} {fs : List FileV} {A : Acts} (h : TurnOk count data ws l x y at_ other fs A) : (A.length : Int) ≤ count + 10 := by
  have hz : 80 ≤ count ∧ count ≤ 4096 := ⟨by have := h.hc; omega, h.ho.hi⟩
  have hgx := (errK_zero h.hsx.2).2.2
  obtain ⟨p1, _, _⟩ := place_facts hz hgx h.hpl
  have h1 := secs_le hz p1
  have h2 := filesA_le fs ((puttingN (l.map toV)).map Prod.snd)
  have h3 := turnA_len (filesA fs ((puttingN (l.map toV)).map Prod.snd)) other y
  rw [secs_append, List.length_append] at h1
  rw [h.hA]
  omega
end Go.Proofs.YtglcpfnpbcnejaaGreatDoor
namespace Go.Proofs.YtglcpfnpbcnejaaGreatDoor
open Go.RowKit Go.WideShapes Rm

/-- What heavy adds up. -/
def heavyS (l : List CV) : Nat := (l.map fun c => min c.val.size 1000000).sum
theorem heavyS_snoc {l : List CV} {k : Nat} (h : k < l.length) : heavyS (l.take (k + 1)) = heavyS (l.take k) + min (l.getD k zeroCV).val.size 1000000 := by
  rw [take_snoc (d := zeroCV) h]
  unfold heavyS
  rw [List.map_append, List.sum_append]
  simp
theorem heavyS_le : ∀ (l : List CV), heavyS l ≤ 1000000 * l.length
  | [] => by simp [heavyS]
  | c :: l => by
    have := heavyS_le l
    unfold heavyS at *
    simp only [List.map_cons, List.sum_cons, List.length_cons]
    omega
theorem heavyS_each : ∀ {l : List CV}, heavyS l ≤ 700000 → ∀ y ∈ l, y.val.size ≤ 700000
  | [], _, y, hy => by cases hy
  | c :: l, h, y, hy => by
    unfold heavyS at h
    simp only [List.map_cons, List.sum_cons] at h
    rcases List.mem_cons.1 hy with rfl | hy
    · omega
    · exact heavyS_each (l := l) (by unfold heavyS; omega) y hy
/-- What heavy answers. -/
structure HeavyP (w : World) (l : List CV) (e : Ending) (w' : World) : Prop where
  ex : ∃ r : Bool, e = .returned (.bool r) ∧ (r = false → l.length ≤ 200 ∧ ∀ y ∈ l, y.val.size ≤ 700000) ∧ Below w.heap.size w w'
set_option maxRecDepth 8000 in
set_option maxHeartbeats 1000000 in
theorem heavy_any (q : Option Addr) (n c : Nat) (l : List CV) (w : World) (hn0 : n = l.length) (hq : CsIn w q l) (hn : (n : Int) ≤ 9223372036854775807) (hvs : ∀ y ∈ l, (y.val.size : Int) ≤ 9223372036854775807) :
    Calls Tryz.prog 19 #[.slice q n c] w fun e w' => HeavyP w l e w' := by
  have HN : Hid (n = l.length) := hn0
  have HQ : Hid (CsIn w q l) := hq
  have HVS : Hid (∀ y ∈ l, (y.val.size : Int) ≤ 9223372036854775807) := hvs
  clear hn0 hq hvs
  go_enter Tryz.func19, Tryz.ntmps19
  go_wp2
  go_loopw [3, 4] (fun t i wr => ∃ k : Nat, ∃ z : Int, k ≤ n ∧ i = .int .i64 k ∧ t = .int .i64 z ∧ (k ≤ 200 → z = (heavyS (l.take k) : Int)) ∧ Below w.heap.size w wr) (fun _ i _ => n - (intOf i).toNat)
  case atStart => exact ⟨0, 0, by omega, rfl, rfl, fun _ => by simp [heavyS], Below.refl _ _⟩
  case round =>
    obtain ⟨k, z, hk, rfl, rfl, hz, hbel⟩ := hrel
    have HBE : Hid (Below w.heap.size w wr) := hbel
    clear hbel
    by_cases hkn : k < n
    · have g1 : decide (k < n) = true := decide_eq_true hkn
      have hkI : (k : Int) < (n : Int) := by omega
      have hk0 : (0 : Int) ≤ (k : Int) := by omega
      obtain ⟨ba, oa, rfl⟩ := HQ.out.addr (by have := HN.out; omega)
      obtain ⟨x0, x1, _⟩ := (HQ.out.below HBE.out).at (k := k) (by have := HN.out; omega)
      have HSN : Hid _ := heavyS_snoc (l := l) (k := k) (by have := HN.out; omega)
      have hvk : ((l.getD k zeroCV).val.size : Int) ≤ 9223372036854775807 := HVS.out _ (by rw [getD_eq (by have := HN.out; omega)]; exact List.getElem_mem _)
      generalize (l.getD k zeroCV).key = ke at *
      generalize (l.getD k zeroCV).val = ve at *
      by_cases h2 : k < 200
      · have hz1 := hz (by omega)
        have hzl : heavyS (l.take k) ≤ 1000000 * 200 := by
          have h := heavyS_le (l.take k)
          rw [List.length_take] at h
          omega
        obtain ⟨Z, hZ⟩ : ∃ Z, heavyS (l.take k) = Z := ⟨_, rfl⟩
        rw [hZ] at hz1 hzl HSN
        subst hz1
        have HK : Hid (k < n) := hkn
        clear hz hZ
        go_wp2
        go_roundw
        case rel => exact ⟨k + 1, _, HK.out, by go_num, rfl, fun _ => by rw [HSN.out]; omega, HBE.out⟩
        case measure => simp [intOf]; omega
      · have HK : Hid (¬ k < 200) := h2
        clear hz h2
        go_wp2
        go_roundw
        case rel => exact ⟨k + 1, _, by omega, by go_num, rfl, fun h => absurd h (by have := HK.out; omega), HBE.out⟩
        case measure => simp [intOf]; omega
    · obtain rfl : k = n := by omega
      have g1 : decide (k < k) = false := decide_eq_false hkn
      have e1 : l.take k = l := by rw [HN.out]; exact List.take_length
      by_cases h5 : k ≤ 200
      · have hz1 := hz h5
        rw [e1] at hz1
        have q1 : decide ((200 : Int) < (k : Int)) = false := decide_eq_false (by omega)
        by_cases h6 : z ≤ 700000
        · have HR : Hid (l.length ≤ 200 ∧ ∀ y ∈ l, y.val.size ≤ 700000) := ⟨by have := HN.out; omega, heavyS_each (by omega)⟩
          have q2 : decide ((700000 : Int) < z) = false := decide_eq_false (by omega)
          clear h5 hz hz1 e1 h6
          go_wp2
          go_ret
          exact ⟨⟨_, rfl, fun _ => HR.out, HBE.out⟩⟩
        · have q2 : decide ((700000 : Int) < z) = true := decide_eq_true (by omega)
          clear h5 hz hz1 e1 h6
          go_wp2
          go_ret
          exact ⟨⟨true, by simp, fun h => (by cases h), HBE.out⟩⟩
      · have q1 : decide ((200 : Int) < (k : Int)) = true := decide_eq_true (by omega)
        clear h5 hz e1
        go_wp2
        go_ret
        exact ⟨⟨true, by simp, fun h => (by cases h), HBE.out⟩⟩
end Go.Proofs.YtglcpfnpbcnejaaGreatDoor
