/-
  The first record that does not fit: the document's.
-/
import Derived.Test.YtoagaddciapmkaaDoorJ25
import Derived.BigQuiet
namespace Go.Proofs.YtoagaddciapmkaaDoor
open Go.RowKit Go.WideShapes Go.Maps

theorem fit_iff {r a : RecV} {k : Nat} (ha : a.seq = (k : Int) - 1) : FitP r a ↔ a.tim ≤ r.tim ∧ r.seq = (k : Int) ∧ r.hash = hexD (recN k r.tim r.out r.user r.deed a.hash) := by
  unfold FitP folR
  rw [ha, show (k : Int) - 1 + 1 = (k : Int) by omega]
  obtain ⟨s, t, u, d, o, h⟩ := r
  simp only [RecV.mk.injEq, true_and]
inductive FirstI (w : World) (l : List RecV) (n : Nat) (v t : Value) (wr : World) : Prop where
  | intro (k : Nat) (hk : k ≤ n) (ht : t = .int .i64 (k : Int)) (hv : v = .string (prevR l k).hash) (hz : ∀ j, j < k → FitAt l j) (hb : Below w.heap.size w wr)
set_option maxHeartbeats 8000000 in
set_option maxRecDepth 100000 in
theorem rFirst_any (q : Option Addr) (n c : Nat) (l : List RecV) (w : World) (h : RsL w q n l) (hm : ∀ r ∈ l, MayR r) (hnb : (n : Int) ≤ 4096) (m : Int) (hmis : MisP l m) :
    Calls Tryd.prog 56 #[.slice q n c] w fun e w' => e = .returned (.int .i64 m) ∧ Below w.heap.size w w' := by
  have HN : Hid (n = l.length) := h.n
  have HQ : Hid (RsIn w q l) := h.lies
  have HM : Hid (MisP l m) := hmis
  have HA : Hid (∀ r ∈ l, MayR r) := hm
  clear h hm hmis
  go_enter Tryd.func56, Tryd.ntmps56
  go_wp2
  go_loopw [3, 4] (fun v t wr => FirstI w l n v t wr) (fun _ t _ => n - (intOf t).toNat)
  case atStart => exact ⟨0, by omega, rfl, by rw [nought_lit]; rfl, fun j hj => absurd hj (by omega), Below.refl _ _⟩
  case round =>
    obtain ⟨k, hkn, rfl, rfl, hz, hbw⟩ := hrel
    have HZ : Hid (∀ j, j < k → FitAt l j) := hz
    have HB : Hid (Below w.heap.size w wr) := hbw
    by_cases hkl : k < n
    · have hkI : (k : Int) < (n : Int) := by omega
      have hkl2 : k < l.length := by have := HN.out; omega
      have hen := HQ.out.below hbw
      obtain ⟨fb, fo, rfl⟩ := hen.addr (by omega)
      have hrec := hen.at hkl2
      have hmr := HA.out _ (getR_mem hkl2)
      have hah := prev_ahd HA.out (j := k) (by omega)
      have hsq : (prevR l k).seq = (k : Int) - 1 := fit_seq k hz
      have hfit := fit_iff (r := l.getD k zeroR) hsq
      have HK1 : Hid (FitP (l.getD k zeroR) (prevR l k) → ∀ j, j < k + 1 → FitAt l j) := fun hf j hj => by
        rcases Nat.lt_or_ge j k with h' | h'
        · exact HZ.out j h'
        · obtain rfl : j = k := by omega
          exact hf
      have HK2 : Hid (¬ FitP (l.getD k zeroR) (prevR l k) → m = (k : Int)) := fun hf => HM.out.eq (.one k (by have := HN.out; omega) HZ.out hf)
      have HP : Hid (prevR l (k + 1) = l.getD k zeroR) := rfl
      have HPT : Hid (0 < k → (l.getD (k - 1) zeroR) = prevR l k) := fun h0 => by unfold prevR; rw [if_neg (by omega)]
      have HPZ : Hid (k = 0 → (prevR l k).tim = 0) := fun h0 => by rw [h0]; rfl
      generalize hrI : l.getD k zeroR = r at hrec hmr hfit HK1 HK2 HP
      have hRK := fun (h0 : 0 < k) => hen.at (k := k - 1) (by omega)
      have hbfs : (prevR l k).hash.size = 64 := dig_size hah.dig
      generalize prevR l k = a at hah hfit HK1 HK2 HPT HPZ hbfs ⊢
      obtain ⟨s, t, u, d, o, hh⟩ := r
      obtain ⟨a0, a1, a2, a3, a4, bf⟩ := a
      obtain ⟨z0, z1, z2, z3, z4, z5⟩ := hrec
      simp only at z0 z1 z2 z3 z4 z5 hfit HP
      clear hz hbw hsq hrI
      by_cases hA : s = (k : Int)
      · have hneA : (s != (k : Int)) = false := by simp [hA]
        subst hA
        have m0 := hmr.t0
        have m1 := hmr.t1
        have m2 := hmr.o0
        have m3 := hmr.o1
        simp only at m0 m1 m2 m3
        obtain ⟨Tm, rfl⟩ : ∃ S : Nat, t = (S : Int) := ⟨t.toNat, by omega⟩
        obtain ⟨O, rfl⟩ : ∃ S : Nat, o = (S : Int) := ⟨o.toNat, by omega⟩
        have HC := rhashed_any k Tm O u d hh bf wr.drew (by omega) m1 m3 hmr.us hmr.de (Nat.le_of_eq hbfs)
        generalize hexD (recN (k : Int) (Tm : Int) (O : Int) u d bf) = X at HC hfit
        by_cases hk0 : k = 0
        · have hkz : ¬ (0 : Int) < (k : Int) := by omega
          have hd0 : decide ((0 : Int) < (k : Int)) = false := decide_eq_false hkz
          have hkN : ¬ 0 < k := by omega
          have hd0N : decide (0 < k) = false := decide_eq_false hkN
          have haz := HPZ.out hk0
          simp only at haz
          have HKS : Hid (∀ w', Below wr.heap.size wr w' → w'.cell? ⟨fb, fo + k * 6, none⟩ = some (.int .i64 (k : Int)) ∧ w'.cell? ⟨fb, fo + k * 6 + 1, none⟩ = some (.int .i64 (Tm : Int)) ∧ w'.cell? ⟨fb, fo + k * 6 + 2, none⟩ = some (.string u) ∧ w'.cell? ⟨fb, fo + k * 6 + 3, none⟩ = some (.string d) ∧ w'.cell? ⟨fb, fo + k * 6 + 4, none⟩ = some (.int .i64 (O : Int)) ∧ w'.cell? ⟨fb, fo + k * 6 + 5, none⟩ = some (.string hh)) := fun w' hb' => ⟨cellB z0 hb', cellB z1 hb', cellB z2 hb', cellB z3 hb', cellB z4 hb', cellB z5 hb'⟩
          have A0 : Below wr.heap.size wr wr.drew := (Below.refl _ _).drew
          clear hRK
          by_cases hX : hh = X
          · have HF : Hid (FitP ⟨(k : Int), (Tm : Int), u, d, (O : Int), hh⟩ ⟨a0, a1, a2, a3, a4, bf⟩) := hfit.2 ⟨by show a1 ≤ (Tm : Int); omega, rfl, hX⟩
            have hbq : (hh.toList == X.toList) = true := by rw [hX]; simp
            have HAZ : Hid _ := haz
            have HK0 : Hid _ := hk0
            clear haz hk0
            clear hfit hX
            go_upto_region 5 with fail
            refine wp_region_noPanic ?_
            refine wp_region_held_drew (S := fun w' => w'.cell? ⟨fb, fo + k * 6, none⟩ = some (.int .i64 (k : Int)) ∧ w'.cell? ⟨fb, fo + k * 6 + 1, none⟩ = some (.int .i64 (Tm : Int)) ∧ w'.cell? ⟨fb, fo + k * 6 + 2, none⟩ = some (.string u) ∧ w'.cell? ⟨fb, fo + k * 6 + 3, none⟩ = some (.string d) ∧ w'.cell? ⟨fb, fo + k * 6 + 4, none⟩ = some (.int .i64 (O : Int)) ∧ w'.cell? ⟨fb, fo + k * 6 + 5, none⟩ = some (.string hh)) (by kernel_rfl) (HKS.out _ A0) (fun hHeld => ?_)
            refine takeH 0 11 (v := ?_) rfl rfl (by kernel_rfl) (by kernel_rfl) (by kernel_rfl) (fun _ _ _ h => h) (by rfl) ?_ (by assumption) ?_
            rotate_left
            · intro w' hSw; go_simp; first | done | with_reducible rfl
            simp only [Act.put, List.setIfInBounds_toArray, List.set_cons_zero, List.set_cons_succ]
            refine takeH 1 12 (v := ?_) rfl rfl (by kernel_rfl) (by kernel_rfl) (by kernel_rfl) (fun _ _ _ h => h) (by rfl) ?_ (by assumption) ?_
            rotate_left
            · intro w' hSw; go_simp; first | done | with_reducible rfl
            simp only [Act.put, List.setIfInBounds_toArray, List.set_cons_zero, List.set_cons_succ]
            refine takeH 2 13 (v := ?_) rfl rfl (by kernel_rfl) (by kernel_rfl) (by kernel_rfl) (fun _ _ _ h => h) (by rfl) ?_ (by assumption) ?_
            rotate_left
            · intro w' hSw; go_simp; first | done | with_reducible rfl
            simp only [Act.put, List.setIfInBounds_toArray, List.set_cons_zero, List.set_cons_succ]
            refine takeH 3 14 (v := ?_) rfl rfl (by kernel_rfl) (by kernel_rfl) (by kernel_rfl) (fun _ _ _ h => h) (by rfl) ?_ (by assumption) ?_
            rotate_left
            · intro w' hSw; go_simp; first | done | with_reducible rfl
            simp only [Act.put, List.setIfInBounds_toArray, List.set_cons_zero, List.set_cons_succ]
            refine takeH 4 15 (v := ?_) rfl rfl (by kernel_rfl) (by kernel_rfl) (by kernel_rfl) (fun _ _ _ h => h) (by rfl) ?_ (by assumption) ?_
            rotate_left
            · intro w' hSw; go_simp; first | done | with_reducible rfl
            simp only [Act.put, List.setIfInBounds_toArray, List.set_cons_zero, List.set_cons_succ]
            refine takeH 5 16 (v := ?_) rfl rfl (by kernel_rfl) (by kernel_rfl) (by kernel_rfl) (fun _ _ _ h => h) (by rfl) ?_ (by assumption) ?_
            rotate_left
            · intro w' hSw; go_simp; first | done | with_reducible rfl
            simp only [Act.put, List.setIfInBounds_toArray, List.set_cons_zero, List.set_cons_succ]
            refine takeH 6 17 (v := ?_) rfl rfl (by kernel_rfl) (by kernel_rfl) (by kernel_rfl) (fun _ _ _ h => h) (by rfl) ?_ (by assumption) ?_
            rotate_left
            · intro w' hSw; go_simp; first | done | with_reducible rfl
            simp only [Act.put, List.setIfInBounds_toArray, List.set_cons_zero, List.set_cons_succ]
            refine takeH 7 18 (v := ?_) rfl rfl (by kernel_rfl) (by kernel_rfl) (by kernel_rfl) (fun _ _ _ h => h) (by rfl) ?_ (by assumption) ?_
            rotate_left
            · intro w' hSw; go_simp; first | done | with_reducible rfl
            simp only [Act.put, List.setIfInBounds_toArray, List.set_cons_zero, List.set_cons_succ]
            refine takeH 8 19 (v := ?_) rfl rfl (by kernel_rfl) (by kernel_rfl) (by kernel_rfl) (fun _ _ _ h => h) (by rfl) ?_ (by assumption) ?_
            rotate_left
            · intro w' hSw; go_simp; first | done | with_reducible rfl
            simp only [Act.put, List.setIfInBounds_toArray, List.set_cons_zero, List.set_cons_succ]
            refine takeH 9 20 (v := ?_) rfl rfl (by kernel_rfl) (by kernel_rfl) (by kernel_rfl) (fun _ _ _ h => h) (by rfl) ?_ (by assumption) ?_
            rotate_left
            · intro w' hSw; go_simp; first | done | with_reducible rfl
            simp only [Act.put, List.setIfInBounds_toArray, List.set_cons_zero, List.set_cons_succ]
            refine takeH 10 21 (v := ?_) rfl rfl (by kernel_rfl) (by kernel_rfl) (by kernel_rfl) (fun _ _ _ h => h) (by rfl) ?_ (by assumption) ?_
            rotate_left
            · intro w' hSw; go_simp; first | done | with_reducible rfl
            simp only [Act.put, List.setIfInBounds_toArray, List.set_cons_zero, List.set_cons_succ]
            refine skipH 11 22 rfl rfl (by kernel_rfl) (by kernel_rfl) (by kernel_rfl) (fun _ _ _ h => h) (by rfl) (by assumption) ?_
            simp only [Act.put, List.setIfInBounds_toArray, List.set_cons_zero, List.set_cons_succ]
            refine skipH 12 23 rfl rfl (by kernel_rfl) (by kernel_rfl) (by kernel_rfl) (fun _ _ _ h => h) (by rfl) (by assumption) ?_
            simp only [Act.put, List.setIfInBounds_toArray, List.set_cons_zero, List.set_cons_succ]
            refine skipH 13 24 rfl rfl (by kernel_rfl) (by kernel_rfl) (by kernel_rfl) (fun _ _ _ h => h) (by rfl) (by assumption) ?_
            simp only [Act.put, List.setIfInBounds_toArray, List.set_cons_zero, List.set_cons_succ]
            refine skipH 14 25 rfl rfl (by kernel_rfl) (by kernel_rfl) (by kernel_rfl) (fun _ _ _ h => h) (by rfl) (by assumption) ?_
            simp only [Act.put, List.setIfInBounds_toArray, List.set_cons_zero, List.set_cons_succ]
            refine skipH 15 26 rfl rfl (by kernel_rfl) (by kernel_rfl) (by kernel_rfl) (fun _ _ _ h => h) (by rfl) (by assumption) ?_
            simp only [Act.put, List.setIfInBounds_toArray, List.set_cons_zero, List.set_cons_succ]
            refine skipH 16 27 rfl rfl (by kernel_rfl) (by kernel_rfl) (by kernel_rfl) (fun _ _ _ h => h) (by rfl) (by assumption) ?_
            simp only [Act.put, List.setIfInBounds_toArray, List.set_cons_zero, List.set_cons_succ]
            refine skipH 17 28 rfl rfl (by kernel_rfl) (by kernel_rfl) (by kernel_rfl) (fun _ _ _ h => h) (by rfl) (by assumption) ?_
            simp only [Act.put, List.setIfInBounds_toArray, List.set_cons_zero, List.set_cons_succ]
            refine skipH 18 29 rfl rfl (by kernel_rfl) (by kernel_rfl) (by kernel_rfl) (fun _ _ _ h => h) (by rfl) (by assumption) ?_
            simp only [Act.put, List.setIfInBounds_toArray, List.set_cons_zero, List.set_cons_succ]
            refine skipH 19 30 rfl rfl (by kernel_rfl) (by kernel_rfl) (by kernel_rfl) (fun _ _ _ h => h) (by rfl) (by assumption) ?_
            simp only [Act.put, List.setIfInBounds_toArray, List.set_cons_zero, List.set_cons_succ]
            refine skipH 20 31 rfl rfl (by kernel_rfl) (by kernel_rfl) (by kernel_rfl) (fun _ _ _ h => h) (by rfl) (by assumption) ?_
            simp only [Act.put, List.setIfInBounds_toArray, List.set_cons_zero, List.set_cons_succ]
            refine skipH 21 32 rfl rfl (by kernel_rfl) (by kernel_rfl) (by kernel_rfl) (fun _ _ _ h => h) (by rfl) (by assumption) ?_
            simp only [Act.put, List.setIfInBounds_toArray, List.set_cons_zero, List.set_cons_succ]
            refine skipH 22 33 rfl rfl (by kernel_rfl) (by kernel_rfl) (by kernel_rfl) (fun _ _ _ h => h) (by rfl) (by assumption) ?_
            simp only [Act.put, List.setIfInBounds_toArray, List.set_cons_zero, List.set_cons_succ]
            refine takeH 23 34 (v := ?_) rfl rfl (by kernel_rfl) (by kernel_rfl) (by kernel_rfl) (fun _ _ _ h => h) (by rfl) ?_ (by assumption) ?_
            rotate_left
            · intro w' hSw; go_simp; first | done | with_reducible rfl
            simp only [Act.put, List.setIfInBounds_toArray, List.set_cons_zero, List.set_cons_succ]
            refine takeH 24 35 (v := ?_) rfl rfl (by kernel_rfl) (by kernel_rfl) (by kernel_rfl) (fun _ _ _ h => h) (by rfl) ?_ (by assumption) ?_
            rotate_left
            · intro w' hSw; go_simp; first | done | with_reducible rfl
            simp only [Act.put, List.setIfInBounds_toArray, List.set_cons_zero, List.set_cons_succ]
            refine takeH 25 36 (v := ?_) rfl rfl (by kernel_rfl) (by kernel_rfl) (by kernel_rfl) (fun _ _ _ h => h) (by rfl) ?_ (by assumption) ?_
            rotate_left
            · intro w' hSw; go_simp; first | done | with_reducible rfl
            simp only [Act.put, List.setIfInBounds_toArray, List.set_cons_zero, List.set_cons_succ]
            refine takeH 26 37 (v := ?_) rfl rfl (by kernel_rfl) (by kernel_rfl) (by kernel_rfl) (fun _ _ _ h => h) (by rfl) ?_ (by assumption) ?_
            rotate_left
            · intro w' hSw; go_simp; first | done | with_reducible rfl
            simp only [Act.put, List.setIfInBounds_toArray, List.set_cons_zero, List.set_cons_succ]
            refine takeH 27 38 (v := ?_) rfl rfl (by kernel_rfl) (by kernel_rfl) (by kernel_rfl) (fun _ _ _ h => h) (by rfl) ?_ (by assumption) ?_
            rotate_left
            · intro w' hSw; go_simp; first | done | with_reducible rfl
            simp only [Act.put, List.setIfInBounds_toArray, List.set_cons_zero, List.set_cons_succ]
            refine takeH 28 39 (v := ?_) rfl rfl (by kernel_rfl) (by kernel_rfl) (by kernel_rfl) (fun _ _ _ h => h) (by rfl) ?_ (by assumption) ?_
            rotate_left
            · intro w' hSw; go_simp; first | done | with_reducible rfl
            simp only [Act.put, List.setIfInBounds_toArray, List.set_cons_zero, List.set_cons_succ]
            refine takeH 29 40 (v := ?_) rfl rfl (by kernel_rfl) (by kernel_rfl) (by kernel_rfl) (fun _ _ _ h => h) (by rfl) ?_ (by assumption) ?_
            rotate_left
            · intro w' hSw; go_simp; first | done | with_reducible rfl
            simp only [Act.put, List.setIfInBounds_toArray, List.set_cons_zero, List.set_cons_succ]
            refine takeH 30 41 (v := ?_) rfl rfl (by kernel_rfl) (by kernel_rfl) (by kernel_rfl) (fun _ _ _ h => h) (by rfl) ?_ (by assumption) ?_
            rotate_left
            · intro w' hSw; go_simp; first | done | with_reducible rfl
            simp only [Act.put, List.setIfInBounds_toArray, List.set_cons_zero, List.set_cons_succ]
            refine takeH 31 42 (v := ?_) rfl rfl (by kernel_rfl) (by kernel_rfl) (by kernel_rfl) (fun _ _ _ h => h) (by rfl) ?_ (by assumption) ?_
            rotate_left
            · intro w' hSw; go_simp; first | done | with_reducible rfl
            simp only [Act.put, List.setIfInBounds_toArray, List.set_cons_zero, List.set_cons_succ]
            refine takeH 32 43 (v := ?_) rfl rfl (by kernel_rfl) (by kernel_rfl) (by kernel_rfl) (fun _ _ _ h => h) (by rfl) ?_ (by assumption) ?_
            rotate_left
            · intro w' hSw; go_simp; first | done | with_reducible rfl
            simp only [Act.put, List.setIfInBounds_toArray, List.set_cons_zero, List.set_cons_succ]
            refine takeH 33 44 (v := ?_) rfl rfl (by kernel_rfl) (by kernel_rfl) (by kernel_rfl) (fun _ _ _ h => h) (by rfl) ?_ (by assumption) ?_
            rotate_left
            · intro w' hSw; go_simp; first | done | with_reducible rfl
            simp only [Act.put, List.setIfInBounds_toArray, List.set_cons_zero, List.set_cons_succ]
            refine takeH 34 45 (v := ?_) rfl rfl (by kernel_rfl) (by kernel_rfl) (by kernel_rfl) (fun _ _ _ h => h) (by rfl) ?_ (by assumption) ?_
            rotate_left
            · intro w' hSw; go_simp; first | done | with_reducible rfl
            simp only [Act.put, List.setIfInBounds_toArray, List.set_cons_zero, List.set_cons_succ]
            refine takeH 35 46 (v := ?_) rfl rfl (by kernel_rfl) (by kernel_rfl) (by kernel_rfl) (fun _ _ _ h => h) (by rfl) ?_ (by assumption) ?_
            rotate_left
            · intro w' hSw; go_simp; first | done | with_reducible rfl
            simp only [Act.put, List.setIfInBounds_toArray, List.set_cons_zero, List.set_cons_succ]
            refine wpAnyH_ready (rs := [36]) (by kernel_rfl) (by simp) ?_
            refine AllReadyH.cons (o := { dst := some 47, op := Op.call { callee := Callee.value (Operand.func 58), args := #[Operand.tmp 45, Operand.tmp 46], argTypes := #[41, 9] }, type := 9, pos := "ref.go:87", after := #[{ on := 34, ground := Ground.data }, { on := 35, ground := Ground.data }, { on := 25, ground := Ground.chain }, { on := 25, ground := Ground.guard }], guard := some (25, false) }) rfl (fun K hK => ?_) AllReadyH.nil
            go_simp
            refine HC.mono ?_
            rintro e w6 ⟨rfl, hb6⟩
            simp only []
            refine hK.out _ _ (HKS.out _ (below_more A0 hb6)) (fun hHeld3 => ?_)
            clear hK K
            refine takeH 37 48 (v := ?_) rfl rfl (by kernel_rfl) (by kernel_rfl) (by kernel_rfl) (fun _ _ _ h => h) (by rfl) ?_ (by assumption) ?_
            rotate_left
            · intro w' hSw; go_simp; first | done | with_reducible rfl
            simp only [Act.put, List.setIfInBounds_toArray, List.set_cons_zero, List.set_cons_succ]
            refine takeH 38 49 (v := ?_) rfl rfl (by kernel_rfl) (by kernel_rfl) (by kernel_rfl) (fun _ _ _ h => h) (by rfl) ?_ (by assumption) ?_
            rotate_left
            · intro w' hSw; go_simp; first | done | with_reducible rfl
            simp only [Act.put, List.setIfInBounds_toArray, List.set_cons_zero, List.set_cons_succ]
            refine wpAnyH_done (by kernel_rfl) ?_ _
            refine NoPanic.normal ?_
            have A1 := below_more A0 hb6
            obtain ⟨y0, y1, y2, y3, y4, y5⟩ := HKS.out _ A1
            clear z0 z1 z2 z3 z4 z5
            go_wp2
            go_roundw
            case rel => exact ⟨k + 1, by omega, rfl, by rw [HP.out], HK1.out HF.out, below_more HB.out A1⟩
            case measure => simp [intOf]; omega
          · have HF : Hid (m = (k : Int)) := HK2.out (fun hf => hX (hfit.1 hf).2.2)
            have hbq : (hh.toList == X.toList) = false := by rw [ba_eq]; exact decide_eq_false hX
            have HAZ : Hid _ := haz
            have HK0 : Hid _ := hk0
            clear haz hk0
            clear hfit hX
            go_upto_region 5 with fail
            refine wp_region_noPanic ?_
            refine wp_region_held_drew (S := fun w' => w'.cell? ⟨fb, fo + k * 6, none⟩ = some (.int .i64 (k : Int)) ∧ w'.cell? ⟨fb, fo + k * 6 + 1, none⟩ = some (.int .i64 (Tm : Int)) ∧ w'.cell? ⟨fb, fo + k * 6 + 2, none⟩ = some (.string u) ∧ w'.cell? ⟨fb, fo + k * 6 + 3, none⟩ = some (.string d) ∧ w'.cell? ⟨fb, fo + k * 6 + 4, none⟩ = some (.int .i64 (O : Int)) ∧ w'.cell? ⟨fb, fo + k * 6 + 5, none⟩ = some (.string hh)) (by kernel_rfl) (HKS.out _ A0) (fun hHeld => ?_)
            refine takeH 0 11 (v := ?_) rfl rfl (by kernel_rfl) (by kernel_rfl) (by kernel_rfl) (fun _ _ _ h => h) (by rfl) ?_ (by assumption) ?_
            rotate_left
            · intro w' hSw; go_simp; first | done | with_reducible rfl
            simp only [Act.put, List.setIfInBounds_toArray, List.set_cons_zero, List.set_cons_succ]
            refine takeH 1 12 (v := ?_) rfl rfl (by kernel_rfl) (by kernel_rfl) (by kernel_rfl) (fun _ _ _ h => h) (by rfl) ?_ (by assumption) ?_
            rotate_left
            · intro w' hSw; go_simp; first | done | with_reducible rfl
            simp only [Act.put, List.setIfInBounds_toArray, List.set_cons_zero, List.set_cons_succ]
            refine takeH 2 13 (v := ?_) rfl rfl (by kernel_rfl) (by kernel_rfl) (by kernel_rfl) (fun _ _ _ h => h) (by rfl) ?_ (by assumption) ?_
            rotate_left
            · intro w' hSw; go_simp; first | done | with_reducible rfl
            simp only [Act.put, List.setIfInBounds_toArray, List.set_cons_zero, List.set_cons_succ]
            refine takeH 3 14 (v := ?_) rfl rfl (by kernel_rfl) (by kernel_rfl) (by kernel_rfl) (fun _ _ _ h => h) (by rfl) ?_ (by assumption) ?_
            rotate_left
            · intro w' hSw; go_simp; first | done | with_reducible rfl
            simp only [Act.put, List.setIfInBounds_toArray, List.set_cons_zero, List.set_cons_succ]
            refine takeH 4 15 (v := ?_) rfl rfl (by kernel_rfl) (by kernel_rfl) (by kernel_rfl) (fun _ _ _ h => h) (by rfl) ?_ (by assumption) ?_
            rotate_left
            · intro w' hSw; go_simp; first | done | with_reducible rfl
            simp only [Act.put, List.setIfInBounds_toArray, List.set_cons_zero, List.set_cons_succ]
            refine takeH 5 16 (v := ?_) rfl rfl (by kernel_rfl) (by kernel_rfl) (by kernel_rfl) (fun _ _ _ h => h) (by rfl) ?_ (by assumption) ?_
            rotate_left
            · intro w' hSw; go_simp; first | done | with_reducible rfl
            simp only [Act.put, List.setIfInBounds_toArray, List.set_cons_zero, List.set_cons_succ]
            refine takeH 6 17 (v := ?_) rfl rfl (by kernel_rfl) (by kernel_rfl) (by kernel_rfl) (fun _ _ _ h => h) (by rfl) ?_ (by assumption) ?_
            rotate_left
            · intro w' hSw; go_simp; first | done | with_reducible rfl
            simp only [Act.put, List.setIfInBounds_toArray, List.set_cons_zero, List.set_cons_succ]
            refine takeH 7 18 (v := ?_) rfl rfl (by kernel_rfl) (by kernel_rfl) (by kernel_rfl) (fun _ _ _ h => h) (by rfl) ?_ (by assumption) ?_
            rotate_left
            · intro w' hSw; go_simp; first | done | with_reducible rfl
            simp only [Act.put, List.setIfInBounds_toArray, List.set_cons_zero, List.set_cons_succ]
            refine takeH 8 19 (v := ?_) rfl rfl (by kernel_rfl) (by kernel_rfl) (by kernel_rfl) (fun _ _ _ h => h) (by rfl) ?_ (by assumption) ?_
            rotate_left
            · intro w' hSw; go_simp; first | done | with_reducible rfl
            simp only [Act.put, List.setIfInBounds_toArray, List.set_cons_zero, List.set_cons_succ]
            refine takeH 9 20 (v := ?_) rfl rfl (by kernel_rfl) (by kernel_rfl) (by kernel_rfl) (fun _ _ _ h => h) (by rfl) ?_ (by assumption) ?_
            rotate_left
            · intro w' hSw; go_simp; first | done | with_reducible rfl
            simp only [Act.put, List.setIfInBounds_toArray, List.set_cons_zero, List.set_cons_succ]
            refine takeH 10 21 (v := ?_) rfl rfl (by kernel_rfl) (by kernel_rfl) (by kernel_rfl) (fun _ _ _ h => h) (by rfl) ?_ (by assumption) ?_
            rotate_left
            · intro w' hSw; go_simp; first | done | with_reducible rfl
            simp only [Act.put, List.setIfInBounds_toArray, List.set_cons_zero, List.set_cons_succ]
            refine skipH 11 22 rfl rfl (by kernel_rfl) (by kernel_rfl) (by kernel_rfl) (fun _ _ _ h => h) (by rfl) (by assumption) ?_
            simp only [Act.put, List.setIfInBounds_toArray, List.set_cons_zero, List.set_cons_succ]
            refine skipH 12 23 rfl rfl (by kernel_rfl) (by kernel_rfl) (by kernel_rfl) (fun _ _ _ h => h) (by rfl) (by assumption) ?_
            simp only [Act.put, List.setIfInBounds_toArray, List.set_cons_zero, List.set_cons_succ]
            refine skipH 13 24 rfl rfl (by kernel_rfl) (by kernel_rfl) (by kernel_rfl) (fun _ _ _ h => h) (by rfl) (by assumption) ?_
            simp only [Act.put, List.setIfInBounds_toArray, List.set_cons_zero, List.set_cons_succ]
            refine skipH 14 25 rfl rfl (by kernel_rfl) (by kernel_rfl) (by kernel_rfl) (fun _ _ _ h => h) (by rfl) (by assumption) ?_
            simp only [Act.put, List.setIfInBounds_toArray, List.set_cons_zero, List.set_cons_succ]
            refine skipH 15 26 rfl rfl (by kernel_rfl) (by kernel_rfl) (by kernel_rfl) (fun _ _ _ h => h) (by rfl) (by assumption) ?_
            simp only [Act.put, List.setIfInBounds_toArray, List.set_cons_zero, List.set_cons_succ]
            refine skipH 16 27 rfl rfl (by kernel_rfl) (by kernel_rfl) (by kernel_rfl) (fun _ _ _ h => h) (by rfl) (by assumption) ?_
            simp only [Act.put, List.setIfInBounds_toArray, List.set_cons_zero, List.set_cons_succ]
            refine skipH 17 28 rfl rfl (by kernel_rfl) (by kernel_rfl) (by kernel_rfl) (fun _ _ _ h => h) (by rfl) (by assumption) ?_
            simp only [Act.put, List.setIfInBounds_toArray, List.set_cons_zero, List.set_cons_succ]
            refine skipH 18 29 rfl rfl (by kernel_rfl) (by kernel_rfl) (by kernel_rfl) (fun _ _ _ h => h) (by rfl) (by assumption) ?_
            simp only [Act.put, List.setIfInBounds_toArray, List.set_cons_zero, List.set_cons_succ]
            refine skipH 19 30 rfl rfl (by kernel_rfl) (by kernel_rfl) (by kernel_rfl) (fun _ _ _ h => h) (by rfl) (by assumption) ?_
            simp only [Act.put, List.setIfInBounds_toArray, List.set_cons_zero, List.set_cons_succ]
            refine skipH 20 31 rfl rfl (by kernel_rfl) (by kernel_rfl) (by kernel_rfl) (fun _ _ _ h => h) (by rfl) (by assumption) ?_
            simp only [Act.put, List.setIfInBounds_toArray, List.set_cons_zero, List.set_cons_succ]
            refine skipH 21 32 rfl rfl (by kernel_rfl) (by kernel_rfl) (by kernel_rfl) (fun _ _ _ h => h) (by rfl) (by assumption) ?_
            simp only [Act.put, List.setIfInBounds_toArray, List.set_cons_zero, List.set_cons_succ]
            refine skipH 22 33 rfl rfl (by kernel_rfl) (by kernel_rfl) (by kernel_rfl) (fun _ _ _ h => h) (by rfl) (by assumption) ?_
            simp only [Act.put, List.setIfInBounds_toArray, List.set_cons_zero, List.set_cons_succ]
            refine takeH 23 34 (v := ?_) rfl rfl (by kernel_rfl) (by kernel_rfl) (by kernel_rfl) (fun _ _ _ h => h) (by rfl) ?_ (by assumption) ?_
            rotate_left
            · intro w' hSw; go_simp; first | done | with_reducible rfl
            simp only [Act.put, List.setIfInBounds_toArray, List.set_cons_zero, List.set_cons_succ]
            refine takeH 24 35 (v := ?_) rfl rfl (by kernel_rfl) (by kernel_rfl) (by kernel_rfl) (fun _ _ _ h => h) (by rfl) ?_ (by assumption) ?_
            rotate_left
            · intro w' hSw; go_simp; first | done | with_reducible rfl
            simp only [Act.put, List.setIfInBounds_toArray, List.set_cons_zero, List.set_cons_succ]
            refine takeH 25 36 (v := ?_) rfl rfl (by kernel_rfl) (by kernel_rfl) (by kernel_rfl) (fun _ _ _ h => h) (by rfl) ?_ (by assumption) ?_
            rotate_left
            · intro w' hSw; go_simp; first | done | with_reducible rfl
            simp only [Act.put, List.setIfInBounds_toArray, List.set_cons_zero, List.set_cons_succ]
            refine takeH 26 37 (v := ?_) rfl rfl (by kernel_rfl) (by kernel_rfl) (by kernel_rfl) (fun _ _ _ h => h) (by rfl) ?_ (by assumption) ?_
            rotate_left
            · intro w' hSw; go_simp; first | done | with_reducible rfl
            simp only [Act.put, List.setIfInBounds_toArray, List.set_cons_zero, List.set_cons_succ]
            refine takeH 27 38 (v := ?_) rfl rfl (by kernel_rfl) (by kernel_rfl) (by kernel_rfl) (fun _ _ _ h => h) (by rfl) ?_ (by assumption) ?_
            rotate_left
            · intro w' hSw; go_simp; first | done | with_reducible rfl
            simp only [Act.put, List.setIfInBounds_toArray, List.set_cons_zero, List.set_cons_succ]
            refine takeH 28 39 (v := ?_) rfl rfl (by kernel_rfl) (by kernel_rfl) (by kernel_rfl) (fun _ _ _ h => h) (by rfl) ?_ (by assumption) ?_
            rotate_left
            · intro w' hSw; go_simp; first | done | with_reducible rfl
            simp only [Act.put, List.setIfInBounds_toArray, List.set_cons_zero, List.set_cons_succ]
            refine takeH 29 40 (v := ?_) rfl rfl (by kernel_rfl) (by kernel_rfl) (by kernel_rfl) (fun _ _ _ h => h) (by rfl) ?_ (by assumption) ?_
            rotate_left
            · intro w' hSw; go_simp; first | done | with_reducible rfl
            simp only [Act.put, List.setIfInBounds_toArray, List.set_cons_zero, List.set_cons_succ]
            refine takeH 30 41 (v := ?_) rfl rfl (by kernel_rfl) (by kernel_rfl) (by kernel_rfl) (fun _ _ _ h => h) (by rfl) ?_ (by assumption) ?_
            rotate_left
            · intro w' hSw; go_simp; first | done | with_reducible rfl
            simp only [Act.put, List.setIfInBounds_toArray, List.set_cons_zero, List.set_cons_succ]
            refine takeH 31 42 (v := ?_) rfl rfl (by kernel_rfl) (by kernel_rfl) (by kernel_rfl) (fun _ _ _ h => h) (by rfl) ?_ (by assumption) ?_
            rotate_left
            · intro w' hSw; go_simp; first | done | with_reducible rfl
            simp only [Act.put, List.setIfInBounds_toArray, List.set_cons_zero, List.set_cons_succ]
            refine takeH 32 43 (v := ?_) rfl rfl (by kernel_rfl) (by kernel_rfl) (by kernel_rfl) (fun _ _ _ h => h) (by rfl) ?_ (by assumption) ?_
            rotate_left
            · intro w' hSw; go_simp; first | done | with_reducible rfl
            simp only [Act.put, List.setIfInBounds_toArray, List.set_cons_zero, List.set_cons_succ]
            refine takeH 33 44 (v := ?_) rfl rfl (by kernel_rfl) (by kernel_rfl) (by kernel_rfl) (fun _ _ _ h => h) (by rfl) ?_ (by assumption) ?_
            rotate_left
            · intro w' hSw; go_simp; first | done | with_reducible rfl
            simp only [Act.put, List.setIfInBounds_toArray, List.set_cons_zero, List.set_cons_succ]
            refine takeH 34 45 (v := ?_) rfl rfl (by kernel_rfl) (by kernel_rfl) (by kernel_rfl) (fun _ _ _ h => h) (by rfl) ?_ (by assumption) ?_
            rotate_left
            · intro w' hSw; go_simp; first | done | with_reducible rfl
            simp only [Act.put, List.setIfInBounds_toArray, List.set_cons_zero, List.set_cons_succ]
            refine takeH 35 46 (v := ?_) rfl rfl (by kernel_rfl) (by kernel_rfl) (by kernel_rfl) (fun _ _ _ h => h) (by rfl) ?_ (by assumption) ?_
            rotate_left
            · intro w' hSw; go_simp; first | done | with_reducible rfl
            simp only [Act.put, List.setIfInBounds_toArray, List.set_cons_zero, List.set_cons_succ]
            refine wpAnyH_ready (rs := [36]) (by kernel_rfl) (by simp) ?_
            refine AllReadyH.cons (o := { dst := some 47, op := Op.call { callee := Callee.value (Operand.func 58), args := #[Operand.tmp 45, Operand.tmp 46], argTypes := #[41, 9] }, type := 9, pos := "ref.go:87", after := #[{ on := 34, ground := Ground.data }, { on := 35, ground := Ground.data }, { on := 25, ground := Ground.chain }, { on := 25, ground := Ground.guard }], guard := some (25, false) }) rfl (fun K hK => ?_) AllReadyH.nil
            go_simp
            refine HC.mono ?_
            rintro e w6 ⟨rfl, hb6⟩
            simp only []
            refine hK.out _ _ (HKS.out _ (below_more A0 hb6)) (fun hHeld3 => ?_)
            clear hK K
            refine takeH 37 48 (v := ?_) rfl rfl (by kernel_rfl) (by kernel_rfl) (by kernel_rfl) (fun _ _ _ h => h) (by rfl) ?_ (by assumption) ?_
            rotate_left
            · intro w' hSw; go_simp; first | done | with_reducible rfl
            simp only [Act.put, List.setIfInBounds_toArray, List.set_cons_zero, List.set_cons_succ]
            refine takeH 38 49 (v := ?_) rfl rfl (by kernel_rfl) (by kernel_rfl) (by kernel_rfl) (fun _ _ _ h => h) (by rfl) ?_ (by assumption) ?_
            rotate_left
            · intro w' hSw; go_simp; first | done | with_reducible rfl
            simp only [Act.put, List.setIfInBounds_toArray, List.set_cons_zero, List.set_cons_succ]
            refine wpAnyH_done (by kernel_rfl) ?_ _
            refine NoPanic.normal ?_
            have A1 := below_more A0 hb6
            obtain ⟨y0, y1, y2, y3, y4, y5⟩ := HKS.out _ A1
            clear z0 z1 z2 z3 z4 z5
            go_wp2
            go_ret
            exact ⟨by rw [HF.out]; rfl, below_more HB.out A1⟩
        · have hk0I : (0 : Int) < (k : Int) := by omega
          obtain ⟨J, hJ⟩ : ∃ J, k - 1 = J := ⟨_, rfl⟩
          have pr := (hRK (by omega)).c1
          have hpt := HPT.out (by omega)
          rw [hpt, hJ] at pr
          simp only at pr
          have eJ : (k : Int) - 1 = (J : Int) := by omega
          have eJ2 : (J : Int) < (n : Int) := by omega
          have eJ0 : (0 : Int) ≤ (J : Int) := by omega
          have eJw : IntKind.i64.wrap ((k : Int) - 1) = (J : Int) := by simp [IntKind.wrap, IntKind.bits, IntKind.signed]; omega
          have eJw2 : IntKind.i64.wrap (J : Int) = (J : Int) := by simp [IntKind.wrap, IntKind.bits, IntKind.signed]; omega
          have hd0 : decide ((0 : Int) < (k : Int)) = true := decide_eq_true hk0I
          have hkN : 0 < k := by omega
          have hd0N : decide (0 < k) = true := decide_eq_true hkN
          by_cases hB : (Tm : Int) < a1
          · have hd1 : decide ((Tm : Int) < a1) = true := decide_eq_true hB
            have HF : Hid (m = (k : Int)) := HK2.out (fun hf => by have := (hfit.1 hf).1; omega)
            clear hfit HC hRK hpt
            go_upto_region 5 with fail
            go_quiet (fail)
            go_wp2
            go_ret
            exact ⟨by rw [HF.out]; rfl, drewN_below HB.out _⟩
          · have hd1 : decide ((Tm : Int) < a1) = false := decide_eq_false hB
            have HKS : Hid (∀ w', Below wr.heap.size wr w' → (w'.cell? ⟨fb, fo + k * 6, none⟩ = some (.int .i64 (k : Int)) ∧ w'.cell? ⟨fb, fo + k * 6 + 1, none⟩ = some (.int .i64 (Tm : Int)) ∧ w'.cell? ⟨fb, fo + k * 6 + 2, none⟩ = some (.string u) ∧ w'.cell? ⟨fb, fo + k * 6 + 3, none⟩ = some (.string d) ∧ w'.cell? ⟨fb, fo + k * 6 + 4, none⟩ = some (.int .i64 (O : Int)) ∧ w'.cell? ⟨fb, fo + k * 6 + 5, none⟩ = some (.string hh)) ∧ w'.cell? ⟨fb, fo + J * 6 + 1, none⟩ = some (.int .i64 a1)) := fun w' hb' => ⟨⟨cellB z0 hb', cellB z1 hb', cellB z2 hb', cellB z3 hb', cellB z4 hb', cellB z5 hb'⟩, cellB pr hb'⟩
            have A0 : Below wr.heap.size wr wr.drew := (Below.refl _ _).drew
            clear hRK hpt
            by_cases hX : hh = X
            · have HF : Hid (FitP ⟨(k : Int), (Tm : Int), u, d, (O : Int), hh⟩ ⟨a0, a1, a2, a3, a4, bf⟩) := hfit.2 ⟨by show a1 ≤ (Tm : Int); omega, rfl, hX⟩
              have hbq : (hh.toList == X.toList) = true := by rw [hX]; simp
              clear hfit hX
              go_upto_region 5 with fail
              go_region_held3 (fun w' => (w'.cell? ⟨fb, fo + k * 6, none⟩ = some (.int .i64 (k : Int)) ∧ w'.cell? ⟨fb, fo + k * 6 + 1, none⟩ = some (.int .i64 (Tm : Int)) ∧ w'.cell? ⟨fb, fo + k * 6 + 2, none⟩ = some (.string u) ∧ w'.cell? ⟨fb, fo + k * 6 + 3, none⟩ = some (.string d) ∧ w'.cell? ⟨fb, fo + k * 6 + 4, none⟩ = some (.int .i64 (O : Int)) ∧ w'.cell? ⟨fb, fo + k * 6 + 5, none⟩ = some (.string hh)) ∧ w'.cell? ⟨fb, fo + J * 6 + 1, none⟩ = some (.int .i64 a1))
                (with_reducible first | exact HKS.out _ (Below.refl _ _) | exact HKS.out _ A0 | exact HKS.out _ A1 | assumption)
                (first
                  | (go_at_call 58; refine HC.mono ?_; rintro e w1 ⟨rfl, hb1⟩; have A1 := below_more A0 hb1)
                  | fail)
              obtain ⟨⟨y0, y1, y2, y3, y4, y5⟩, _⟩ := HKS.out _ A1
              clear z0 z1 z2 z3 z4 z5 pr
              go_wp2
              go_roundw
              case rel => exact ⟨k + 1, by omega, rfl, by rw [HP.out], HK1.out HF.out, below_more HB.out A1⟩
              case measure => simp [intOf]; omega
            · have HF : Hid (m = (k : Int)) := HK2.out (fun hf => hX (hfit.1 hf).2.2)
              have hbq : (hh.toList == X.toList) = false := by rw [ba_eq]; exact decide_eq_false hX
              clear hfit hX
              go_upto_region 5 with fail
              go_region_held3 (fun w' => (w'.cell? ⟨fb, fo + k * 6, none⟩ = some (.int .i64 (k : Int)) ∧ w'.cell? ⟨fb, fo + k * 6 + 1, none⟩ = some (.int .i64 (Tm : Int)) ∧ w'.cell? ⟨fb, fo + k * 6 + 2, none⟩ = some (.string u) ∧ w'.cell? ⟨fb, fo + k * 6 + 3, none⟩ = some (.string d) ∧ w'.cell? ⟨fb, fo + k * 6 + 4, none⟩ = some (.int .i64 (O : Int)) ∧ w'.cell? ⟨fb, fo + k * 6 + 5, none⟩ = some (.string hh)) ∧ w'.cell? ⟨fb, fo + J * 6 + 1, none⟩ = some (.int .i64 a1))
                (with_reducible first | exact HKS.out _ (Below.refl _ _) | exact HKS.out _ A0 | exact HKS.out _ A1 | assumption)
                (first
                  | (go_at_call 58; refine HC.mono ?_; rintro e w1 ⟨rfl, hb1⟩; have A1 := below_more A0 hb1)
                  | fail)
              obtain ⟨⟨y0, y1, y2, y3, y4, y5⟩, _⟩ := HKS.out _ A1
              clear z0 z1 z2 z3 z4 z5 pr
              go_wp2
              go_ret
              exact ⟨by rw [HF.out]; rfl, below_more HB.out A1⟩
      · have hneA : (s != (k : Int)) = true := by simpa using hA
        have HF : Hid (m = (k : Int)) := HK2.out (fun hf => hA (hfit.1 hf).2.1)
        clear hfit hRK hA
        go_upto_region 5 with fail
        go_quiet (fail)
        go_wp2
        go_ret
        exact ⟨by rw [HF.out]; rfl, drewN_below HB.out _⟩
    · obtain rfl : k = n := by omega
      have HE : Hid (m = -1) := HM.out.eq (.all fun j hj => HZ.out j (by have := HN.out; omega))
      go_wp2
      go_ret
      exact ⟨by rw [HE.out]; rfl, HB.out⟩
end Go.Proofs.YtoagaddciapmkaaDoor
