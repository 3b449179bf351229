/- Layer 3, by the program: which lists are rules; the game of a rule. -/
import Derived.Test.YtnnndooagpkgmaaVf
namespace Go.Proofs.Ytnnndooagpkgmaa
open Go Go.RowKit

/-- The i-th set of a rule is a set, greater than the one ahead of it, and contains none ahead of it. -/
def RuleOk (n : Nat) (R : List Int) (i : Nat) : Prop := 1 ≤ nth R i ∧ nth R i < ((pw n : Nat) : Int) ∧ (0 < i → nth R (i - 1) < nth R i) ∧ hasOne (R.take i) (nth R i).toNat = false
def RulesTo (n : Nat) (R : List Int) (k : Nat) : Prop := ∀ i, i < k → RuleOk n R i
/-- A rule of n drovers. -/
def RuleP (n : Nat) (R : List Int) : Prop := 1 ≤ n ∧ n ≤ 5 ∧ 0 < R.length ∧ RulesTo n R R.length
instance (n : Nat) (R : List Int) (i : Nat) : Decidable (RuleOk n R i) := by unfold RuleOk; infer_instance
instance (n : Nat) (R : List Int) (k : Nat) : Decidable (RulesTo n R k) := by unfold RulesTo; infer_instance
instance (n : Nat) (R : List Int) : Decidable (RuleP n R) := by unfold RuleP; infer_instance
theorem RulesTo.succ {n : Nat} {R : List Int} {k : Nat} (h : RulesTo n R k) (hk : RuleOk n R k) : RulesTo n R (k + 1) := fun i hi => by
  by_cases e : i = k
  · subst e; exact hk
  · exact h i (by omega)
theorem Ints.take {w : World} {a : Option Addr} {R : List Int} {k : Nat} (h : Ints w a R) (hk : k ≤ R.length) : Ints w a (R.take k) := by
  rcases h with h | ⟨b, off, e, hc⟩
  · exact .inl (by simp; omega)
  · refine .inr ⟨b, off, e, fun i hi => ?_⟩
    have hi' : i < k := by simp at hi; omega
    have : nth (R.take k) i = nth R i := by simp [nth, hi']
    rw [this]
    exact hc i (by omega)
theorem RulesTo.sets {n : Nat} {R : List Int} {k : Nat} (h : RulesTo n R k) (hn : n ≤ 8) (hk : k ≤ R.length) : Sets (R.take k) := fun x hx => by
  obtain ⟨i, hi, rfl⟩ := mem_nth hx
  have hi' : i < k := by simp at hi; omega
  have e : nth (R.take k) i = nth R i := by simp [nth, hi']
  have := h i hi'
  have hp8 : pw n ≤ 256 := by have := pw_mono hn; simpa [pw] using this
  rw [e]
  unfold RuleOk at this
  omega
set_option maxRecDepth 100000 in
set_option maxHeartbeats 4000000 in
theorem isRule_any (a : Option Addr) (m c n : Nat) (R : List Int) (w : World) (h : Ints w a R) (hl : R.length = m) (hm : m ≤ 1000) (hmc : m ≤ c) (h1 : 1 ≤ n) (h5 : n ≤ 8) :
    Calls Try.prog 73 #[.int .i64 (n : Nat), .slice a m c] w (Ret (.bool (decide (0 < m ∧ RulesTo n R m))) w) := by
  have sh := wrap_shl (k := n) (by omega)
  have hp8 : pw n ≤ 256 := by have := pw_mono h5; simpa [pw] using this
  have hp1 := pw_pos n
  by_cases h0 : m = 0
  · subst h0
    rw [decide_eq_false (by omega)]
    clear hl h hp1 hp8 sh
    go_enter Try.func73, Try.ntmps73
    go_wp2
    go_loop [5, 6, 9] (fun _ _ i => i = .int .i64 0) (fun _ _ _ => 0)
    case atStart => rfl
    case round =>
      subst hrel
      go_wp2
      go_ret
      exact Ret.mk rfl (Below.refl _ _)
  · obtain ⟨b, off, rfl, hc⟩ := ints_at h (by omega)
    rw [hl] at hc
    replace hc := Lib.hid hc
    have hb : b < w.heap.size := block_lt_of_cell (hc.out 0 (by omega))
    have C := Lib.hid (fun k (hk : k < m) (x : Nat) (hx : x < 65536) (hR : RulesTo n R k) W (hW : Below w.heap.size w W) => containsOne_any (some ⟨b, off, none⟩) k c (R.take k) x W ((h.next hW).take (by omega)) (by simp; omega) (by omega) hx (hR.sets h5 (by omega)))
    have hl' := Lib.hid hl
    clear h hl
    obtain ⟨N, hN⟩ : ∃ N, Hid (pw n = N) := ⟨_, Lib.hid rfl⟩
    rw [hN.out] at hp8 hp1 sh
    have hm0 : 0 < m := by omega
    clear h0
    go_enter Try.func73, Try.ntmps73
    go_wp2
    go_loopw [5, 6, 9] (fun _ _ i wr => ∃ k : Nat, k ≤ m ∧ i = .int .i64 k ∧ RulesTo n R k ∧ Below w.heap.size w wr) (fun _ _ i _ => m - (intOf i).toNat)
    case atStart => exact ⟨0, by omega, rfl, fun i hi => absurd hi (by omega), Below.refl _ _⟩
    case round =>
      obtain ⟨k, hk, rfl, hR, B0⟩ := hrel
      have hRk := Lib.hid hR
      clear hR
      by_cases hlt : k < m
      · have hki : (k : Int) < (m : Int) := by omega
        have hkc : k ≤ c := by omega
        have x0 := cellB B0 (hc.out k hlt)
        have hok := Lib.hid (show RuleOk n R k ↔ 1 ≤ nth R k ∧ nth R k < ((N : Nat) : Int) ∧ (0 < k → nth R (k - 1) < nth R k) ∧ hasOne (R.take k) (nth R k).toNat = false by rw [← hN.out]; exact Iff.rfl)
        have hno := Lib.hid (fun (h : ¬ RuleOk n R k) => (show decide (0 < m ∧ RulesTo n R m) = false from decide_eq_false (fun h2 => h (h2.2 k hlt))))
        have CC := Lib.hid (fun x hx W hW => C.out k hlt x hx hRk.out W hW)
        obtain ⟨p, hp, hpc⟩ : ∃ p, Hid (0 < k → nth R (k - 1) = p) ∧ (0 < k → wr.cell? ⟨b, off + (k - 1), none⟩ = some (.int .i64 p)) := ⟨_, Lib.hid (fun _ => rfl), fun h0 => cellB B0 (hc.out (k - 1) (by omega))⟩
        obtain ⟨x, hx⟩ : ∃ x, Hid (nth R k = x) := ⟨_, Lib.hid rfl⟩
        rw [hx.out] at x0 hok
        cases g1 : decide (x < 1)
        · cases g2 : decide (((N : Nat) : Int) ≤ x)
          · have hx1 : 1 ≤ x := by have := of_decide_eq_false g1; omega
            have hx2 : x < N := by have := of_decide_eq_false g2; omega
            obtain ⟨y, rfl⟩ : ∃ y : Nat, x = y := ⟨x.toNat, by omega⟩
            have CY := CC.out y (by omega)
            simp only [Int.toNat_natCast] at hok
            have hw1 : wr.heap.size = wr.heap.size := rfl
            by_cases hk0 : 0 < k
            · have p0 := hpc hk0
              have p1 := hp.out hk0
              rw [p1] at hok
              have hk1 : (0 : Int) < (k : Int) := by omega
              have hkm : ((k - 1 : Nat) : Int) < (m : Int) := by omega
              have wk : wrap64 ((k : Int) - 1) = ((k - 1 : Nat) : Int) := by rw [IntWalk.wrap64_in _ ⟨by omega, by omega⟩]; omega
              cases g3 : decide ((y : Int) ≤ p)
              · cases g4 : hasOne (R.take k) y
                · rw [g4] at CY
                  have p1' := Lib.hid p1
                  have hok1 := Lib.hid (hRk.out.succ (hok.out.2 ⟨hx1, hx2, fun _ => by have := of_decide_eq_false g3; omega, g4⟩))
                  replace g4 := Lib.hid g4
                  clear p1 hpc
                  go_wp2_with (go_at_call 69; refine (CY _ B0).mono ?_; rintro e w1 ⟨rfl, hb1⟩)
                  go_roundw
                  case rel => exact ⟨k + 1, by omega, by go_num, hok1.out, nextB B0 hb1⟩
                  case measure => simp [intOf]; omega
                · rw [g4] at CY
                  rw [hno.out (fun h => by have := (hok.out.1 h).2.2.2; rw [g4] at this; cases this)]
                  have p1' := Lib.hid p1
                  replace g4 := Lib.hid g4
                  clear p1 hpc
                  go_wp2_with (go_at_call 69; refine (CY _ B0).mono ?_; rintro e w1 ⟨rfl, hb1⟩)
                  go_ret
                  exact Ret.mk rfl (nextB B0 hb1)
              · rw [hno.out (fun h => by have := (hok.out.1 h).2.2.1 hk0; have := of_decide_eq_true g3; omega)]
                have p1' := Lib.hid p1
                clear p1 hpc
                go_wp2_with fail
                go_ret
                exact Ret.mk rfl B0
            · have hk1 : k = 0 := by omega
              subst hk1
              clear hpc
              rw [Nat.add_zero] at x0
              have hki0 : (0 : Int) < (m : Int) := by omega
              cases g4 : hasOne (R.take 0) y
              · rw [g4] at CY
                have hok1 := Lib.hid (hRk.out.succ (hok.out.2 ⟨hx1, hx2, fun h => absurd h hk0, g4⟩))
                replace g4 := Lib.hid g4
                go_wp2_with (go_at_call 69; refine (CY _ B0).mono ?_; rintro e w1 ⟨rfl, hb1⟩)
                go_roundw
                case rel => exact ⟨1, by omega, by go_num, hok1.out, nextB B0 hb1⟩
                case measure => simp [intOf]; omega
              · exact absurd g4 (by simp [hasOne])
          · rw [hno.out (fun h => by have := (hok.out.1 h).2.1; have := of_decide_eq_true g2; omega)]
            clear hpc
            go_wp2_with fail
            go_ret
            exact Ret.mk rfl B0
        · rw [hno.out (fun h => by have := (hok.out.1 h).1; have := of_decide_eq_true g1; omega)]
          clear hpc
          go_wp2_with fail
          go_ret
          exact Ret.mk rfl B0
      · obtain rfl : k = m := by omega
        have hmi : (0 : Int) < (k : Int) := by omega
        go_wp2_with fail
        go_ret
        exact Ret.mk (show Value.bool true = _ by rw [decide_eq_true (show 0 < k ∧ RulesTo n R k from ⟨hm0, hRk.out⟩)]) B0
theorem enters74 (args : Array Value) (W : World) : (callFunc 74 args).run Try.prog W = .ok (.enter 74 args) W := by go_simp
theorem gameOfRule1_any (q3 : Addr) (a : Option Addr) (m c s : Nat) (R : List Int) (w : World) (hq : w.cell? q3 = some (.slice a m c)) (h : Ints w a R) (hl : R.length = m) (hm : m ≤ 1000) (hs : s < 65536) (hR : Sets R) :
    Calls Try.prog 74 #[.int .i64 (s : Nat), .pointer (some q3)] w (Ret (.bool (hasOne R s)) w) := by
  have C := Lib.hid (containsOne_any a m c R s w h hl hm hs hR)
  clear h hl
  go_enter Try.func74, Try.ntmps74
  go_wp2_with (go_at_call 69; refine C.out.mono ?_; rintro e w1 ⟨rfl, hb1⟩)
  go_ret
  exact Ret.mk rfl hb1
/-- The game of a rule. -/
def RuleR (n : Nat) (R : List Int) (w : World) (e : Ending) (w' : World) : Prop := ∃ B, e = .returned (.tuple #[gV n B (pw n), .bool true]) ∧ w.heap.size ≤ B ∧ Bools w' B (pw n) (hasOne R) ∧ Below w.heap.size w w'
theorem gor_out (a : Option Addr) (m c : Nat) (n : Int) (w : World) (hn : n < 1 ∨ 5 < n) :
    Calls Try.prog 56 #[.int .i64 n, .slice a m c] w (Ret noGame w) := by
  rcases hn with hn | hn
  all_goals
    go_enter Try.func56, Try.ntmps56
    go_wp2
    exact bodyPost_ret (v := noGame) (by simp [results, Try.results56, go_sem]) rfl (Ret.mk rfl (b2 _ _ _))
theorem res_cell (w : World) (cs : Array Value) (t : TypeId) : Blk ((w.alloc (.cells cs t)).alloc (.cells #[.int .i64 0, .slice none 0 0] 60)) (w.heap.size + 1) 60 #[.int .i64 0, .slice none 0 0] := by
  have := Blk.new (w.alloc (.cells cs t)) 60 #[.int .i64 0, .slice none 0 0]
  simpa using this
set_option maxRecDepth 100000 in
set_option maxHeartbeats 1600000 in
theorem gor_in (a : Option Addr) (m c n : Nat) (R : List Int) (w : World) (h : Ints w a R) (hl : R.length = m) (hm : m ≤ 1000) (hmc : m ≤ c) (h1 : 1 ≤ n) (h5 : n ≤ 5) :
    Calls Try.prog 56 #[.int .i64 (n : Nat), .slice a m c] w (fun e w' => (RuleP n R → RuleR n R w e w') ∧ (¬ RuleP n R → Ret noGame w e w')) := by
  have I := Lib.hid (fun W hW => isRule_any a m c n R W hW hl hm hmc h1 (by omega))
  have hP : Hid (RuleP n R ↔ 0 < m ∧ RulesTo n R m) := Lib.hid ⟨fun h => ⟨by have := h.2.2.1; omega, by have := h.2.2.2; rwa [hl] at this⟩, fun h => ⟨h1, h5, by omega, by rw [hl]; exact h.2⟩⟩
  have hSet := Lib.hid (fun (h2 : RulesTo n R m) => (show Sets R by have := h2.sets (k := m) (by omega) (by omega); rwa [List.take_of_length_le (by omega)] at this))
  have NG := Lib.hid (fun caps f W => newGame_any n 74 caps f W h1 (by omega) enters74)
  have hh := Lib.hid h
  have hl' := Lib.hid hl
  clear h hl
  have hp8 : pw n ≤ 256 := by have := pw_mono (show n ≤ 8 by omega); simpa [pw] using this
  cases g : decide (0 < m ∧ RulesTo n R m)
  · rw [g] at I
    have hno := Lib.hid (fun (h : RuleP n R) => (show False from (of_decide_eq_false g) (hP.out.1 h)))
    clear g
    go_enter Try.func56, Try.ntmps56
    go_wp2_with (go_at_call 73; refine (I.out _ (hh.out.next (b2 _ _ _))).mono ?_; rintro e w1 ⟨rfl, hb1⟩; have hR := (res_cell w #[.slice a m c] 22).ext hb1; have B1 := nextB (b2 _ _ _) hb1; have r0 := hR.c 0 rfl; have r1 := hR.c 1 rfl; have f0 := hR.fr 0; have f1 := hR.fr 1; have hQ := hR.set2 (.int .i64 0) (.slice none 0 0); have s0 := hQ.c 0 rfl; have s1 := hQ.c 1 rfl; replace hQ := Lib.hid hQ; replace hR := Lib.hid hR)
    refine bodyPost_ret (v := noGame) (by simp [results, Try.results56, go_sem, s0, s1]) rfl ?_
    exact ⟨fun h => absurd h hno.out, fun _ => Ret.mk rfl ((B1.setCell (Nat.le_succ _) _).setCell (Nat.le_succ _) _)⟩
  · rw [g] at I
    have hyes := Lib.hid (hP.out.2 (of_decide_eq_true g))
    have hS := hSet.out (of_decide_eq_true g).2
    clear g
    obtain ⟨N, hN⟩ : ∃ N, Hid (pw n = N) := ⟨_, Lib.hid rfl⟩
    have HN := Lib.hid (fun W (h0 : Blk W w.heap.size 22 #[.slice a m c]) (hW : Ints W a R) => NG.out #[.pointer (some ⟨w.heap.size, 0, none⟩)] (hasOne R) W (fun W' hW' s hs =>
      gameOfRule1_any ⟨w.heap.size, 0, none⟩ a m c s R W' ((h0.ext hW').c 0 rfl) (hW.next hW') hl'.out hm (by omega) hS))
    unfold GameR at HN
    rw [hN.out] at HN
    go_enter Try.func56, Try.ntmps56
    go_wp2_with (first
      | (go_at_call 73; refine (I.out _ (hh.out.next (b2 _ _ _))).mono ?_; rintro e w1 ⟨rfl, hb1⟩; have hR := Lib.hid ((res_cell w #[.slice a m c] 22).ext hb1); have h0 := Lib.hid (((Blk.new w 22 #[.slice a m c]).alloc (.cells #[.int .i64 0, .slice none 0 0] 60)).ext hb1); have B1 := nextB (b2 _ _ _) hb1)
      | (go_at_call 58; refine (HN.out _ h0.out (hh.out.next B1)).mono ?_; rintro e w3 ⟨B, rfl, hgB, hB, hb3⟩; have hR3 := hR.out.ext hb3; have r0 := hR3.c 0 rfl; have r1 := hR3.c 1 rfl; have f0 := hR3.fr 0; have f1 := hR3.fr 1; replace hR3 := Lib.hid hR3; replace hB := Lib.hid hB))
    have hQ := hR3.out.set2 (.int .i64 (n : Nat)) (.slice (some ⟨B, 0, none⟩) N N)
    have s0 := hQ.c 0 rfl
    have s1 := hQ.c 1 rfl
    have hlt := hR.out.lt
    refine bodyPost_ret (v := .tuple #[gV n B N, .bool true]) (by simp [results, Try.results56, go_sem, s0, s1]) rfl ?_
    have hsz := B1.size
    refine ⟨fun _ => ⟨B, by rw [hN.out], by omega, ?_, ?_⟩, fun h => absurd hyes.out h⟩
    · rw [hN.out]
      exact (hB.out.other (by omega) _).other (by omega) _
    · exact ((nextB B1 hb3).setCell (Nat.le_succ _) _).setCell (Nat.le_succ _) _
theorem gor_any (a : Option Addr) (m c n : Nat) (R : List Int) (w : World) (h : Ints w a R) (hl : R.length = m) (hm : m ≤ 1000) (hmc : m ≤ c) :
    Calls Try.prog 56 #[.int .i64 (n : Nat), .slice a m c] w (fun e w' => (RuleP n R → RuleR n R w e w') ∧ (¬ RuleP n R → Ret noGame w e w')) := by
  by_cases hn : n < 1 ∨ 5 < n
  · exact (gor_out a m c n w (by omega)).mono fun e w' hr => ⟨fun h => absurd h (fun h => by have := h.1; have := h.2.1; omega), fun _ => hr⟩
  · exact gor_in a m c n R w h hl hm hmc (by omega) (by omega)
/-- A rule, n being any number. -/
def RuleI (n : Int) (R : List Int) : Prop := 1 ≤ n ∧ RuleP n.toNat R
instance (n : Int) (R : List Int) : Decidable (RuleI n R) := by unfold RuleI; infer_instance
theorem gor_yes (a : Option Addr) (m c n : Nat) (R : List Int) (w : World) (h : Ints w a R) (hl : R.length = m) (hm : m ≤ 1000) (hmc : m ≤ c) (hR : RuleP n R) :
    Calls Try.prog 56 #[.int .i64 (n : Nat), .slice a m c] w (RuleR n R w) := (gor_any a m c n R w h hl hm hmc).mono fun _ _ hr => hr.1 hR
theorem gor_no (a : Option Addr) (m c : Nat) (n : Int) (R : List Int) (w : World) (h : Ints w a R) (hl : R.length = m) (hm : m ≤ 1000) (hmc : m ≤ c) (hR : ¬ RuleI n R) :
    Calls Try.prog 56 #[.int .i64 n, .slice a m c] w (Ret noGame w) := by
  by_cases hn : n < 1
  · exact gor_out a m c n w (.inl hn)
  · obtain ⟨k, rfl⟩ : ∃ k : Nat, n = k := ⟨n.toNat, by omega⟩
    exact (gor_any a m c k R w h hl hm hmc).mono fun _ _ hr => hr.2 (fun h => hR ⟨by omega, by simpa using h⟩)
end Go.Proofs.Ytnnndooagpkgmaa
