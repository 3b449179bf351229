/- Layer 7, by the program: who wins Chomp. -/
import Derived.Test.YtdafpjapepfniaaWo
namespace Go.Proofs.Ytdafpjapepfniaa
open Go Go.RowKit

/-- The bar that heaps are. -/
def unB (x : Hp) : Nat → Nat := fun i => match i with
  | 0 => x.s0.toNat
  | 1 => x.s1.toNat
  | 2 => x.s2.toNat
  | 3 => x.s3.toNat
  | 4 => x.s4.toNat
  | 5 => x.s5.toNat
  | _ => 0
theorem unB_bar {f : Nat → Nat} (h : IsB f) : unB (barH f) = f := by
  funext i
  match i with
  | 0 => rfl
  | 1 => rfl
  | 2 => rfl
  | 3 => rfl
  | 4 => rfl
  | 5 => rfl
  | i + 6 => exact (h.2 (i + 6) (by omega)).symm
/-- Does the player win who is next with these heaps? -/
def chF (x : Hp) : Bool := cWin (unB x)
/-- The first winning bite. -/
def chO (f : Nat → Nat) : Option Hp := ((bH (biF f)).filter fun x => !chF x).head?
theorem biF_isB {f g : Nat → Nat} (h : IsB f) (hg : g ∈ biF f) : IsB g := by
  obtain ⟨r, c, _, _, rfl⟩ := mem_biF.1 hg
  exact h.wo r c
theorem head_any {α : Type} (p : α → Bool) : ∀ l : List α, (l.filter p).head?.isSome = l.any p
  | [] => rfl
  | x :: l => by
    rw [List.filter_cons, List.any_cons]
    cases h : p x
    · simp only [Bool.false_eq_true, if_false, Bool.false_or]; exact head_any p l
    · simp
theorem chO_some {f : Nat → Nat} (h : IsB f) (ht : tot f ≠ 0) : (chO f).isSome = cWin f := by
  unfold chO
  rw [head_any, cWin_pos ht, bH, List.any_map]
  refine any_congr fun g hg => ?_
  show (!chF (barH g)) = _
  rw [chF, unB_bar (biF_isB h hg)]
theorem barH_zero {f : Nat → Nat} (h : tot f = 0) : barH f = h0 := by
  unfold tot at h
  unfold barH h0
  rw [show f 0 = 0 by omega, show f 1 = 0 by omega, show f 2 = 0 by omega, show f 3 = 0 by omega, show f 4 = 0 by omega, show f 5 = 0 by omega]; rfl
theorem barH_pos {f : Nat → Nat} (h : tot f ≠ 0) : barH f ≠ h0 := fun e => h (by
  have e0 := congrArg Hp.s0 e
  have e1 := congrArg Hp.s1 e
  have e2 := congrArg Hp.s2 e
  have e3 := congrArg Hp.s3 e
  have e4 := congrArg Hp.s4 e
  have e5 := congrArg Hp.s5 e
  simp only at e0 e1 e2 e3 e4 e5
  unfold tot; omega)
/-- The functions of Chomp. -/
abbrev chC (B1 B2 : Nat) : Array Value := gmC 78 #[] 79 #[.pointer (some ⟨B1, 0, none⟩), .pointer (some ⟨B2, 0, none⟩)]
/-- A game of Chomp lies ready: what is known, and its functions. -/
structure InvC (n₀ Bm B1 B2 : Nat) (A : World) : Prop where
  km : KMC Bm A
  b1 : Blk A B1 85 #[.map (some Bm)]
  b2 : Blk A B2 65 (chC B1 B2)
  size : n₀ ≤ A.heap.size
/-- Where its parts lie. -/
structure AtC (n₀ Bm B1 B2 : Nat) : Prop where
  lm : Bm < n₀
  l1 : B1 < n₀
  l2 : B2 < n₀
  m1 : B1 ≠ Bm
  m2 : B2 ≠ Bm
theorem InvC.grown {n₀ Bm B1 B2 : Nat} {A B : World} {r : Option Nat} (h : InvC n₀ Bm B1 B2 A) (hA : AtC n₀ Bm B1 B2) (hr : ∀ k, r = some k → n₀ ≤ k) (hg : A.grownBy B r) : InvC n₀ Bm B1 B2 B := by
  have hne : ∀ k, k < n₀ → some k ≠ r := fun k hk e => by have := hr k e.symm; omega
  exact ⟨h.km.grown hg (hne _ hA.lm), blk_grown h.b1 hg (hne _ hA.l1), blk_grown h.b2 hg (hne _ hA.l2), Nat.le_trans h.size hg.size⟩
theorem InvC.turned {n₀ Bm B1 B2 : Nat} {A B : World} (h : InvC n₀ Bm B1 B2 A) (hA : AtC n₀ Bm B1 B2) (hg : A.grownBy B (some Bm)) (hk : KMC Bm B) : InvC n₀ Bm B1 B2 B :=
  ⟨hk, blk_grown h.b1 hg (fun e => hA.m1 (by cases e; rfl)), blk_grown h.b2 hg (fun e => hA.m2 (by cases e; rfl)), Nat.le_trans h.size hg.size⟩
theorem zeroBool : ∀ w, (zeroValue 4).run Try.prog w = .ok (.bool false) w := fun _ => by kernel_rfl
/-- A call told a bool, and turned at most what is known. -/
def RetC (n₀ Bm B1 B2 : Nat) (x : Bool) (A : World) (e : Ending) (B : World) : Prop := e = .returned (.bool x) ∧ A.grownBy B (some Bm) ∧ InvC n₀ Bm B1 B2 B
set_option maxRecDepth 100000 in
set_option maxHeartbeats 2000000 in
theorem chomp1_step (n₀ Bm B1 B2 : Nat) (hA : AtC n₀ Bm B1 B2) (f : Nat → Nat) (hf : IsB f) (A : World) (hi : InvC n₀ Bm B1 B2 A)
    (V : tot f ≠ 0 → ∀ A', InvC n₀ Bm B1 B2 A' → Calls Try.prog 48 #[.agg (chC B1 B2), hV (barH f)] A' (BestR (some Bm) (InvC n₀ Bm B1 B2) (chO f) A')) :
    Calls Try.prog 79 #[hV (barH f), .pointer (some ⟨B1, 0, none⟩), .pointer (some ⟨B2, 0, none⟩)] A (RetC n₀ Bm B1 B2 (cWin f) A) := by
  have hbx := Blk.new A 60 (hC (barH f))
  have hb := b1 A (.cells (hC (barH f)) 60)
  have hi1 := hi.grown hA (r := none) (fun k e => by cases e) (grown_below hb none)
  have hsz := hi.size
  have hlm := hA.lm
  have hl1 := hA.l1
  have hl2 := hA.l2
  by_cases ht : tot f = 0
  · rw [cWin_zero ht, barH_zero ht]
    rw [barH_zero ht] at hi1 hb
    have hi1 := Lib.hid hi1
    have hb := Lib.hid hb
    clear hbx
    have hd : eqH ⟨0, 0, 0, 0, 0, 0, 0⟩ ⟨0, 0, 0, 0, 0, 0, 0⟩ = true := by decide
    go_enter Try.func79, Try.ntmps79
    go_wp2
    go_ret
    exact ⟨rfl, grown_below hb.out _, hi1.out⟩
  · have hV' := Lib.hid (V ht)
    have hne := Lib.hid (barH_pos ht)
    have hsome := Lib.hid (chO_some hf ht)
    have hkey := Lib.hid (keyOf_hp hf)
    obtain ⟨T, hT1, hT2, hT3⟩ := hi1.km
    have hT3' := hT3 f hf
    have m0 := hi1.b1.c 0 rfl
    obtain ⟨g0, g1⟩ := hi1.b2.c2f
    obtain ⟨c0, c1, c2, c3, c4, c5, c6⟩ := hbx.c7
    have hi1 := Lib.hid hi1
    have hb := Lib.hid hb
    have hf := Lib.hid hf
    have hbx := Lib.hid hbx
    have hT1 := Lib.hid hT1
    have hT2 := Lib.hid hT2
    have hT3 := Lib.hid hT3
    have hd : eqH ⟨(f 0 : Int), (f 1 : Int), (f 2 : Int), (f 3 : Int), (f 4 : Int), (f 5 : Int), 0⟩ ⟨0, 0, 0, 0, 0, 0, 0⟩ = false := decide_eq_false hne.out
    clear V ht
    obtain ⟨r, hr⟩ : ∃ r, Hid (cWin f = r) := ⟨_, Lib.hid rfl⟩
    rw [hr.out] at hT3' hsome ⊢
    cases hh : Maps.has T (hk f)
    case true =>
      have hT4 := Lib.hid (hT3' hh)
      clear hT3'
      go_enter Try.func79, Try.ntmps79
      go_wp2_with (at_lookup; refine wpList_lookup_own_ok _ rfl _ _ 85 rfl 60 4 lawHp Try.underlying85 (plainElem Try.prog 4) (zeroBool _) (.lit (.bool false)) [] (plainElem_bool Try.underlying4 false) Bm 262144 T rfl hT1.out _ (hk f) rfl hkey.out ?_; intro v ps hv; rw [hT4.out] at hv; obtain ⟨x, rfl, hx⟩ := plainElem_bool_inv hv; simp only [DataW.lit.injEq, Lit.bool.injEq] at hx; subst hx; rw [hh]; clear hv)
      go_ret
      exact ⟨rfl, grown_below hb.out _, hi1.out⟩
    case false =>
      clear hT3'
      go_enter Try.func79, Try.ntmps79
      go_wp2_with (first
        | (at_lookup; refine wpList_lookup_own_ok _ rfl _ _ 85 rfl 60 4 lawHp Try.underlying85 (plainElem Try.prog 4) (zeroBool _) (.lit (.bool false)) [] (plainElem_bool Try.underlying4 false) Bm 262144 T rfl hT1.out _ (hk f) rfl hkey.out ?_; intro v ps hv; obtain ⟨x, rfl, hx⟩ := plainElem_bool_inv hv; rw [hh]; clear hv hx)
        | (go_at_call 48; refine (hV'.out _ hi1.out).mono ?_; rintro e w3 ⟨rfl, hg3, hi3⟩; have hbx3 := blk_grown hbx.out hg3 (fun e => by cases e; omega); have m3 := hi3.b1.c 0 rfl; obtain ⟨d0, d1, d2, d3, d4, d5, d6⟩ := hbx3.c7; obtain ⟨U, hU1, hU2, hU3⟩ := hi3.km; clear hbx3; rw [hsome.out]; replace hg3 := Lib.hid hg3; replace hi3 := Lib.hid hi3; replace hU1 := Lib.hid hU1; replace hU2 := Lib.hid hU2; replace hU3 := Lib.hid hU3)
        | (at_mapUpdate; refine wpList_mapUpdate_own _ rfl _ _ _ 85 rfl 60 4 lawHp Try.underlying85 _ Bm 262144 U rfl hU1.out (by unfold maxLen; omega) _ _ (hk f) rfl rfl hkey.out _ [] (plainElem_bool Try.underlying4 r) ?_; intro w4 hown4 hgrow4))
      go_ret
      exact ⟨rfl, ((grown_below hb.out _).trans hg3.out).trans hgrow4, hi3.out.turned hA hgrow4 (KMC.put hown4 hU2.out hU3.out hf.out hr.out.symm)⟩
theorem bH_mem {f : Nat → Nat} {x : Hp} (h : x ∈ bH (biF f)) : ∃ r c, r < 6 ∧ c < f r ∧ x = barH (woF f r c) := by
  obtain ⟨g, hg, rfl⟩ := List.mem_map.1 h
  obtain ⟨r, c, h1, h2, rfl⟩ := mem_biF.1 hg
  exact ⟨r, c, h1, h2, rfl⟩
theorem biT_six (f : Nat → Nat) : biT f 6 = biF f := rfl
theorem biF_len {f : Nat → Nat} (h : IsB f) : (bH (biF f)).length ≤ 1000 := by
  have := biT_len h 6
  rw [biT_six] at this
  rw [bH, List.length_map]; omega
section
variable (n₀ Bm B1 B2 : Nat) (hA : AtC n₀ Bm B1 B2)
include hA
theorem best_of (f : Nat → Nat) (hf : IsB f) (A : World) (hi : InvC n₀ Bm B1 B2 A)
    (V : ∀ A' r c, r < 6 → c < f r → InvC n₀ Bm B1 B2 A' → Calls Try.prog 79 #[hV (barH (woF f r c)), .pointer (some ⟨B1, 0, none⟩), .pointer (some ⟨B2, 0, none⟩)] A' (RetC n₀ Bm B1 B2 (cWin (woF f r c)) A')) :
    Calls Try.prog 48 #[.agg (chC B1 B2), hV (barH f)] A (BestR (some Bm) (InvC n₀ Bm B1 B2) (chO f) A) := by
  refine best_gen (some Bm) n₀ _ _ _ _ _ _ _ chF A (fun args W => by go_simp) (fun args W => by go_simp) (fun A' _ => bites_any f A' hf) (fun A' x hx hi' => ?_) (fun A' B r hi' hr hg => hi'.grown hA hr hg) (fun A' hi' => hi'.size) (fun k hk => by cases hk; exact hA.lm) (biF_len hf) hi
  obtain ⟨r, c, h1, h2, rfl⟩ := bH_mem hx
  have e : chF (barH (woF f r c)) = cWin (woF f r c) := by unfold chF; rw [unB_bar (hf.wo r c)]
  rw [e]
  exact V A' r c h1 h2 hi'
theorem wins_any : ∀ (n : Nat) (f : Nat → Nat), tot f ≤ n → IsB f → ∀ A, InvC n₀ Bm B1 B2 A →
    Calls Try.prog 79 #[hV (barH f), .pointer (some ⟨B1, 0, none⟩), .pointer (some ⟨B2, 0, none⟩)] A (RetC n₀ Bm B1 B2 (cWin f) A) := by
  intro n
  induction n with
  | zero => intro f h hf A hi; exact chomp1_step n₀ Bm B1 B2 hA f hf A hi (fun h' => absurd (by omega) h')
  | succ n ih =>
    intro f h hf A hi
    refine chomp1_step n₀ Bm B1 B2 hA f hf A hi (fun _ A1 hi1 => best_of n₀ Bm B1 B2 hA f hf A1 hi1 fun A' r c h1 h2 hi' => ?_)
    have := tot_wo h1 h2
    exact ih _ (by omega) (hf.wo r c) A' hi'
theorem chBest_any (f : Nat → Nat) (hf : IsB f) (A : World) (hi : InvC n₀ Bm B1 B2 A) :
    Calls Try.prog 48 #[.agg (chC B1 B2), hV (barH f)] A (BestR (some Bm) (InvC n₀ Bm B1 B2) (chO f) A) :=
  best_of n₀ Bm B1 B2 hA f hf A hi fun A' r c _ _ hi' => wins_any n₀ Bm B1 B2 hA _ _ (Nat.le_refl _) (hf.wo r c) A' hi'
end
/-- A new game of Chomp was returned. -/
def NewC (w : World) (e : Ending) (w' : World) : Prop := ∃ Bm B1 B2, e = .returned (.agg (chC B1 B2)) ∧ AtC w'.heap.size Bm B1 B2 ∧ InvC w'.heap.size Bm B1 B2 w' ∧ Below w.heap.size w w' ∧ w.heap.size ≤ Bm
set_option maxRecDepth 100000 in
theorem chomp_any (w : World) : Calls Try.prog 56 #[] w (NewC w) := by
  have hmm := @run_makeMap Try.prog
  go_enter Try.func56, Try.ntmps56
  go_wp2
  clear hmm
  refine bodyPost_ret (v := .agg (chC (w.heap.size + 1 + 1) (w.heap.size + 1 + 1 + 1))) (by simp [results, Try.results56, go_sem]) rfl ?_
  obtain ⟨X, hX⟩ : ∃ X, X = w.alloc (.cells (chC (w.heap.size + 1 + 1) (w.heap.size + 1 + 1 + 1)) 65) := ⟨_, rfl⟩
  have h1 : X.heap.size = w.heap.size + 1 := by rw [hX]; simp
  have hb := b1 w (.cells (chC (w.heap.size + 1 + 1) (w.heap.size + 1 + 1 + 1)) 65)
  rw [← hX] at hb
  have k1 : KMC (w.heap.size + 1) (X.alloc (.map #[] 0)) := by rw [← h1]; exact KMC.made X
  have k2 := Blk.new (X.alloc (.map #[] 0)) 85 #[.map (some (w.heap.size + 1))]
  have k3 := Blk.new ((X.alloc (.map #[] 0)).alloc (.cells #[.map (some (w.heap.size + 1))] 85)) 65 (chC (w.heap.size + 1 + 1) (w.heap.size + 1 + 1 + 1))
  rw [World.size_alloc, h1] at k2
  rw [World.size_alloc, World.size_alloc, h1] at k3
  have hb3 := b3 X (.map #[] 0) (.cells #[.map (some (w.heap.size + 1))] 85) (.cells (chC (w.heap.size + 1 + 1) (w.heap.size + 1 + 1 + 1)) 65)
  have hs : (((X.alloc (.map #[] 0)).alloc (.cells #[.map (some (w.heap.size + 1))] 85)).alloc (.cells (chC (w.heap.size + 1 + 1) (w.heap.size + 1 + 1 + 1)) 65)).heap.size = w.heap.size + 4 := by simp [h1]
  have k1' := (k1.grown (World.grownBy_alloc _ (.cells #[.map (some (w.heap.size + 1))] 85) none) (by simp)).grown (World.grownBy_alloc _ (.cells (chC (w.heap.size + 1 + 1) (w.heap.size + 1 + 1 + 1)) 65) none) (by simp)
  have fin : NewC w (.returned (.agg (chC (w.heap.size + 1 + 1) (w.heap.size + 1 + 1 + 1)))) (((X.alloc (.map #[] 0)).alloc (.cells #[.map (some (w.heap.size + 1))] 85)).alloc (.cells (chC (w.heap.size + 1 + 1) (w.heap.size + 1 + 1 + 1)) 65)) :=
    ⟨w.heap.size + 1, w.heap.size + 1 + 1, w.heap.size + 1 + 1 + 1, rfl, ⟨by omega, by omega, by omega, by omega, by omega⟩, ⟨k1', k2.alloc _, k3, Nat.le_refl _⟩, nextB hb hb3, by omega⟩
  rw [hX] at fin
  exact fin
end Go.Proofs.Ytdafpjapepfniaa
