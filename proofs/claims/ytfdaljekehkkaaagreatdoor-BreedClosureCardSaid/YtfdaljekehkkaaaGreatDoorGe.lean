/- Layer 5, by the program: a tree is read. -/
import Derived.Test.YtfdaljekehkkaaaGreatDoorGc
import Derived.Test.YtfdaljekehkkaaaGreatDoorGd
import Derived.Deep.RegionWith
namespace Go.Proofs.YtfdaljekehkkaaaGreatDoor
open Go Go.RowKit

/-- What reading a text returns: the tree with which it begins, if there is one. -/
def ReadP (l : List UInt8) (w : World) (e : Ending) (w' : World) : Prop :=
  Below w.heap.size w w' ∧ ((∃ t r v, Par 8 l t r ∧ TreeV (fun b => w.heap.size ≤ b) w' t v ∧ e = .returned (.tuple #[v, strV r, .bool true])) ∨ ((∀ t r, ¬ Par 8 l t r) ∧ ∃ v x, e = .returned (.tuple #[v, x, .bool false])))
def lenV : Value → Nat
  | .string s => s.size
  | _ => 0
theorem lenV_str (l : List UInt8) : lenV (strV l) = l.length := by
  show (⟨l.toArray⟩ : ByteArray).size = _
  show l.toArray.size = _
  simp
theorem famly_lt {s T : List UInt8} {ps : List Tr} (h : Famly 8 s ps T) (hs : s.length ≤ 100) (h0 : 0 < s.length) : ps.length ≤ 100 ∧ T.length ≤ s.length := by
  have h1 := conL_len_le ps
  obtain ⟨c, l, e, _⟩ := h.left
  rcases h.all with ⟨h2, h3⟩ | ⟨h2, h3⟩
  · subst h3
    have := congrArg List.length h2
    simp only [conL, List.length_cons, List.length_tail, List.nil_append] at this
    rw [e] at this ⊢
    simp only [List.length_cons, List.length_nil, Nat.add_sub_cancel] at this ⊢
    omega
  · have := congrArg List.length h2
    simp only [List.length_cons, List.length_tail, List.length_append] at this
    rw [e] at this ⊢
    simp only [List.length_cons] at this ⊢
    omega
/-- Trees that were read have beasts, and these are below 9. -/
theorem goodL_bd {ps : List Tr} (h : GoodL 8 ps) : ∀ t ∈ ps, t.set < 512 ∧ t.set ≠ 0 := fun t ht => by
  have := Good.bound (by omega) t (goodL_iff.1 h t ht)
  have h8 : pw 8 = 256 := rfl
  omega
theorem up_le {l : List Nat} (h : l.Pairwise (· < ·)) : ∀ i (hi : i < l.length), i ≤ l[i] := by
  intro i
  induction i with
  | zero => intro _; omega
  | succ i ih =>
    intro hi
    have h1 := ih (by omega)
    have h2 := List.pairwise_iff_getElem.1 h i (i + 1) (by omega) hi (by omega)
    omega
theorem parts_sorted {ps : List Tr} (h : PartsP ps) (hb : ∀ t ∈ ps, t.set < 512 ∧ t.set ≠ 0) : sortT ps = ps ∧ ps.Pairwise (fun a b => lowB a.set ≠ lowB b.set) ∧ ps.length ≤ 9 := by
  have hp := h.2
  rw [List.pairwise_map] at hp
  have hd : ps.Pairwise (fun a b => lowB a.set ≠ lowB b.set) := hp.imp fun h => by have := h.2; omega
  refine ⟨sort_one (List.Perm.refl _) (hp.imp fun h => by have := h.2; omega) hd, hd, ?_⟩
  refine Nat.le_of_not_lt fun hlt => ?_
  have hu : (ps.map fun t => lowB t.set).Pairwise (· < ·) := by rw [List.pairwise_map]; exact hp.imp fun h => h.2
  have := up_le hu 9 (by simpa using hlt)
  rw [List.getElem_map] at this
  obtain ⟨h1, h2⟩ := hb _ (List.getElem_mem hlt)
  have := (bits_step _ h1 (Nat.pos_of_ne_zero h2)).2.1
  omega
theorem leaf_no {l r : List UInt8} {b : Nat} (h : Par 8 (40 :: l) (.leaf b) r) : False := by
  have h1 := h.1
  simp only [Good] at h1
  have h2 := h.2
  simp only [Tr.txt, List.cons_append, List.nil_append, List.cons.injEq] at h2
  exact leaf_ne (by omega) 40 (by decide) h2.1.symm
theorem fam_next {l T1 : List UInt8} {c : UInt8} {ps : List Tr} (hF : Famly 8 (40 :: l) ps (c :: T1)) (hc : c ≠ 41) {t : Tr} {r : List UInt8} (h : Par 8 (40 :: l) t r) : ∃ k x r', Par 8 T1 k (x :: r') ∧ (x = 44 ∨ x = 41) := by
  cases t with
  | leaf b => exact absurd h leaf_no
  | fam ks =>
    obtain ⟨ls, _, h2, _⟩ := hF.rest (by omega) rfl h
    obtain ⟨k, kt, _, hp⟩ := h2 (by simp; exact hc)
    cases kt with
    | nil => exact ⟨k, 41, r, by simpa [conL] using hp, .inr rfl⟩
    | cons k2 kt => exact ⟨k, 44, _, by simpa [conL] using hp, .inl rfl⟩
theorem fam_done {l T1 : List UInt8} {ps : List Tr} (hF : Famly 8 (40 :: l) ps (41 :: T1)) {t : Tr} {r : List UInt8} (h : Par 8 (40 :: l) t r) : PartsP ps := by
  cases t with
  | leaf b => exact absurd h leaf_no
  | fam ks =>
    obtain ⟨ls, e, _, h3⟩ := hF.rest (by omega) rfl h
    obtain ⟨rfl, _⟩ := h3 rfl
    rw [List.append_nil] at e
    subst e
    have := h.1
    simp only [Good] at this
    exact ⟨this.1, this.2.1⟩
set_option maxRecDepth 100000 in
set_option maxHeartbeats 4000000 in
theorem readFamily_any (k : Nat) (ih : ∀ (l : List UInt8) (w : World), l.length ≤ k → l.length ≤ 100 → Tab w → Calls Tryz.prog 52 #[strV l] w (ReadP l w))
    (l : List UInt8) (w : World) (hk : l.length ≤ k) (h100 : l.length ≤ 99) (hT : Tab w) : Calls Tryz.prog 62 #[strV (40 :: l)] w (ReadP (40 :: l) w) := by
  obtain ⟨i0, hi, hz0, hz1, hz2⟩ := info_parts infoTree
  have G0 := Lib.hid hi
  have G1 := Lib.hid hz0
  have G2 := Lib.hid hz1
  have G3 := Lib.hid hz2
  clear hi hz0 hz1 hz2
  replace ih := Lib.hid ih
  replace hT := Lib.hid hT
  have I0 := idx0
  have SL := sl1
  have EN := eqE_nil
  have EC := eqE_cons
  have EG := eqG_eql
  go_enter Tryz.func62, Tryz.ntmps62
  go_wp2
  go_loopw [0, 5] (fun tx v wr => ∃ (ps : List Tr) (T : List UInt8), Hid (Famly 8 (40 :: l) ps T) ∧ tx = strV T ∧ TreesRow w.heap.size wr v ps ∧ Below w.heap.size w wr) (fun tx _ _ => lenV tx)
  case atStart => exact ⟨[], 40 :: l, Lib.hid Famly.start, rfl, TreesRow.nil _ _, Below.refl _ _⟩
  case round =>
    obtain ⟨ps, T, hF, rfl, hR, B0⟩ := hrel
    obtain ⟨hpl, hTl⟩ := famly_lt hF.out (by simp; omega) (by simp)
    obtain ⟨c, T1, rfl, hc⟩ := hF.out.left
    replace hc := Lib.hid hc
    simp only [List.length_cons] at hTl
    by_cases h41 : c = 41
    · have h41I : ((c.toNat : Int) != 41) = false := by rw [h41]; rfl
      have hne : ps ≠ [] := fun e => by
        have := hc.out
        rw [if_pos e, h41] at this
        cases this
      have hgl := goodL_bd hF.out.good
      have hF2 := hF.out
      rw [h41] at hF2
      have FD := Lib.hid (fun t r h => fam_done (t := t) (r := r) hF2 h)
      have FY := Lib.hid (fun (hp : PartsP ps) => hF2.done rfl rfl hp.1 hp.2)
      have hl1 : 1 ≤ ps.length := Nat.pos_of_ne_zero fun e => hne (List.length_eq_zero_iff.1 e)
      have hR0 := Lib.hid hR
      obtain ⟨vs, hvl, hown, hTs⟩ := hR
      obtain ⟨g, cap, rfl⟩ := own_pos hown hl1
      have K := Lib.hid (areParts_any _ g ps.length cap ps wr rfl (by omega) (fun i hi => ⟨vs.getD i .nilIface, by
        rw [Nat.zero_add, hown.cellAt i (by omega), List.getD_eq_getElem?_getD, List.getElem?_eq_getElem (by omega)]; rfl, hTs i hi⟩) hgl (hT.out.next B0))
      clear hown hTs hvl hF2 hne
      replace hgl := Lib.hid hgl
      go_wp2_with fail
      refine K.out.mono ?_
      rintro e w2 ⟨b, rfl, hb, hb2⟩
      cases b
      · have hnp := Lib.hid (show ∀ t r, ¬ Par 8 (40 :: l) t r from fun t' r' h => by
          have := hb.2 (FD.out t' r' h)
          cases this)
        clear hb
        go_wp2
        go_ret3
        exact ⟨nextB B0 hb2, .inr ⟨hnp.out, _, _, rfl⟩⟩
      · have hP := hb.1 rfl
        obtain ⟨q1, q2, q3⟩ := parts_sorted hP hgl.out
        have J := join_any w.heap.size _ ps _ w2.drew (hR0.out.next hb2.drew) rfl hl1 (by omega) (fun t ht => (hgl.out t ht).2) q2 (by have := B0.size; have := hb2.size; simp; omega) (fun W hW => hT.out.next ((nextB B0 hb2).drew.trans hW))
        rw [joinT_many (by have := hP.1; omega), q1] at J
        have hpar := Lib.hid (FY.out hP)
        replace J := Lib.hid J
        replace hP := Lib.hid hP
        clear hb q1 q2 q3
        go_wp2_with fail
        go_region_with (go_at_call 46; refine J.out.mono ?_; rintro e w3 ⟨x, rfl, hx, hb3⟩; replace hx := Lib.hid hx)
        all_goals
          go_wp2_with fail
          go_ret3
          exact ⟨(nextB B0 hb2).drew.trans hb3, .inl ⟨_, _, _, hpar.out, hx.out, rfl⟩⟩
    · have h41I : ((c.toNat : Int) != 41) = true := by
        rw [bne_iff_ne]
        intro e
        exact h41 (UInt8.toNat_inj.1 (by have : (41 : UInt8).toNat = 41 := rfl; omega))
      have C := ih.out T1 wr (by omega) (by omega) (hT.out.next B0)
      obtain ⟨vs, hvl, hown, hTs⟩ := hR
      have hlt2 := Lib.hid hown.lt
      replace hTs := Lib.hid hTs
      replace C := Lib.hid C
      have hne : ∀ {x : UInt8} {n : Nat}, x ≠ UInt8.ofNat n → n < 256 → ((x.toNat : Int) != (n : Int)) = true := fun {x n} hx hn => by
        rw [bne_iff_ne]
        intro e
        refine hx (UInt8.toNat_inj.1 ?_)
        rw [UInt8.toNat_ofNat']
        omega
      have FN := Lib.hid (fun t r h => fam_next (t := t) (r := r) hF.out h41 h)
      go_wp2_with fail
      refine C.out.mono ?_
      rintro e w2 ⟨hb2, ⟨t, r, x, hpar, hx, rfl⟩ | ⟨hno, x, y, rfl⟩⟩
      · cases r with
        | nil =>
          have hnp := Lib.hid (show ∀ t r, ¬ Par 8 (40 :: l) t r from fun t' r' h => by
            obtain ⟨k, x, r2, hp, _⟩ := FN.out t' r' h
            have := (hpar.one (by omega) hp).2
            cases this)
          clear hpar hx hne
          go_wp2
          go_ret3
          exact ⟨nextB B0 hb2, .inr ⟨hnp.out, _, _, rfl⟩⟩
        | cons a r2 =>
          have hbad : ∀ (_ : a ≠ 44) (_ : a ≠ 41), ∀ t r, ¬ Par 8 (40 :: l) t r := fun h1 h2 t' r' h => by
            obtain ⟨k, x, r3, hp, hx⟩ := FN.out t' r' h
            have := (hpar.one (by omega) hp).2
            simp only [List.cons.injEq] at this
            rcases hx with e | e
            · exact h1 (this.1.trans e)
            · exact h2 (this.1.trans e)
          by_cases ha : a = 44 ∨ a = 41
          · have hF2 := Lib.hid (hF.out.next hpar (by simp; exact h41) ⟨a, r2, rfl, ha⟩)
            have hlen : (a :: r2).length ≤ T1.length := by
              have := congrArg List.length hpar.2
              rw [List.length_append] at this
              omega
            simp only [List.length_cons] at hlen
            obtain ⟨ty, pay, rfl⟩ := hx.shape
            have hown2 := owns_next hown hb2
            replace hx := Lib.hid hx
            have hgo : ((a.toNat : Int) != 44) = true ∧ ((a.toNat : Int) != 41) = false ∨ ((a.toNat : Int) != 44) = false := by
              rcases ha with rfl | rfl
              · exact .inr rfl
              · exact .inl ⟨rfl, rfl⟩
            replace ha := Lib.hid ha
            clear hpar hbad hne
            rcases hgo with ⟨g1, g2⟩ | g1
            all_goals
              go_wp2_with (at_builtin; refine wpList_append_ownX _ rfl _ _ 81 rfl w.heap.size 57 i0 .nilIface 1 16 Tryz.underlying81 G0.out G1.out G2.out G3.out rfl (by decide) _ _ _ rfl (hown2.alloc _) ⟨_, 0, none⟩ 1 1 [.iface ty pay] rfl rfl (by decide) (cell_new _ _ _) (by simp [Value.oneCell']) (by unfold maxLen; omega) (by omega) (by have := B0.size; have := hb2.size; simp; omega) ?_; intro v' w3 hown3 hgrow hfr)
              have hs1 := B0.size
              have hs2 := hb2.size
              have bA2 := (nextB B0 hb2).alloc (by omega) (.cells #[.iface ty pay] 57)
              have B2 := bA2.grown hgrow (by simp; omega) (fun q hq => by have := (hlt2.out q hq).1; omega)
              have hb3 := hb2.alloc hs2 (.cells #[.iface ty pay] 57)
              have hR2 := Lib.hid (TreesRow.snoc (ks := ps) (t := t) hvl (fun i hi => (hTs.out i hi).next hb3) (TreeV.frame (A' := fun b => w.heap.size ≤ b ∧ _ ≠ some b) (fun b hb hlt3 => ⟨⟨by omega, fun e => by have := (hlt2.out b e).2; omega⟩, (b1 w2 (.cells #[.iface ty pay] 57)).block b hlt3⟩) _ _ hx.out) hown3 hgrow hfr)
              go_roundw
              case rel => exact ⟨ps ++ [t], a :: r2, hF2, rfl, hR2.out, B2⟩
              case measure => rw [lenV_str, lenV_str]; simp only [List.length_cons]; omega
          · have h1 : a ≠ 44 := fun e => ha (.inl e)
            have h2 : a ≠ 41 := fun e => ha (.inr e)
            have g1 : ((a.toNat : Int) != 44) = true := hne (n := 44) h1 (by omega)
            have g2 : ((a.toNat : Int) != 41) = true := hne (n := 41) h2 (by omega)
            have hnp := Lib.hid (hbad h1 h2)
            clear hpar hx hne hbad ha
            go_wp2
            go_ret3
            exact ⟨nextB B0 hb2, .inr ⟨hnp.out, _, _, rfl⟩⟩
      · have hnp := Lib.hid (show ∀ t r, ¬ Par 8 (40 :: l) t r from fun t' r' h => by
          obtain ⟨k, x, r2, hp, _⟩ := FN.out t' r' h
          exact hno _ _ hp)
        clear hno hne
        go_wp2
        go_ret3
        exact ⟨nextB B0 hb2, .inr ⟨hnp.out, _, _, rfl⟩⟩
end Go.Proofs.YtfdaljekehkkaaaGreatDoor
