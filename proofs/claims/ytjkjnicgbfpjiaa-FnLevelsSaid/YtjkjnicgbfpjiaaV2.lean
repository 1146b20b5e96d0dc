/- What the program's rows of what lies directly above are. -/
import Derived.Test.YtjkjnicgbfpjiaaV1
import Derived.Test.YtjkjnicgbfpjiaaGv
import Derived.Test.YtjkjnicgbfpjiaaPe
import Derived.StillTailTactics
namespace Go.Proofs.Ytjkjnicgbfpjiaa
open Go.RowKit

/-- The rows of a relation of n places. -/
def rowsN (n : Nat) (F : Nat → Nat → Bool) : List Nat := (List.range n).map fun i => bitN n (F i)
theorem rowsN_len (n : Nat) (F : Nat → Nat → Bool) : (rowsN n F).length = n := by simp [rowsN]
theorem rowsN_at {n i : Nat} (F : Nat → Nat → Bool) (hi : i < n) : (rowsN n F)[i]? = some (bitN n (F i)) := by simp [rowsN, hi]
theorem rowsN_ext {n : Nat} {F H : Nat → Nat → Bool} (h : ∀ i j, i < n → j < n → F i j = H i j) : rowsN n F = rowsN n H := by
  unfold rowsN
  exact List.map_congr_left fun i hi => bitN_ext fun j hj => h i j (List.mem_range.1 hi) hj
/-- The first i of the new ones, and then the old ones. -/
def mixL {α : Type} (new old : List α) (i : Nat) : List α := new.take i ++ old.drop i
section
variable {α : Type} {new old : List α} {i : Nat}
theorem mixL_zero (new old : List α) : mixL new old 0 = old := by simp [mixL]
theorem mixL_all (hl : new.length = old.length) : mixL new old old.length = new := by simp [mixL, ← hl]
theorem mixL_len (hl : new.length = old.length) (hi : i ≤ old.length) : (mixL new old i).length = old.length := by
  simp [mixL]; omega
theorem mixL_old (hl : new.length = old.length) {k : Nat} (h : i ≤ k) : (mixL new old i)[k]? = old[k]? := by
  unfold mixL
  rcases Nat.lt_or_ge i new.length with h1 | h1
  · rw [List.getElem?_append_right (by simp; omega), List.length_take, Nat.min_eq_left (by omega), List.getElem?_drop]
    congr 1; omega
  · rw [List.getElem?_eq_none (by simp; omega), List.getElem?_eq_none (by omega)]
theorem mixL_new (hl : new.length = old.length) {k : Nat} (h : k < i) : (mixL new old i)[k]? = new[k]? := by
  unfold mixL
  rcases Nat.lt_or_ge k new.length with h1 | h1
  · rw [List.getElem?_append_left (by simp; omega), List.getElem?_take, if_pos h]
  · rw [List.getElem?_eq_none (by simp; omega), List.getElem?_eq_none h1]
theorem mixL_set (hl : new.length = old.length) {x : α} (hx : new[i]? = some x) : (mixL new old i).set i x = mixL new old (i + 1) := by
  have hi : i < new.length := (List.getElem?_eq_some_iff.1 hx).1
  refine List.ext_getElem? fun k => ?_
  rw [List.getElem?_set, mixL_len hl (by omega)]
  by_cases hk : i = k
  · subst hk
    rw [if_pos rfl, if_pos (by omega), mixL_new hl (by omega), hx]
  · rw [if_neg hk]
    rcases Nat.lt_or_ge k i with h | h
    · rw [mixL_new hl h, mixL_new hl (by omega)]
    · rw [mixL_old hl h, mixL_old hl (by omega)]
theorem mixL_same (hl : new.length = old.length) (h : new[i]? = old[i]?) : mixL new old (i + 1) = mixL new old i := by
  refine List.ext_getElem? fun k => ?_
  rcases Nat.lt_trichotomy k i with h1 | rfl | h1
  · rw [mixL_new hl h1, mixL_new hl (by omega)]
  · rw [mixL_new hl (by omega), mixL_old hl (Nat.le_refl _), h]
  · rw [mixL_old hl (by omega), mixL_old hl (by omega)]
end
theorem zero_rows (n : Nat) : (madeCells (Value.int .u16 0).cells (n * 1)).toList = cellsU (rowsN n fun _ _ => false) := by
  refine List.ext_getElem? fun i => ?_
  by_cases hi : i < n
  · rw [cellsU, List.getElem?_map, rowsN_at _ hi, bitN_zero]
    simp [madeCells, hi, Value.cells, Nat.mod_one, encU]
  · simp [cellsU, rowsN, madeCells, hi]
theorem rows_cell {w : World} {base e g n cap : Nat} {L : List Nat} {k x : Nat} (h : w.ownsRow base e 1 (.slice (some ⟨g, 0, none⟩) n cap) n (cellsU L)) (hx : L[k]? = some x) (hk : k < n) : w.cell? ⟨g, k, none⟩ = some (.int .u16 (x : Int)) ∧ w.frozen? ⟨g, k, none⟩ = false := by
  refine ⟨(h.cellAt k (by omega)).trans ?_, h.frozenAt k⟩
  rw [cellsU, List.getElem?_map, hx]
  rfl
theorem rows_store {w : World} {base e g n cap : Nat} {L : List Nat} (h : w.ownsRow base e 1 (.slice (some ⟨g, 0, none⟩) n cap) n (cellsU L)) (k x : Nat) : (w.setCell ⟨g, k, none⟩ (.int .u16 (x : Int))).ownsRow base e 1 (.slice (some ⟨g, 0, none⟩) n cap) n (cellsU (L.set k x)) := by
  have h1 := (h.stored k (encU x)).1
  rw [cellsU, List.map_set]
  exact h1
/-- How many rows there are. -/
def szG (ids : List Int) (l : List Ctx) : Nat := if okG ids l = true then ids.length else 0
theorem szG_ok {ids : List Int} {l : List Ctx} (h : okG ids l = true) : szG ids l = ids.length := if_pos h
theorem szG_no {ids : List Int} {l : List Ctx} (h : okG ids l = false) : szG ids l = 0 := by simp [szG, h]
theorem szG_le (ids : List Int) (l : List Ctx) : szG ids l ≤ 12 := by
  unfold szG
  split
  · rename_i h; exact validO_len (okG_parts h).1
  · omega
/-- Rows in memory of the call's own, and whether the arguments are valid. -/
def RowsPost (w : World) (n : Nat) (F : Nat → Nat → Bool) (ok : Bool) (e : Ending) (w2 : World) : Prop :=
  ∃ v, e = .returned (.tuple #[v, .bool ok]) ∧ Below w.heap.size w w2 ∧ w2.ownsRow w.heap.size 74 1 v n (cellsU (rowsN n F))
set_option maxHeartbeats 4000000 in
set_option maxRecDepth 100000 in
theorem iDirect_any (A B : Option Addr) (ca cb : Nat) (ids : List Int) (l : List Ctx) (w : World) (ha : Reads w w.heap.size 1 A ids.length (cellsI ids)) (hb : Reads w w.heap.size 3 B l.length (cellsC l)) (hn : ids.length ≤ 1000000000) (hl : l.length ≤ 1000000000) :
    Calls Try.prog 85 #[.slice A ids.length ca, .slice B l.length cb] w (RowsPost w (szG ids l) (dirA ids (groupsG ids l) l) (okG ids l)) := by
  cases hok : okG ids l
  · rw [szG_no hok]
    have hgr := iGroups_any A B ca cb ids l w ha hb (by omega) (by omega)
    clear ha hb
    go_enter Try.func85, Try.ntmps85
    go_wp2_with fail
    refine hgr.mono ?_
    rintro e w2 ⟨v2, rfl, hb2, _⟩
    rw [hok]
    go_wp2_with fail
    go_ret2
    exact ⟨_, rfl, hb2, rfl, .inl ⟨rfl, rfl⟩⟩
  · obtain ⟨i0, hi0, hz0, hz1, hz2⟩ := info_parts infoRow
    obtain ⟨hv, hvr, hin⟩ := okG_parts hok
    have hn12 : ids.length ≤ 12 := validO_len hv
    have hl30 : l.length ≤ 30 := validO_len hvr
    rw [szG_ok hok]
    obtain ⟨G, hG⟩ : ∃ G, G = groupsG ids l := ⟨_, rfl⟩
    have hGl : G.length = ids.length := by rw [hG, groupsG_len]
    have hof : groupsOfG ids l = G := by rw [groupsOfG, if_pos hok, hG]
    have hgr := iGroups_any A B ca cb ids l w ha hb (by omega) (by omega)
    rw [← hG]
    have hGb : G.length ≤ 12 := by omega
    have HV := Lib.hid (And.intro hin (And.intro hGl (And.intro ha hb)))
    clear hv hvr hin hG hGl ha hb
    go_enter Try.func85, Try.ntmps85
    go_wp2_with fail
    refine hgr.mono ?_
    rintro e w2 ⟨v2, rfl, hb2, ho2⟩
    rw [hok]
    rw [hof] at ho2
    obtain ⟨A2, c2, rfl, _, hr2⟩ := own_slice ho2
    have R2 := Lib.hid (And.intro hb2 hr2)
    have hs2 := hb2.size
    clear hgr hb2 ho2 hr2 hof hok
    go_wp2_with (at_make
                 go_must (refine wpList_make_full _ rfl (.tmp 23) (.tmp 23) _ rfl w2.heap.size 74 i0 _ 1 Try.underlying69 hi0 hz0 hz1 _ _ _ _ ids.length rfl rfl rfl rfl (by rw [hz2]; omega) (by simp only [maxLen]; omega) (Nat.le_refl _) ?_)
                 intro w5 hown hg5)
    rw [zero_rows] at hown
    have hb5 : Below w2.heap.size w2 w5 := (Below.refl _ _).grown hg5 (Nat.le_refl _) (fun k hk => by cases hk)
    have hlt5 := (hown.lt _ rfl).2
    have R := Lib.hid (And.intro (HV.out.2.2.1.step R2.out.1) (And.intro (HV.out.2.2.2.step R2.out.1) R2.out.2))
    have H0 := Lib.hid (And.intro hown hb5)
    clear hown hg5 hb5 hi0 hz0 hz1 hz2
    go_loopw [27] (fun i wr => ∃ k : Nat, k ≤ l.length ∧ i = .int .i64 k ∧ Below w2.heap.size w2 wr ∧ wr.ownsRow w2.heap.size 74 1 (.slice (some ⟨w2.heap.size, 0, none⟩) ids.length ids.length) ids.length (cellsU (rowsN ids.length (dirA ids G (l.take k))))) (fun i _ => l.length - (intOf i).toNat)
    case atStart => exact ⟨0, Nat.zero_le _, rfl, H0.out.2, H0.out.1⟩
    case round =>
      obtain ⟨k, hk, rfl, hbl, hown⟩ := hrel
      have hsz := hbl.size
      by_cases hlt : k < l.length
      · obtain ⟨b, off, hB, hbb, hc⟩ := ((R.out.2.1.below hbl).ctx (by omega))
        subst hB
        obtain ⟨⟨xa, xb, xc⟩, hr⟩ : ∃ r, l[k]? = some r := ⟨_, List.getElem?_eq_getElem hlt⟩
        obtain ⟨c1, c2', c3⟩ := hc k _ hr
        dsimp only at c1 c2' c3
        have hkl : (k : Int) < (l.length : Int) := by omega
        have HX := Lib.hid (And.intro hbl (And.intro hown hr))
        have hb9 : Below wr.heap.size wr (wr.alloc (.cells #[.int .i64 xa, .int .i64 xb, .int .i64 xc] 48)) := (Below.refl _ _).alloc (Nat.le_refl _) _
        have H9 := Lib.hid hb9
        clear hbl hown hr hc hb9
        by_cases h1 : xc = 1
        · have e1 : (xc != 1) = false := by simp [h1]
          obtain ⟨hm1, hm2⟩ := HV.out.1 _ (List.mem_of_getElem? HX.out.2.2)
          dsimp only at hm1 hm2
          obtain ⟨hp1, hp2, _⟩ := placeI_at hm1
          obtain ⟨hq1, hq2, _⟩ := placeI_at hm2
          have hnx : ∀ i j, dirA ids G (l.take (k + 1)) i j = (dirA ids G (l.take k) i j || (decide (G[placeI ids xa]? = G[i]?) && decide (G[placeI ids xb]? = G[j]?))) := fun i j => by
            rw [dirA_next HX.out.2.2]
            simp [h1]
          obtain ⟨p, hp⟩ : ∃ p, placeI ids xa = p := ⟨_, rfl⟩
          obtain ⟨q, hq⟩ : ∃ q, placeI ids xb = q := ⟨_, rfl⟩
          rw [hp] at hp1 hp2 hnx
          rw [hq] at hq1 hq2 hnx
          have hix := fun (n : Int) => indexI_any A ca ids n _ (((R.out.1.step HX.out.1).step H9.out)) (by omega)
          have hg1 : ∀ r : Nat, r < ids.length → Calls Try.prog 101 #[.slice A2 G.length c2, .int .i64 (r : Int)] (wr.alloc (.cells #[.int .i64 xa, .int .i64 xb, .int .i64 xc] 48)) fun e w2 => e = .returned (.int .u16 (bitN ids.length (fun j => decide (G[j]? = G[r]?)) : Nat)) ∧ (wr.alloc (.cells #[.int .i64 xa, .int .i64 xb, .int .i64 xc] 48)) = w2 := fun r hr => by
            refine (groupRow_any A2 c2 G r _ ((R.out.2.2.step HX.out.1).step H9.out) (by rw [HV.out.2.1]; exact hr) hGb).mono ?_
            rintro e w2 ⟨rfl, rfl⟩
            exact ⟨by rw [HV.out.2.1], rfl⟩
          obtain ⟨up, hup⟩ : ∃ up, up = bitN ids.length (fun j => decide (G[j]? = G[p]?)) := ⟨_, rfl⟩
          obtain ⟨lo, hlo⟩ : ∃ lo, lo = bitN ids.length (fun j => decide (G[j]? = G[q]?)) := ⟨_, rfl⟩
          have hup2 : up < 65536 := by rw [hup]; exact bitN_16 _ (by omega)
          have hlo2 : lo < 65536 := by rw [hlo]; exact bitN_16 _ (by omega)
          have hgr : ∀ (r v : Nat), ((r = p ∧ v = up) ∨ (r = q ∧ v = lo)) → Calls Try.prog 101 #[.slice A2 G.length c2, .int .i64 (r : Int)] (wr.alloc (.cells #[.int .i64 xa, .int .i64 xb, .int .i64 xc] 48)) fun e w2 => e = .returned (.int .u16 (v : Int)) ∧ (wr.alloc (.cells #[.int .i64 xa, .int .i64 xb, .int .i64 xc] 48)) = w2 := by
            rintro r v (⟨rfl, rfl⟩ | ⟨rfl, rfl⟩)
            · rw [hup]; exact hg1 _ hp2
            · rw [hlo]; exact hg1 _ hq2
          have HC := Lib.hid (And.intro hix hgr)
          have HU := Lib.hid (And.intro hup (And.intro hlo hnx))
          clear h1 hm1 hm2 hp hq hix hg1 hgr hup hlo hnx
          go_wp2_with (first
            | (go_at_call 70
               go_must (refine (HC.out.1 _).mono ?_)
               go_must (first | rw [hp1] | rw [hq1])
               rintro e w9 ⟨rfl, rfl⟩)
            | (go_at_call 101
               go_must (refine (HC.out.2 _ _ (by first | exact .inl ⟨rfl, rfl⟩ | exact .inr ⟨rfl, rfl⟩)).mono ?_)
               rintro e w9 ⟨rfl, rfl⟩))
          have hbX := below_step HX.out.1 H9.out
          have hoX := own_below HX.out.2.1 H9.out
          have HS := Lib.hid (And.intro hbX hoX)
          clear hbX hoX
          have hlen : (rowsN ids.length (dirA ids G (l.take (k + 1)))).length = (rowsN ids.length (dirA ids G (l.take k))).length := by rw [rowsN_len, rowsN_len]
          have hlo0 : (rowsN ids.length (dirA ids G (l.take k))).length = ids.length := rowsN_len _ _
          have HL := Lib.hid (And.intro hlen hlo0)
          clear hlen hlo0
          go_loopw [48] (fun i w3 => ∃ i0 : Nat, i0 ≤ ids.length ∧ i = .int .i64 i0 ∧ Below w2.heap.size w2 w3 ∧ w3.ownsRow w2.heap.size 74 1 (.slice (some ⟨w2.heap.size, 0, none⟩) ids.length ids.length) ids.length (cellsU (mixL (rowsN ids.length (dirA ids G (l.take (k + 1)))) (rowsN ids.length (dirA ids G (l.take k))) i0))) (fun i _ => ids.length - (intOf i).toNat)
          case atStart => exact ⟨0, Nat.zero_le _, rfl, HS.out.1, by rw [mixL_zero]; exact HS.out.2⟩
          case round =>
            obtain ⟨i1, hi1, rfl, hbi, hoi⟩ := hrel
            have hszi := hbi.size
            by_cases hli : i1 < ids.length
            · have hlii : (i1 : Int) < (ids.length : Int) := by omega
              have hha := fun (W : World) => has_any up i1 hup2 (by omega) W
              have htb : up.testBit i1 = decide (G[p]? = G[i1]?) := by
                rw [HU.out.1, bitN_test, decide_eq_true hli, Bool.true_and, decide_eq_decide]
                exact eq_comm
              rw [htb] at hha
              clear htb
              by_cases hG : G[p]? = G[i1]?
              · rw [decide_eq_true hG] at hha
                obtain ⟨x, hx⟩ : ∃ x, x = bitN ids.length (dirA ids G (l.take k) i1) := ⟨_, rfl⟩
                have hx2 : x < 65536 := by rw [hx]; exact bitN_16 _ (by omega)
                obtain ⟨y, hy⟩ : ∃ y, y = x ||| lo := ⟨_, rfl⟩
                have h2 := or_is x lo hx2 hlo2
                rw [← hy] at h2
                have hat : (mixL (rowsN ids.length (dirA ids G (l.take (k + 1)))) (rowsN ids.length (dirA ids G (l.take k))) i1)[i1]? = some x := by
                  rw [mixL_old HL.out.1 (Nat.le_refl _), rowsN_at _ hli, hx]
                obtain ⟨f1, f2⟩ := rows_cell hoi hat hli
                have hnw : (rowsN ids.length (dirA ids G (l.take (k + 1))))[i1]? = some y := by
                  rw [rowsN_at _ hli, hy, hx, HU.out.2.1, bitN_or]
                  congr 1
                  refine bitN_ext fun j _ => ?_
                  rw [HU.out.2.2, decide_eq_true hG, Bool.true_and]
                  congr 1
                  rw [decide_eq_decide]
                  exact eq_comm
                have HI := Lib.hid (And.intro hbi (And.intro hoi hnw))
                have HH := Lib.hid hha
                clear hha hG hx hy hat hnw hbi hoi
                go_wp2_with (go_at_call 67; go_must (refine (HH.out _).mono ?_); rintro e w9 ⟨rfl, rfl⟩)
                go_roundw
                case rel =>
                  have h9 := rows_store HI.out.2.1 i1 y
                  rw [mixL_set HL.out.1 HI.out.2.2] at h9
                  exact ⟨i1 + 1, by omega, by go_num, HI.out.1.setCell (by simp) _, h9⟩
                case measure => simp [intOf]; omega
              · rw [decide_eq_false hG] at hha
                have hnw : (rowsN ids.length (dirA ids G (l.take (k + 1))))[i1]? = (rowsN ids.length (dirA ids G (l.take k)))[i1]? := by
                  rw [rowsN_at _ hli, rowsN_at _ hli]
                  congr 1
                  refine bitN_ext fun j _ => ?_
                  rw [HU.out.2.2, decide_eq_false hG, Bool.false_and, Bool.or_false]
                have HI := Lib.hid (And.intro hbi (And.intro hoi hnw))
                have HH := Lib.hid hha
                clear hha hG hnw hbi hoi
                go_wp2_with (go_at_call 67; go_must (refine (HH.out _).mono ?_); rintro e w9 ⟨rfl, rfl⟩)
                go_roundw
                case rel => exact ⟨i1 + 1, by omega, by go_num, HI.out.1, by rw [mixL_same HL.out.1 HI.out.2.2]; exact HI.out.2.1⟩
                case measure => simp [intOf]; omega
            · have hin : i1 = ids.length := by omega
              have HI := Lib.hid (And.intro hin (And.intro hbi hoi))
              clear hin hbi hoi
              go_wp2_with fail
              go_roundw
              case rel =>
                obtain ⟨hin, hbi, hoi⟩ := HI.out
                rw [hin] at hoi
                have h9 := mixL_all HL.out.1
                rw [HL.out.2] at h9
                rw [h9] at hoi
                exact ⟨k + 1, by omega, by go_num, hbi, hoi⟩
              case measure => simp [intOf]; omega
        · have e1 : (xc != 1) = true := by simp [h1]
          have HT : Hid (rowsN ids.length (dirA ids G (l.take (k + 1))) = rowsN ids.length (dirA ids G (l.take k))) := by
            show _ = _
            refine rowsN_ext fun a b _ _ => ?_
            rw [dirA_next HX.out.2.2]
            simp [h1]
          clear h1
          go_wp2_with fail
          go_roundw
          case rel =>
            exact ⟨k + 1, by omega, by go_num, below_step HX.out.1 H9.out, by rw [HT.out]; exact own_below HX.out.2.1 H9.out⟩
          case measure => simp [intOf]; omega
      · have hkl : k = l.length := by omega
        have HK := Lib.hid (And.intro hkl (And.intro hbl hown))
        clear hkl hbl hown
        go_wp2_with fail
        go_ret2
        obtain ⟨hkl, hbl, hown⟩ := HK.out
        rw [hkl, List.take_length] at hown
        exact ⟨_, rfl, below_step R2.out.1 hbl, own_less hown hs2⟩
end Go.Proofs.Ytjkjnicgbfpjiaa
