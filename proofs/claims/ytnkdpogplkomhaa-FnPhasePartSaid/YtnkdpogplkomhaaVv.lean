/- Texts that lie together in one: V1, V2, V3, V4. -/
import Derived.Test.YtnkdpogplkomhaaGg
import Derived.Test.YtnkdpogplkomhaaIl
import Derived.Test.YtnkdpogplkomhaaPe
import Derived.Test.YtnkdpogplkomhaaTw
import Derived.Test.YtnkdpogplkomhaaSs
import Derived.Test.YtnkdpogplkomhaaUu
import Derived.StillTailTactics
/- Rows of bits as values, and what the program's small functions on them are. -/
namespace Go.Proofs.Ytnkdpogplkomhaa
open Go.RowKit

theorem ofInt_16 (r : Nat) (h : r < 65536) : (BitVec.ofInt 16 (r : Int)).toNat = r := by
  rw [BitVec.ofInt_natCast, BitVec.toNat_ofNat]; exact Nat.mod_eq_of_lt (by omega)
theorem wrap_16 (r : Nat) (h : r < 65536) : IntKind.u16.wrap (r : Int) = r := by
  have : IntKind.u16.wrap (r : Int) = (r : Int) % 65536 := by simp [IntKind.wrap, IntKind.bits, IntKind.signed]
  rw [this]; omega
theorem pow_16 {p : Nat} (hp : p < 16) : 2 ^ p < 65536 := Nat.pow_lt_pow_right (a := 2) (m := p) (n := 16) (by omega) hp
theorem shl_is (p : Nat) (hp : p < 16) : IntKind.u16.wrap ((2 : Int) ^ p) = ((2 ^ p : Nat) : Int) := by
  rw [← wrap_16 (2 ^ p) (pow_16 hp)]
  congr 1
theorem and_is (a b : Nat) (ha : a < 65536) (hb : b < 65536) : bits .and .u16 (a : Int) (b : Int) = ((a &&& b : Nat) : Int) := by
  have h : a &&& b < 2 ^ 16 := Nat.and_lt_two_pow _ (by omega)
  show IntKind.u16.wrap (((BitVec.ofInt 16 (a : Int) &&& BitVec.ofInt 16 (b : Int)).toNat : Nat) : Int) = _
  rw [BitVec.toNat_and, ofInt_16 a ha, ofInt_16 b hb, wrap_16 _ (by omega)]
theorem or_is (a b : Nat) (ha : a < 65536) (hb : b < 65536) : bits .or .u16 (a : Int) (b : Int) = ((a ||| b : Nat) : Int) := by
  have h : a ||| b < 2 ^ 16 := Nat.or_lt_two_pow (by omega) (by omega)
  show IntKind.u16.wrap (((BitVec.ofInt 16 (a : Int) ||| BitVec.ofInt 16 (b : Int)).toNat : Nat) : Int) = _
  rw [BitVec.toNat_or, ofInt_16 a ha, ofInt_16 b hb, wrap_16 _ (by omega)]
theorem and_pow (r p : Nat) : (((r &&& 2 ^ p : Nat) : Int) != 0) = r.testBit p := by
  cases h : r.testBit p
  · have e : r &&& 2 ^ p = 0 := by
      refine Nat.eq_of_testBit_eq fun j => ?_
      rw [Nat.testBit_and, Nat.testBit_two_pow, Nat.zero_testBit]
      by_cases hj : p = j
      · subst hj
        rw [h]; rfl
      · simp [hj]
    rw [e]; rfl
  · have e : r &&& 2 ^ p ≠ 0 := fun h0 => by
      have h1 : (r &&& 2 ^ p).testBit p = true := by rw [Nat.testBit_and, h, Nat.testBit_two_pow]; simp
      rw [h0, Nat.zero_testBit] at h1
      cases h1
    simp
    omega
def encU (r : Nat) : Value := .int .u16 (r : Int)
def cellsU (l : List Nat) : List Value := l.map encU
theorem infoRow : (Try.prog.info? 102).map (fun i => (i.zero, i.size, i.bytes)) = some (some (.int .u16 0), 1, 2) := by kernel_rfl
theorem Reads.rows {w : World} {B n : Nat} {A : Option Addr} {l : List Nat} (h : Reads w B 1 A n (cellsU l)) (hn : 0 < n) : ∃ b off, A = some ⟨b, off, none⟩ ∧ b < B ∧ ∀ (k : Nat) (x : Nat), l[k]? = some x → w.cell? ⟨b, off + k, none⟩ = some (.int .u16 (x : Int)) := by
  obtain ⟨b, off, e, hb, hc⟩ := h.2 hn
  exact ⟨b, off, e, hb, fun k x hx => hc k _ (by simp [cellsU, hx, encU])⟩

set_option maxHeartbeats 400000 in
set_option maxRecDepth 100000 in
theorem has_any (r p : Nat) (hr : r < 65536) (hp : p < 16) (w : World) :
    Calls Try.prog 63 #[.int .u16 (r : Int), .int .i64 (p : Int)] w fun e w2 => e = .returned (.bool (r.testBit p)) ∧ w = w2 := by
  have h1 := shl_is p hp
  have h2 := and_is r (2 ^ p) hr (pow_16 hp)
  have h3 := and_pow r p
  obtain ⟨s, hs⟩ : ∃ s, s = r &&& 2 ^ p := ⟨_, rfl⟩
  rw [← hs] at h2 h3
  clear hs
  obtain ⟨q, hq⟩ : ∃ q, q = 2 ^ p := ⟨_, rfl⟩
  rw [← hq] at h1 h2
  clear hq
  obtain ⟨t, ht⟩ : ∃ t, t = r.testBit p := ⟨_, rfl⟩
  rw [← ht] at h3 ⊢
  clear ht
  go_enter Try.func63, Try.ntmps63
  go_wp2_with fail
  go_ret
  exact ⟨rfl, rfl⟩

set_option maxHeartbeats 800000 in
set_option maxRecDepth 100000 in
theorem groupRow_any (A : Option Addr) (ca : Nat) (G : List Int) (p : Nat) (w : World) (ha : Reads w w.heap.size 1 A G.length (cellsI G)) (hp : p < G.length) (hn : G.length ≤ 12) :
    Calls Try.prog 97 #[.slice A G.length ca, .int .i64 (p : Int)] w fun e w2 => e = .returned (.int .u16 (bitN G.length (fun j => decide (G[j]? = G[p]?)) : Nat)) ∧ w = w2 := by
  obtain ⟨b, off, hA, hbb, hc⟩ := ha.ints (by omega)
  subst hA
  obtain ⟨y, hy⟩ : ∃ y, G[p]? = some y := ⟨_, List.getElem?_eq_getElem hp⟩
  have c2 := hc p _ hy
  have hpi : (p : Int) < (G.length : Int) := by omega
  obtain ⟨f, hf⟩ : ∃ f : Nat → Bool, f = fun j => decide (G[j]? = G[p]?) := ⟨_, rfl⟩
  rw [← hf]
  have HF := Lib.hid (And.intro hf (And.intro hy hc))
  clear hf hy hc ha
  go_enter Try.func97, Try.ntmps97
  go_wp2_with fail
  go_loop [5, 10] (fun v i => ∃ k : Nat, k ≤ G.length ∧ i = .int .i64 k ∧ v = .int .u16 (bitN k f : Nat)) (fun _ i => G.length - (intOf i).toNat)
  case atStart => exact ⟨0, Nat.zero_le _, rfl, rfl⟩
  case round =>
    obtain ⟨k, hk, rfl, rfl⟩ := hrel
    by_cases hlt : k < G.length
    · obtain ⟨x, hx⟩ : ∃ x, G[k]? = some x := ⟨_, List.getElem?_eq_getElem hlt⟩
      have c1 := HF.out.2.2 k _ hx
      have hki : (k : Int) < (G.length : Int) := by omega
      have hfk : f k = decide (x = y) := by
        rw [HF.out.1]
        simp only [hx, HF.out.2.1]
        rw [decide_eq_decide]
        simp
      by_cases hxy : x = y
      · have e0 : (x == y) = true := by simp [hxy]
        have HN : Hid (bitN (k + 1) f = bitN k f ||| 2 ^ k) := by
          show _ = _
          rw [bitN, hfk, decide_eq_true hxy, if_pos rfl]
        have h1 := shl_is k (by omega)
        have h2 := or_is (bitN k f) (2 ^ k) (bitN_16 f (by omega)) (pow_16 (by omega))
        rw [← HN.out] at h2
        obtain ⟨q, hq⟩ : ∃ q, q = 2 ^ k := ⟨_, rfl⟩
        rw [← hq] at h1 h2
        obtain ⟨s, hs⟩ : ∃ s, s = bitN k f := ⟨_, rfl⟩
        rw [← hs] at h2 ⊢
        obtain ⟨t, ht⟩ : ∃ t, t = bitN (k + 1) f := ⟨_, rfl⟩
        rw [← ht] at h2
        have HT := Lib.hid ht
        clear hx hfk hxy hq hs ht
        go_wp2_with fail
        go_round
        case rel => exact ⟨k + 1, by omega, by go_num, by rw [← HT.out]⟩
        case measure => simp [intOf]; omega
      · have e0 : (x == y) = false := by simp [hxy]
        have HN : Hid (bitN (k + 1) f = bitN k f) := by
          show _ = _
          rw [bitN, hfk, decide_eq_false hxy]
          simp
        clear hx hfk hxy
        go_wp2_with fail
        go_round
        case rel => exact ⟨k + 1, by omega, by go_num, by rw [HN.out]⟩
        case measure => simp [intOf]; omega
    · have hkl : k = G.length := by omega
      have HK := Lib.hid hkl
      clear hkl
      go_wp2_with fail
      go_ret
      exact ⟨by rw [HK.out]; rfl, rfl⟩
end Go.Proofs.Ytnkdpogplkomhaa

/- What the program's rows of what lies directly above are. -/
namespace Go.Proofs.Ytnkdpogplkomhaa
open Go.RowKit

/-- The rows of a relation of n places. -/
def rowsN (n : Nat) (F : Nat → Nat → Bool) : List Nat := (List.range n).map fun i => bitN n (F i)
theorem rowsN_len (n : Nat) (F : Nat → Nat → Bool) : (rowsN n F).length = n := by simp [rowsN]
theorem rowsN_at {n i : Nat} (F : Nat → Nat → Bool) (hi : i < n) : (rowsN n F)[i]? = some (bitN n (F i)) := by simp [rowsN, hi]
theorem rowsN_ext {n : Nat} {F H : Nat → Nat → Bool} (h : ∀ i j, i < n → j < n → F i j = H i j) : rowsN n F = rowsN n H := by
  unfold rowsN
  exact List.map_congr_left fun i hi => bitN_ext fun j hj => h i j (List.mem_range.1 hi) hj
theorem zero_rows (n : Nat) : (madeCells (Value.int .u16 0).cells (n * 1)).toList = cellsU (rowsN n fun _ _ => false) := by
  refine List.ext_getElem? fun i => ?_
  by_cases hi : i < n
  · rw [cellsU, List.getElem?_map, rowsN_at _ hi, bitN_zero]
    simp [madeCells, hi, Value.cells, Nat.mod_one, encU]
  · simp [cellsU, rowsN, madeCells, hi]
theorem rows_cell {w : World} {base e g n cap : Nat} {L : List Nat} {k x : Nat} (h : w.ownsRow base e 1 (.slice (some ⟨g, 0, none⟩) n cap) n (cellsU L)) (hx : L[k]? = some x) (hk : k < n) : w.cell? ⟨g, k, none⟩ = some (.int .u16 (x : Int)) ∧ w.frozen? ⟨g, k, none⟩ = false := by
  refine ⟨(h.cellAt k (by omega)).trans ?_, h.frozenAt k⟩
  rw [cellsU, List.getElem?_map, hx]
  rfl
theorem rows_store {w : World} {base e g n cap : Nat} {L : List Nat} (h : w.ownsRow base e 1 (.slice (some ⟨g, 0, none⟩) n cap) n (cellsU L)) (k x : Nat) : (w.setCell ⟨g, k, none⟩ (.int .u16 (x : Int))).ownsRow base e 1 (.slice (some ⟨g, 0, none⟩) n cap) n (cellsU (L.set k x)) := by
  have h1 := (h.stored k (encU x)).1
  rw [cellsU, List.map_set]
  exact h1
/-- How many rows there are. -/
def szG (ids : List Int) (l : List Ctx) : Nat := if okG ids l = true then ids.length else 0
theorem szG_ok {ids : List Int} {l : List Ctx} (h : okG ids l = true) : szG ids l = ids.length := if_pos h
theorem szG_no {ids : List Int} {l : List Ctx} (h : okG ids l = false) : szG ids l = 0 := by simp [szG, h]
theorem szG_le (ids : List Int) (l : List Ctx) : szG ids l ≤ 12 := by
  unfold szG
  split
  · rename_i h; exact validO_len (okG_parts h).1
  · omega
/-- Rows in memory of the call's own, and whether the arguments are valid. -/
def RowsPost (w : World) (n : Nat) (F : Nat → Nat → Bool) (ok : Bool) (e : Ending) (w2 : World) : Prop :=
  ∃ v, e = .returned (.tuple #[v, .bool ok]) ∧ Below w.heap.size w w2 ∧ w2.ownsRow w.heap.size 102 1 v n (cellsU (rowsN n F))
set_option maxHeartbeats 4000000 in
set_option maxRecDepth 100000 in
theorem iDirect_any (A B : Option Addr) (ca cb : Nat) (ids : List Int) (l : List Ctx) (w : World) (ha : Reads w w.heap.size 1 A ids.length (cellsI ids)) (hb : Reads w w.heap.size 3 B l.length (cellsC l)) (hn : ids.length ≤ 1000000000) (hl : l.length ≤ 1000000000) :
    Calls Try.prog 77 #[.slice A ids.length ca, .slice B l.length cb] w (RowsPost w (szG ids l) (dirA ids (groupsG ids l) l) (okG ids l)) := by
  cases hok : okG ids l
  · rw [szG_no hok]
    have hgr := iGroups_any A B ca cb ids l w ha hb (by omega) (by omega)
    clear ha hb
    go_enter Try.func77, Try.ntmps77
    go_wp2_with fail
    refine hgr.mono ?_
    rintro e w2 ⟨v2, rfl, hb2, _⟩
    rw [hok]
    go_wp2_with fail
    go_ret2
    exact ⟨_, rfl, hb2, rfl, .inl ⟨rfl, rfl⟩⟩
  · obtain ⟨i0, hi0, hz0, hz1, hz2⟩ := info_parts infoRow
    obtain ⟨hv, hvr, hin⟩ := okG_parts hok
    have hn12 : ids.length ≤ 12 := validO_len hv
    have hl30 : l.length ≤ 30 := validO_len hvr
    rw [szG_ok hok]
    obtain ⟨G, hG⟩ : ∃ G, G = groupsG ids l := ⟨_, rfl⟩
    have hGl : G.length = ids.length := by rw [hG, groupsG_len]
    have hof : groupsOfG ids l = G := by rw [groupsOfG, if_pos hok, hG]
    have hgr := iGroups_any A B ca cb ids l w ha hb (by omega) (by omega)
    rw [← hG]
    have hGb : G.length ≤ 12 := by omega
    have HV := Lib.hid (And.intro hin (And.intro hGl (And.intro ha hb)))
    clear hv hvr hin hG hGl ha hb
    go_enter Try.func77, Try.ntmps77
    go_wp2_with fail
    refine hgr.mono ?_
    rintro e w2 ⟨v2, rfl, hb2, ho2⟩
    rw [hok]
    rw [hof] at ho2
    obtain ⟨A2, c2, rfl, _, hr2⟩ := own_slice ho2
    have R2 := Lib.hid (And.intro hb2 hr2)
    have hs2 := hb2.size
    clear hgr hb2 ho2 hr2 hof hok
    go_wp2_with (at_make
                 go_must (refine wpList_make_full _ rfl (.tmp 23) (.tmp 23) _ rfl w2.heap.size 102 i0 _ 1 Try.underlying71 hi0 hz0 hz1 _ _ _ _ ids.length rfl rfl rfl rfl (by rw [hz2]; omega) (by simp only [maxLen]; omega) (Nat.le_refl _) ?_)
                 intro w5 hown hg5)
    rw [zero_rows] at hown
    have hb5 : Below w2.heap.size w2 w5 := (Below.refl _ _).grown hg5 (Nat.le_refl _) (fun k hk => by cases hk)
    have hlt5 := (hown.lt _ rfl).2
    have R := Lib.hid (And.intro (HV.out.2.2.1.step R2.out.1) (And.intro (HV.out.2.2.2.step R2.out.1) R2.out.2))
    have H0 := Lib.hid (And.intro hown hb5)
    clear hown hg5 hb5 hi0 hz0 hz1 hz2
    go_loopw [27] (fun i wr => ∃ k : Nat, k ≤ l.length ∧ i = .int .i64 k ∧ Below w2.heap.size w2 wr ∧ wr.ownsRow w2.heap.size 102 1 (.slice (some ⟨w2.heap.size, 0, none⟩) ids.length ids.length) ids.length (cellsU (rowsN ids.length (dirA ids G (l.take k))))) (fun i _ => l.length - (intOf i).toNat)
    case atStart => exact ⟨0, Nat.zero_le _, rfl, H0.out.2, H0.out.1⟩
    case round =>
      obtain ⟨k, hk, rfl, hbl, hown⟩ := hrel
      have hsz := hbl.size
      by_cases hlt : k < l.length
      · obtain ⟨b, off, hB, hbb, hc⟩ := ((R.out.2.1.below hbl).ctx (by omega))
        subst hB
        obtain ⟨⟨xa, xb, xc⟩, hr⟩ : ∃ r, l[k]? = some r := ⟨_, List.getElem?_eq_getElem hlt⟩
        obtain ⟨c1, c2', c3⟩ := hc k _ hr
        dsimp only at c1 c2' c3
        have hkl : (k : Int) < (l.length : Int) := by omega
        have HX := Lib.hid (And.intro hbl (And.intro hown hr))
        have hb9 : Below wr.heap.size wr (wr.alloc (.cells #[.int .i64 xa, .int .i64 xb, .int .i64 xc] 111)) := (Below.refl _ _).alloc (Nat.le_refl _) _
        have H9 := Lib.hid hb9
        clear hbl hown hr hc hb9
        by_cases h1 : xc = 1
        · have e1 : (xc != 1) = false := by simp [h1]
          obtain ⟨hm1, hm2⟩ := HV.out.1 _ (List.mem_of_getElem? HX.out.2.2)
          dsimp only at hm1 hm2
          obtain ⟨hp1, hp2, _⟩ := placeI_at hm1
          obtain ⟨hq1, hq2, _⟩ := placeI_at hm2
          have hnx : ∀ i j, dirA ids G (l.take (k + 1)) i j = (dirA ids G (l.take k) i j || (decide (G[placeI ids xa]? = G[i]?) && decide (G[placeI ids xb]? = G[j]?))) := fun i j => by
            rw [dirA_next HX.out.2.2]
            simp [h1]
          obtain ⟨p, hp⟩ : ∃ p, placeI ids xa = p := ⟨_, rfl⟩
          obtain ⟨q, hq⟩ : ∃ q, placeI ids xb = q := ⟨_, rfl⟩
          rw [hp] at hp1 hp2 hnx
          rw [hq] at hq1 hq2 hnx
          have hix := fun (n : Int) => indexI_any A ca ids n _ (((R.out.1.step HX.out.1).step H9.out)) (by omega)
          have hg1 : ∀ r : Nat, r < ids.length → Calls Try.prog 97 #[.slice A2 G.length c2, .int .i64 (r : Int)] (wr.alloc (.cells #[.int .i64 xa, .int .i64 xb, .int .i64 xc] 111)) fun e w2 => e = .returned (.int .u16 (bitN ids.length (fun j => decide (G[j]? = G[r]?)) : Nat)) ∧ (wr.alloc (.cells #[.int .i64 xa, .int .i64 xb, .int .i64 xc] 111)) = w2 := fun r hr => by
            refine (groupRow_any A2 c2 G r _ ((R.out.2.2.step HX.out.1).step H9.out) (by rw [HV.out.2.1]; exact hr) hGb).mono ?_
            rintro e w2 ⟨rfl, rfl⟩
            exact ⟨by rw [HV.out.2.1], rfl⟩
          obtain ⟨up, hup⟩ : ∃ up, up = bitN ids.length (fun j => decide (G[j]? = G[p]?)) := ⟨_, rfl⟩
          obtain ⟨lo, hlo⟩ : ∃ lo, lo = bitN ids.length (fun j => decide (G[j]? = G[q]?)) := ⟨_, rfl⟩
          have hup2 : up < 65536 := by rw [hup]; exact bitN_16 _ (by omega)
          have hlo2 : lo < 65536 := by rw [hlo]; exact bitN_16 _ (by omega)
          have hgr : ∀ (r v : Nat), ((r = p ∧ v = up) ∨ (r = q ∧ v = lo)) → Calls Try.prog 97 #[.slice A2 G.length c2, .int .i64 (r : Int)] (wr.alloc (.cells #[.int .i64 xa, .int .i64 xb, .int .i64 xc] 111)) fun e w2 => e = .returned (.int .u16 (v : Int)) ∧ (wr.alloc (.cells #[.int .i64 xa, .int .i64 xb, .int .i64 xc] 111)) = w2 := by
            rintro r v (⟨rfl, rfl⟩ | ⟨rfl, rfl⟩)
            · rw [hup]; exact hg1 _ hp2
            · rw [hlo]; exact hg1 _ hq2
          have HC := Lib.hid (And.intro hix hgr)
          have HU := Lib.hid (And.intro hup (And.intro hlo hnx))
          clear h1 hm1 hm2 hp hq hix hg1 hgr hup hlo hnx
          go_wp2_with (first
            | (go_at_call 62
               go_must (refine (HC.out.1 _).mono ?_)
               go_must (first | rw [hp1] | rw [hq1])
               rintro e w9 ⟨rfl, rfl⟩)
            | (go_at_call 97
               go_must (refine (HC.out.2 _ _ (by first | exact .inl ⟨rfl, rfl⟩ | exact .inr ⟨rfl, rfl⟩)).mono ?_)
               rintro e w9 ⟨rfl, rfl⟩))
          have hbX := below_step HX.out.1 H9.out
          have hoX := own_below HX.out.2.1 H9.out
          have HS := Lib.hid (And.intro hbX hoX)
          clear hbX hoX
          have hlen : (rowsN ids.length (dirA ids G (l.take (k + 1)))).length = (rowsN ids.length (dirA ids G (l.take k))).length := by rw [rowsN_len, rowsN_len]
          have hlo0 : (rowsN ids.length (dirA ids G (l.take k))).length = ids.length := rowsN_len _ _
          have HL := Lib.hid (And.intro hlen hlo0)
          clear hlen hlo0
          go_loopw [48] (fun i w3 => ∃ i0 : Nat, i0 ≤ ids.length ∧ i = .int .i64 i0 ∧ Below w2.heap.size w2 w3 ∧ w3.ownsRow w2.heap.size 102 1 (.slice (some ⟨w2.heap.size, 0, none⟩) ids.length ids.length) ids.length (cellsU (mixL (rowsN ids.length (dirA ids G (l.take (k + 1)))) (rowsN ids.length (dirA ids G (l.take k))) i0))) (fun i _ => ids.length - (intOf i).toNat)
          case atStart => exact ⟨0, Nat.zero_le _, rfl, HS.out.1, by rw [mixL_zero]; exact HS.out.2⟩
          case round =>
            obtain ⟨i1, hi1, rfl, hbi, hoi⟩ := hrel
            have hszi := hbi.size
            by_cases hli : i1 < ids.length
            · have hlii : (i1 : Int) < (ids.length : Int) := by omega
              have hha := fun (W : World) => has_any up i1 hup2 (by omega) W
              have htb : up.testBit i1 = decide (G[p]? = G[i1]?) := by
                rw [HU.out.1, bitN_test, decide_eq_true hli, Bool.true_and, decide_eq_decide]
                exact eq_comm
              rw [htb] at hha
              clear htb
              by_cases hG : G[p]? = G[i1]?
              · rw [decide_eq_true hG] at hha
                obtain ⟨x, hx⟩ : ∃ x, x = bitN ids.length (dirA ids G (l.take k) i1) := ⟨_, rfl⟩
                have hx2 : x < 65536 := by rw [hx]; exact bitN_16 _ (by omega)
                obtain ⟨y, hy⟩ : ∃ y, y = x ||| lo := ⟨_, rfl⟩
                have h2 := or_is x lo hx2 hlo2
                rw [← hy] at h2
                have hat : (mixL (rowsN ids.length (dirA ids G (l.take (k + 1)))) (rowsN ids.length (dirA ids G (l.take k))) i1)[i1]? = some x := by
                  rw [mixL_old HL.out.1 (Nat.le_refl _), rowsN_at _ hli, hx]
                obtain ⟨f1, f2⟩ := rows_cell hoi hat hli
                have hnw : (rowsN ids.length (dirA ids G (l.take (k + 1))))[i1]? = some y := by
                  rw [rowsN_at _ hli, hy, hx, HU.out.2.1, bitN_or]
                  congr 1
                  refine bitN_ext fun j _ => ?_
                  rw [HU.out.2.2, decide_eq_true hG, Bool.true_and]
                  congr 1
                  rw [decide_eq_decide]
                  exact eq_comm
                have HI := Lib.hid (And.intro hbi (And.intro hoi hnw))
                have HH := Lib.hid hha
                clear hha hG hx hy hat hnw hbi hoi
                go_wp2_with (go_at_call 63; go_must (refine (HH.out _).mono ?_); rintro e w9 ⟨rfl, rfl⟩)
                go_roundw
                case rel =>
                  have h9 := rows_store HI.out.2.1 i1 y
                  rw [mixL_set HL.out.1 HI.out.2.2] at h9
                  exact ⟨i1 + 1, by omega, by go_num, HI.out.1.setCell (by simp) _, h9⟩
                case measure => simp [intOf]; omega
              · rw [decide_eq_false hG] at hha
                have hnw : (rowsN ids.length (dirA ids G (l.take (k + 1))))[i1]? = (rowsN ids.length (dirA ids G (l.take k)))[i1]? := by
                  rw [rowsN_at _ hli, rowsN_at _ hli]
                  congr 1
                  refine bitN_ext fun j _ => ?_
                  rw [HU.out.2.2, decide_eq_false hG, Bool.false_and, Bool.or_false]
                have HI := Lib.hid (And.intro hbi (And.intro hoi hnw))
                have HH := Lib.hid hha
                clear hha hG hnw hbi hoi
                go_wp2_with (go_at_call 63; go_must (refine (HH.out _).mono ?_); rintro e w9 ⟨rfl, rfl⟩)
                go_roundw
                case rel => exact ⟨i1 + 1, by omega, by go_num, HI.out.1, by rw [mixL_same HL.out.1 HI.out.2.2]; exact HI.out.2.1⟩
                case measure => simp [intOf]; omega
            · have hin : i1 = ids.length := by omega
              have HI := Lib.hid (And.intro hin (And.intro hbi hoi))
              clear hin hbi hoi
              go_wp2_with fail
              go_roundw
              case rel =>
                obtain ⟨hin, hbi, hoi⟩ := HI.out
                rw [hin] at hoi
                have h9 := mixL_all HL.out.1
                rw [HL.out.2] at h9
                rw [h9] at hoi
                exact ⟨k + 1, by omega, by go_num, hbi, hoi⟩
              case measure => simp [intOf]; omega
        · have e1 : (xc != 1) = true := by simp [h1]
          have HT : Hid (rowsN ids.length (dirA ids G (l.take (k + 1))) = rowsN ids.length (dirA ids G (l.take k))) := by
            show _ = _
            refine rowsN_ext fun a b _ _ => ?_
            rw [dirA_next HX.out.2.2]
            simp [h1]
          clear h1
          go_wp2_with fail
          go_roundw
          case rel =>
            exact ⟨k + 1, by omega, by go_num, below_step HX.out.1 H9.out, by rw [HT.out]; exact own_below HX.out.2.1 H9.out⟩
          case measure => simp [intOf]; omega
      · have hkl : k = l.length := by omega
        have HK := Lib.hid (And.intro hkl (And.intro hbl hown))
        clear hkl hbl hown
        go_wp2_with fail
        go_ret2
        obtain ⟨hkl, hbl, hown⟩ := HK.out
        rw [hkl, List.take_length] at hown
        exact ⟨_, rfl, below_step R2.out.1 hbl, own_less hown hs2⟩
end Go.Proofs.Ytnkdpogplkomhaa

/- What the program's rows of all that lies above are. -/
namespace Go.Proofs.Ytnkdpogplkomhaa
open Go.RowKit

theorem way_row (F : Nat → Nat → Bool) (k j : Nat) : wayB F (k + 1) k j = wayB F k k j := by
  rw [wayB]
  cases wayB F k k j <;> simp
set_option maxHeartbeats 4000000 in
set_option maxRecDepth 100000 in
theorem iAboveR_any (A B : Option Addr) (ca cb : Nat) (ids : List Int) (l : List Ctx) (w : World) (ha : Reads w w.heap.size 1 A ids.length (cellsI ids)) (hb : Reads w w.heap.size 3 B l.length (cellsC l)) (hn : ids.length ≤ 1000000000) (hl : l.length ≤ 1000000000) :
    Calls Try.prog 61 #[.slice A ids.length ca, .slice B l.length cb] w (RowsPost w (szG ids l) (clos (dirA ids (groupsG ids l) l) (szG ids l)) (okG ids l)) := by
  have hdi := iDirect_any A B ca cb ids l w ha hb hn hl
  obtain ⟨n, hn0⟩ : ∃ n, n = szG ids l := ⟨_, rfl⟩
  obtain ⟨F, hF⟩ : ∃ F, F = dirA ids (groupsG ids l) l := ⟨_, rfl⟩
  obtain ⟨ok, hok⟩ : ∃ ok, ok = okG ids l := ⟨_, rfl⟩
  have hn12 : n ≤ 12 := by rw [hn0]; exact szG_le ids l
  rw [← hn0, ← hF, ← hok] at hdi ⊢
  clear hn0 hF hok ha hb
  go_enter Try.func61, Try.ntmps61
  go_wp2_with fail
  refine hdi.mono ?_
  rintro e w2 ⟨v2, rfl, hb2, ho2⟩
  obtain ⟨A2, c2, rfl, _, _⟩ := Reads.of_own ho2
  have hs2 := hb2.size
  have H2 := Lib.hid (And.intro hb2 ho2)
  clear hdi hb2 ho2
  go_wp2_with fail
  go_loopw [18] (fun i wr => ∃ k : Nat, k ≤ n ∧ i = .int .i64 k ∧ Below w.heap.size w wr ∧ wr.ownsRow w.heap.size 102 1 (.slice A2 n c2) n (cellsU (rowsN n (wayB F k)))) (fun i _ => n - (intOf i).toNat)
  case atStart => exact ⟨0, Nat.zero_le _, rfl, H2.out.1, H2.out.2⟩
  case round =>
    obtain ⟨k, hk, rfl, hbl, hown⟩ := hrel
    by_cases hlt : k < n
    · have hlti : (k : Int) < (n : Int) := by omega
      have hlen : (rowsN n (wayB F (k + 1))).length = (rowsN n (wayB F k)).length := by rw [rowsN_len, rowsN_len]
      have hln0 : (rowsN n (wayB F k)).length = n := rowsN_len _ _
      have HL := Lib.hid (And.intro hlen hln0)
      have HK := Lib.hid (And.intro hbl hown)
      clear hbl hown hlen hln0
      go_wp2_with fail
      go_loopw [23] (fun i w3 => ∃ i0 : Nat, i0 ≤ n ∧ i = .int .i64 i0 ∧ Below w.heap.size w w3 ∧ w3.ownsRow w.heap.size 102 1 (.slice A2 n c2) n (cellsU (mixL (rowsN n (wayB F (k + 1))) (rowsN n (wayB F k)) i0))) (fun i _ => n - (intOf i).toNat)
      case atStart => exact ⟨0, Nat.zero_le _, rfl, HK.out.1, by rw [mixL_zero]; exact HK.out.2⟩
      case round =>
        obtain ⟨i1, hi1, rfl, hbi, hoi⟩ := hrel
        have hszi := hbi.size
        by_cases hli : i1 < n
        · have hlii : (i1 : Int) < (n : Int) := by omega
          obtain ⟨g, cap, hv, hbg, hgl⟩ := hoi.form (by omega)
          injection hv with hA2 _ hc2
          subst hA2 hc2
          obtain ⟨x, hx⟩ : ∃ x, x = bitN n (wayB F k i1) := ⟨_, rfl⟩
          have hx2 : x < 65536 := by rw [hx]; exact bitN_16 _ (by omega)
          have hat : (mixL (rowsN n (wayB F (k + 1))) (rowsN n (wayB F k)) i1)[i1]? = some x := by
            rw [mixL_old HL.out.1 (Nat.le_refl _), rowsN_at _ hli, hx]
          obtain ⟨f1, f2⟩ := rows_cell hoi hat hli
          have hha := fun (W : World) => has_any x k hx2 (by omega) W
          have htb : x.testBit k = wayB F k i1 k := by rw [hx, bitN_test, decide_eq_true hlt, Bool.true_and]
          rw [htb] at hha
          clear htb hat
          cases hw : wayB F k i1 k
          · rw [hw] at hha
            have hnw : (rowsN n (wayB F (k + 1)))[i1]? = (rowsN n (wayB F k))[i1]? := by
              rw [rowsN_at _ hli, rowsN_at _ hli]
              congr 1
              refine bitN_ext fun j _ => ?_
              rw [wayB, hw, Bool.false_and, Bool.or_false]
            have HI := Lib.hid (And.intro hbi (And.intro hoi hnw))
            have HH := Lib.hid hha
            clear hha hw hx hnw hbi hoi
            go_wp2_with (go_at_call 63; go_must (refine (HH.out _).mono ?_); rintro e w9 ⟨rfl, rfl⟩)
            go_roundw
            case rel => exact ⟨i1 + 1, by omega, by go_num, HI.out.1, by rw [mixL_same HL.out.1 HI.out.2.2]; exact HI.out.2.1⟩
            case measure => simp [intOf]; omega
          · rw [hw] at hha
            obtain ⟨z, hz⟩ : ∃ z, z = bitN n (wayB F k k) := ⟨_, rfl⟩
            have hz2 : z < 65536 := by rw [hz]; exact bitN_16 _ (by omega)
            obtain ⟨y, hy⟩ : ∃ y, y = x ||| z := ⟨_, rfl⟩
            have h2 := or_is x z hx2 hz2
            rw [← hy] at h2
            have hak : (mixL (rowsN n (wayB F (k + 1))) (rowsN n (wayB F k)) i1)[k]? = some z := by
              rcases Nat.lt_or_ge k i1 with h | h
              · rw [mixL_new HL.out.1 h, rowsN_at _ hlt, hz]
                congr 1
                exact bitN_ext fun j _ => way_row F k j
              · rw [mixL_old HL.out.1 h, rowsN_at _ hlt, hz]
            obtain ⟨f3, _⟩ := rows_cell hoi hak hlt
            have hnw : (rowsN n (wayB F (k + 1)))[i1]? = some y := by
              rw [rowsN_at _ hli, hy, hx, hz, bitN_or]
              congr 1
              refine bitN_ext fun j _ => ?_
              rw [wayB, hw, Bool.true_and]
            have HI := Lib.hid (And.intro hbi (And.intro hoi hnw))
            have HH := Lib.hid hha
            clear hha hw hx hy hz hak hnw hbi hoi
            go_wp2_with (go_at_call 63; go_must (refine (HH.out _).mono ?_); rintro e w9 ⟨rfl, rfl⟩)
            refine region_still_tail2 10 (by kernel_rfl) (by kernel_rfl) ?_
            intro W hW hz hbw
            simp only [List.take_succ_cons, List.take_zero, List.drop_succ_cons, List.drop_zero]
            repeat still_step
            refine wpStill_nil ?_
            have w1' := (World.cell?_of_block (w := wr) (a := ⟨g, i1, none⟩) (hbw.block g hgl)).trans f1
            have w2' := (World.frozen?_of_block (w := wr) (a := ⟨g, i1, none⟩) (hbw.block g hgl)).trans f2
            have HW := Lib.hid hbw
            clear hW hz hbw f1 f2 f3
            go_wp2_with fail
            go_roundw
            case rel =>
              have h9 := rows_store (own_below HI.out.2.1 HW.out) i1 y
              rw [mixL_set HL.out.1 HI.out.2.2] at h9
              exact ⟨i1 + 1, by omega, by go_num, (below_step HI.out.1 HW.out).setCell (by simpa using hbg) _, h9⟩
            case measure => simp [intOf]; omega
        · have hin : i1 = n := by omega
          have HI := Lib.hid (And.intro hin (And.intro hbi hoi))
          clear hin hbi hoi
          go_wp2_with fail
          go_roundw
          case rel =>
            obtain ⟨hin, hbi, hoi⟩ := HI.out
            rw [hin] at hoi
            have h9 := mixL_all HL.out.1
            rw [HL.out.2] at h9
            rw [h9] at hoi
            exact ⟨k + 1, by omega, by go_num, hbi, hoi⟩
          case measure => simp [intOf]; omega
    · have hkn : k = n := by omega
      have HK := Lib.hid (And.intro hkn (And.intro hbl hown))
      clear hkn hbl hown
      go_wp2_with fail
      go_ret2
      obtain ⟨hkn, hbl, hown⟩ := HK.out
      rw [hkn] at hown
      exact ⟨_, rfl, hbl, hown⟩
end Go.Proofs.Ytnkdpogplkomhaa

/- What the program's table of an order is. -/
namespace Go.Proofs.Ytnkdpogplkomhaa
open Go.RowKit

theorem has_to (r p : Nat) (t : Bool) (hr : r < 65536) (hp : p < 16) (ht : r.testBit p = t) (w : World) :
    Calls Try.prog 63 #[.int .u16 (r : Int), .int .i64 (p : Int)] w fun e w2 => e = .returned (.bool t) ∧ w2 = w :=
  (has_any r p hr hp w).mono fun _ _ ⟨h1, h2⟩ => ⟨by rw [h1, ht], h2.symm⟩
theorem tab_ord (ids : List Int) (l : List Ctx) : tabN (szG ids l) (clos (dirA ids (groupsG ids l) l) (szG ids l)) = ordOfG ids l := by
  unfold ordOfG
  cases hok : okG ids l
  · rw [szG_no hok]; rfl
  · rw [szG_ok hok, if_pos rfl]
    refine List.ext_getElem? fun i => ?_
    by_cases hi : i < ids.length
    · obtain ⟨a, ha⟩ : ∃ a, ids[i]? = some a := ⟨_, List.getElem?_eq_getElem hi⟩
      rw [tabN_row _ hi, ordG, List.getElem?_map, ha, Option.map_some]
      congr 1
      refine List.ext_getElem? fun j => ?_
      by_cases hj : j < ids.length
      · obtain ⟨b, hb⟩ : ∃ b, ids[j]? = some b := ⟨_, List.getElem?_eq_getElem hj⟩
        rw [rowN_at _ hj, List.getElem?_map, hb, Option.map_some, upA hok ha hb]
      · rw [List.getElem?_eq_none (by rw [rowN_len]; omega), List.getElem?_eq_none (by simp; omega)]
    · rw [List.getElem?_eq_none (by rw [tabN_len]; omega), List.getElem?_eq_none (by rw [ordG_len]; omega)]
end Go.Proofs.Ytnkdpogplkomhaa
