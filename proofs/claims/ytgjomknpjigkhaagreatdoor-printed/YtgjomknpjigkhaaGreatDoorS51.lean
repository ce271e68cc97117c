import Derived.Test.YtgjomknpjigkhaaGreatDoorS50
namespace Go.Proofs.YtgjomknpjigkhaaGreatDoor
set_option maxRecDepth 100000
set_option maxHeartbeats 4000000
section
open Go.RowKit Go.Shelf
attribute [local go_sem] Oper.semAt_some
theorem RowT.cell {W:World} {g n:Nat} {l:List Nat} (h:RowT W g n l) {p:Nat} (hp:p<n):W.cell? ⟨g,p,none⟩=some (.int .i64 ((l.getD p 0:Nat):Int)):=by
 obtain ⟨cs,h1,h2⟩:=h
 rw [h1.at.cell]
 exact h2.2 p hp
theorem printed_yes {w:World} (s:ByteArray) (hs:s.size≤9223372036854775807) {toks:List Tn} {m:Mean} (hR:readS s=.ok (toks,m)):Calls Tryz.prog 7 #[.string s] w fun e w'=>e=.returned (.bool true)∧Keeps [] w w':=by
 have hwk:=hide (works_calls w)
 have hpr:=hide (fun (W:World)=>print_text (w:=W) s hs)
 have hck:=hide (fun (W:World)=>check_text (w:=W) s hs)
 have hld:=hide (fun (W:World)=>load_any (w:=W) s hs hR)
 have hfine:=readS_fine hR
 rw [hR] at hpr hck
 simp only [outOf,fltOf,Int.cast_ofNat_Int] at hpr hck
 have hre:=hide (fun (h:(progOut false toks).size≤1200)=>reread hR h)
 generalize progOut false toks=S1 at *
 go_enter Tryz.func7,Tryz.ntmps7
 go_wp2_with fail
 refine hwk.out.mono ?_
 rintro e W0 ⟨rfl,k0⟩
 go_wp2_with fail
 refine (hpr.out _).mono ?_
 rintro e W1 ⟨rfl,k1⟩
 have kF:=Keeps.alloc [] W1 (.cells #[.int .i64 0,.int .i64 0] 28)
 have hF:=CellsAt.new W1 #[.int .i64 0,.int .i64 0] 28
 have zF:=sizeE_alloc W1 (.cells #[.int .i64 0,.int .i64 0] 28)
 generalize hWF:W1.alloc (.cells #[.int .i64 0,.int .i64 0] 28)=WF at *
 obtain ⟨c0,f0,c1,f1,hat,hk⟩:=res2 hF (.int .i64 0) (.int .i64 0)
 have KE1:=hide ((k0.trans k1).trans (kF.trans_new hk (fun i hi=>.inr (by simp only [List.mem_singleton] at hi;omega))))
 have HA1:=hide hat
 clear hat hk hF kF k0 k1
 go_wp2_with fail
 generalize (WF.setCell ⟨W1.heap.size,0,none⟩ (.int .i64 0)).setCell ⟨W1.heap.size,1,none⟩ (.int .i64 0)=E1 at *
 clear c0 c1 f0 f1 zF hWF
 refine (hck.out _).mono ?_
 rintro e W2 ⟨rfl,k2⟩
 have kF:=Keeps.alloc [] W2 (.cells #[.int .i64 0,.int .i64 0] 28)
 have hF:=CellsAt.new W2 #[.int .i64 0,.int .i64 0] 28
 have zF:=sizeE_alloc W2 (.cells #[.int .i64 0,.int .i64 0] 28)
 generalize hWF:W2.alloc (.cells #[.int .i64 0,.int .i64 0] 28)=WG at *
 obtain ⟨c0,f0,c1,f1,hat,hk⟩:=res2 hF (.int .i64 0) (.int .i64 0)
 have k12:=k2.trans (kF.trans_new hk (fun i hi=>.inr (by simp only [List.mem_singleton] at hi;omega)))
 have KE2:=hide (KE1.out.trans k12)
 have HA2:=hide (HA1.out.keeps k12 (by simp))
 have HB2:=hide hat
 clear hat hk hF kF k2 k12 KE1 HA1
 go_wp2_with fail
 generalize (WG.setCell ⟨W2.heap.size,0,none⟩ (.int .i64 0)).setCell ⟨W2.heap.size,1,none⟩ (.int .i64 0)=E2 at *
 clear c0 c1 f0 f1 zF hWF
 refine (hld.out _).mono ?_
 rintro e W3 ⟨⟨eb,rk,rfl,hEn⟩,k3⟩
 have kF:=Keeps.alloc [] W3 (.cells #[.int .i64 0,.int .i64 0] 28)
 have hF:=CellsAt.new W3 #[.int .i64 0,.int .i64 0] 28
 have zF:=sizeE_alloc W3 (.cells #[.int .i64 0,.int .i64 0] 28)
 generalize hWF:W3.alloc (.cells #[.int .i64 0,.int .i64 0] 28)=WH at *
 obtain ⟨c0,f0,c1,f1,hat,hk⟩:=res2 hF (.int .i64 0) (.int .i64 0)
 have k33:=kF.trans_new hk (fun i hi=>.inr (by simp only [List.mem_singleton] at hi;omega))
 have k23:=k3.trans k33
 have KE3:=hide (KE2.out.trans k23)
 have HE3:=hide (hEn.keeps0 k33)
 have hA3:=HA2.out.keeps k23 (by simp)
 have hB3:=HB2.out.keeps k23 (by simp)
 have a0:=hA3.cell 0
 have a1:=hA3.cell 1
 have b0:=hB3.cell 0
 have b1:=hB3.cell 1
 have d0:=hat.cell 0
 have d1:=hat.cell 1
 simp at a0 a1 b0 b1 d0 d1
 clear hat hk hF kF k3 k23 k33 KE2 HA2 HB2 hA3 hB3 hEn
 by_cases hbig:1200<S1.size
 ·have hbI:(1200:Int)<S1.size:=by omega
  go_wp2_with fail
  go_ret
  exact ⟨rfl,KE3.out⟩
 ·have hbI:¬ (1200:Int)<S1.size:=by omega
  obtain ⟨toks',m',hR',hS1,hem⟩:=hre.out (by omega)
  have hfine':=readS_fine hR'
  have hpr':=hide (fun (W:World)=>print_text (w:=W) S1 (by omega))
  have hld':=hide (fun (W:World)=>load_any (w:=W) S1 (by omega) hR')
  rw [hR'] at hpr'
  simp only [outOf,fltOf,hS1,Int.cast_ofNat_Int] at hpr'
  clear hre
  go_wp2_with fail
  generalize (WH.setCell ⟨W3.heap.size,0,none⟩ (.int .i64 0)).setCell ⟨W3.heap.size,1,none⟩ (.int .i64 0)=E3 at *
  clear c0 c1 f0 f1 zF hWF a0 a1 b0 b1 d0 d1
  refine (hpr'.out _).mono ?_
  rintro e W4 ⟨rfl,k4⟩
  have kF:=Keeps.alloc [] W4 (.cells #[.int .i64 0,.int .i64 0] 28)
  have hF:=CellsAt.new W4 #[.int .i64 0,.int .i64 0] 28
  have zF:=sizeE_alloc W4 (.cells #[.int .i64 0,.int .i64 0] 28)
  generalize hWF:W4.alloc (.cells #[.int .i64 0,.int .i64 0] 28)=WI at *
  obtain ⟨c0,f0,c1,f1,hat,hk⟩:=res2 hF (.int .i64 0) (.int .i64 0)
  have k34:=k4.trans (kF.trans_new hk (fun i hi=>.inr (by simp only [List.mem_singleton] at hi;omega)))
  have KE4:=hide (KE3.out.trans k34)
  have HE4:=hide (HE3.out.keeps0 k34)
  have HI4:=hide hat
  clear hat hk hF kF k4 k34 KE3 HE3
  go_wp2_with fail
  generalize (WI.setCell ⟨W4.heap.size,0,none⟩ (.int .i64 0)).setCell ⟨W4.heap.size,1,none⟩ (.int .i64 0)=E4 at *
  clear c0 c1 f0 f1 zF hWF
  refine (hld'.out _).mono ?_
  rintro e W5 ⟨⟨eb',rk',rfl,hEn⟩,k5⟩
  have kF:=Keeps.alloc [] W5 (.cells #[.int .i64 0,.int .i64 0] 28)
  have hF:=CellsAt.new W5 #[.int .i64 0,.int .i64 0] 28
  have zF:=sizeE_alloc W5 (.cells #[.int .i64 0,.int .i64 0] 28)
  generalize hWF:W5.alloc (.cells #[.int .i64 0,.int .i64 0] 28)=WJ at *
  obtain ⟨c0,f0,c1,f1,hat,hk⟩:=res2 hF (.int .i64 0) (.int .i64 0)
  have k55:=kF.trans_new hk (fun i hi=>.inr (by simp only [List.mem_singleton] at hi;omega))
  have k45:=k5.trans k55
  have KE5:=hide (KE4.out.trans k45)
  have HE5:=hide (HE4.out.keeps0 k45)
  have HE5':=hide (hEn.keeps0 k55)
  have hI5:=HI4.out.keeps k45 (by simp)
  have a0:=hI5.cell 0
  have a1:=hI5.cell 1
  have d0:=hat.cell 0
  have d1:=hat.cell 1
  simp at a0 a1 d0 d1
  have hrl:=hide (HE5.out.rels hfine)
  obtain ⟨ns,hns⟩:∃ ns,m.rels.map Prod.fst=ns:=⟨_,rfl⟩
  have hN6:ns.length≤6:=by rw [←hns,List.length_map];exact hfine.ok.rels
  rw [hns] at hrl
  have Hns:=hide hns
  clear hns
  clear hat hk hF kF k5 k45 k55 KE4 HE4 HI4 hI5 hEn
  go_wp2_with fail
  generalize (WJ.setCell ⟨W5.heap.size,0,none⟩ (.int .i64 0)).setCell ⟨W5.heap.size,1,none⟩ (.int .i64 0)=E5 at *
  clear c0 c1 f0 f1 zF hWF a0 a1 d0 d1
  refine hrl.out.mono ?_
  rintro e W6 ⟨v1,rfl,ho1,k6⟩
  have hrl':=hide ((HE5'.out.keeps0 k6).rels hfine')
  rw [same_rels hem,Hns.out] at hrl'
  have HE6:=hide (HE5.out.keeps0 k6)
  have HE6':=hide (HE5'.out.keeps0 k6)
  have KE6:=hide (KE5.out.trans k6)
  obtain ⟨al,cl,hv1⟩:=ownE_len ho1
  subst hv1
  have Ho1:=hide ho1
  clear ho1 k6 KE5 HE5 HE5' hrl
  go_wp2_with fail
  refine hrl'.out.mono ?_
  rintro e W7 ⟨v2,rfl,ho2,k7⟩
  have HE7:=hide (HE6.out.keeps0 k7)
  have HE7':=hide (HE6'.out.keeps0 k7)
  have KE7:=hide (KE6.out.trans k7)
  have Ho1':=hide (ownsRow_kept Ho1.out k7 (by simp))
  obtain ⟨am,cm,hv2⟩:=ownE_len ho2
  subst hv2
  have Ho2:=hide ho2
  clear ho2 k7 KE6 HE6 HE6' hrl' Ho1
  go_wp2_with fail
  go_loopw [15] (fun y wr=>∃ (k:Nat),y=.int .i64 k∧k≤ns.length∧Keeps [] W7 wr) (fun y _=>((ns.length:Int) - intOf y).toNat)
  case atStart=>exact ⟨0,rfl,by omega,Keeps.refl _ _⟩
  case round=>
   obtain ⟨k,rfl,hk,hkw⟩:=hrel
   by_cases hkN:k<ns.length
   ·have hkI:(k:Int)<ns.length:=by omega
    obtain ⟨nm,cols,hi⟩:∃ nm cols,m.rels[k]?=some (nm,cols):=⟨_,_,List.getElem?_eq_getElem (by have:=congrArg List.length Hns.out;rw [List.length_map] at this;omega)⟩
    have hi':m'.rels[k]?=some (nm,cols):=by rw [same_rels hem];exact hi
    have hE:=HE7.out.keeps0 hkw
    have hE':=HE7'.out.keeps0 hkw
    have hsame:=hE.same hem hE' hfine hfine' (by have:=(List.getElem?_eq_some_iff.1 hi).1;omega)
    subst hsame
    have hta:=hide (hE.tups hfine hi)
    obtain ⟨gl,hgl⟩:=ownE_pos2 Ho1'.out (by omega)
    subst hgl
    obtain ⟨gm,hgm⟩:=ownE_pos2 Ho2.out (by omega)
    subst hgm
    have hnm:(ns.map eS)[k]?=some (.string nm):=by rw [←Hns.out];simp [hi,eS]
    have q1:=ownE_cells (ownsRow_kept Ho1'.out hkw (by simp)) (j:=k) hnm
    have Q2:=hide (ownE_cells (ownsRow_kept Ho2.out hkw (by simp)) (j:=k) hnm)
    have Q1:=hide q1
    have HE8':=hide hE'
    have Hkw:=hide hkw
    have Hi:=hide hi
    clear hE hE' hi hnm hkw
    rename World=>wo
    go_wp2_with fail
    refine hta.out.mono ?_
    rintro e W8 ⟨va,xs,rfl,hxs,hown,hrows,k8⟩
    have htb:=hide ((HE8'.out.keeps0 k8).tups hfine' hi')
    have q2:W8.cell? ⟨gm,k,none⟩=some (.string nm):=by
     rw [←Q2.out]
     have hb:=World.block_lt_of_cell? wo _ Q2.out
     simp [World.cell?,k8.block _ hb (by simp)]
    have Q2':=hide q2
    have Q1':Hid (W8.cell? ⟨gl,k,none⟩=some (.string nm)):=hide (by
     rw [←Q1.out]
     have hb:=World.block_lt_of_cell? wo _ Q1.out
     simp [World.cell?,k8.block _ hb (by simp)])
    have H8:=hide (And.intro hown hrows)
    have Hxs:=hide hxs
    obtain ⟨xa,xc,hva⟩:=ownE_len hown
    subst hva
    have K8:=hide (Hkw.out.trans k8)
    clear hown hrows k8 Q1 Q2 hxs q1 hta HE8' Hkw hi'
    go_wp2_with fail
    refine htb.out.mono ?_
    rintro e W9 ⟨vb,ys,rfl,hys,hown,hrows,k9⟩
    have hlen:ys.length=xs.length:=by
     have h1:=congrArg List.length hys
     have h2:=congrArg List.length Hxs.out
     rw [List.length_map] at h1 h2
     omega
    have hfst:∀ (i:Nat) (x y:List Nat×Nat),xs[i]?=some x→ys[i]?=some y→y.1=x.1:=fun i x y hx hy=>by
     have h1:=congrArg (fun l=>l[i]?) hys
     have h2:=congrArg (fun l=>l[i]?) Hxs.out
     simp only [List.getElem?_map,hx,hy,Option.map_some] at h1 h2
     rw [←h2] at h1
     simpa using h1
    rw [hlen] at hown
    obtain ⟨ya,yc,hvb⟩:=ownE_len hown
    subst hvb
    have q1:W9.cell? ⟨gl,k,none⟩=some (.string nm):=by
     rw [←Q1'.out]
     have hb:=World.block_lt_of_cell? W8 _ Q1'.out
     simp [World.cell?,k9.block _ hb (by simp)]
    have q3:W9.cell? ⟨gm,k,none⟩=some (.string nm):=by
     rw [←Q2'.out]
     have hb:=World.block_lt_of_cell? W8 _ Q2'.out
     simp [World.cell?,k9.block _ hb (by simp)]
    have Hxo:=hide (ownsRow_kept H8.out.1 k9 (by simp))
    have Hxr:=hide (fun x hx=>(H8.out.2 x hx).2.keeps k9 (by simp))
    have Hyo:=hide hown
    have Hyr:=hide (fun x hx=>(hrows x hx).2)
    have Hlen:=hide hlen
    have Hfst:=hide hfst
    have K9:=hide (K8.out.trans k9)
    obtain ⟨L,hL⟩:∃ L,xs.length=L:=⟨_,rfl⟩
    rw [hL] at Hxo Hyo
    obtain ⟨cn,hcn⟩:∃ cn,cols.length=cn:=⟨_,rfl⟩
    rw [hcn] at Hxo Hxr Hyo Hyr
    have hcn3:cn≤3:=by rw [←hcn];exact (hfine.ok.cols _ (List.mem_of_getElem? (by have:=Hi.out;exact this))).1
    have hL5:L≤512:=by
     rw [←hL]
     have h2:=congrArg List.length Hxs.out
     rw [List.length_map] at h2
     rw [h2]
     refine Nat.le_trans (List.length_filter_le _ _) ?_
     exact alls_len _ (by omega)
    have HL:=hide hL
    simp only [hL]
    clear hlen hfst hys hown hrows k9 H8 K8 Q1' Q2' q2 htb Hxs hL hcn
    go_upto_region 24 with fail
    go_quiet (fail)
    go_wp2_with fail
    go_loopw [20] (fun y wr=>∃ (i:Nat),y=.int .i64 i∧i≤L∧Keeps [] W9 wr) (fun y _=>((L:Int) - intOf y).toNat)
    case atStart=>exact ⟨0,rfl,by omega,Keeps.drewN [] _ _⟩
    case round=>
     obtain ⟨i,rfl,hi,hkw⟩:=hrel
     by_cases hiL:i<L
     ·have hiI:(i:Int)<L:=by omega
      obtain ⟨x,hx⟩:∃ x,xs[i]?=some x:=⟨_,List.getElem?_eq_getElem (by have:=HL.out;omega)⟩
      obtain ⟨y,hy⟩:∃ y,ys[i]?=some y:=⟨_,List.getElem?_eq_getElem (by have:=HL.out;have:=Hlen.out;omega)⟩
      obtain ⟨ga,hga⟩:=ownE_pos2 Hxo.out (by omega)
      subst hga
      obtain ⟨gb,hgb⟩:=ownE_pos2 Hyo.out (by omega)
      subst hgb
      have hexy:=Hfst.out i x y hx hy
      have r1:=ownE_cells (ownsRow_kept Hxo.out hkw (by simp)) (j:=i) (v:=.slice (some ⟨x.2,0,none⟩) cn cn) (by simp [hx])
      have r2:=ownE_cells (ownsRow_kept Hyo.out hkw (by simp)) (j:=i) (v:=.slice (some ⟨y.2,0,none⟩) cn cn) (by simp [hy])
      have Rx:=hide ((Hxr.out x (List.mem_of_getElem? hx)).keeps hkw (by simp))
      have Ry:=hide ((Hyr.out y (List.mem_of_getElem? hy)).keeps hkw (by simp))
      rw [hexy] at Ry
      have R1:=hide r1
      have R2:=hide r2
      have Hkw:=hide hkw
      obtain ⟨l,gx⟩:=x
      obtain ⟨l',gy⟩:=y
      simp only at hexy Rx Ry r1 r2 R1 R2
      clear hx hy hexy hkw r1 r2
      rename World=>wo2
      go_wp2_with fail
      go_loopw [21] (fun y wr=>∃ (j:Nat),y=.int .i64 j∧j≤cn∧Keeps [] wo2 wr) (fun y _=>((cn:Int) - intOf y).toNat)
      case atStart=>exact ⟨0,rfl,by omega,Keeps.refl _ _⟩
      case round=>
       obtain ⟨j,rfl,hj,hkv⟩:=hrel
       have r1:wr.cell? ⟨ga,i,none⟩=some (.slice (some ⟨gx,0,none⟩) cn cn):=by
        rw [←R1.out]
        have hb:=World.block_lt_of_cell? wo2 _ R1.out
        simp [World.cell?,hkv.block _ hb (by simp)]
       have r2:wr.cell? ⟨gb,i,none⟩=some (.slice (some ⟨gy,0,none⟩) cn cn):=by
        rw [←R2.out]
        have hb:=World.block_lt_of_cell? wo2 _ R2.out
        simp [World.cell?,hkv.block _ hb (by simp)]
       by_cases hjc:j<cn
       ·have hjI:(j:Int)<cn:=by omega
        have s1:=(Rx.out.keeps hkv (by simp)).cell hjc
        have s2:=(Ry.out.keeps hkv (by simp)).cell hjc
        generalize l.getD j 0=vv at *
        go_upto_region 32 with fail
        go_quiet (fail)
        go_wp2_with fail
        exact ⟨⟨j+1,by simp,by omega,hkv.trans (Keeps.drewN [] _ _)⟩,by simp only [intOf];omega⟩
       ·have hjI:¬ (j:Int)<cn:=by omega
        go_wp2_with fail
        exact ⟨⟨i+1,by simp,by omega,Hkw.out.trans hkv⟩,by simp only [intOf];omega⟩
     ·have hiI:¬ (i:Int)<L:=by omega
      go_wp2_with fail
      exact ⟨⟨k+1,by simp,by omega,K9.out.trans hkw⟩,by simp only [intOf];omega⟩
   ·have hbI:¬ (k:Int)<ns.length:=by omega
    go_wp2_with fail
    go_ret
    exact ⟨rfl,KE7.out.trans hkw⟩
theorem printed7_calls {w:World} (s:ByteArray) (hs:s.size≤9223372036854775807):Calls Tryz.prog 7 #[.string s] w fun e w'=>e=.returned (.bool true)∧Keeps [] w w':=by
 cases hR:readS s with
 | error f=>exact printed_no s hs hR
 | ok q=>exact printed_yes s hs (toks:=q.1) (m:=q.2) hR
end
end Go.Proofs.YtgjomknpjigkhaaGreatDoor
