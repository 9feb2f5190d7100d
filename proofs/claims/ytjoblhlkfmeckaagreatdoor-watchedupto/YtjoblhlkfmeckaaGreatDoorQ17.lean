import Derived.Test.YtjoblhlkfmeckaaGreatDoorQ21
import Derived.Test.YtjoblhlkfmeckaaGreatDoorQ16
set_option maxHeartbeats 1000000
set_option maxRecDepth 8000
set_option linter.unusedVariables false
set_option linter.unusedSimpArgs false
open Option renaming some → lp,none → od
open Go.Proofs.Tryz renaming prog → ly,underlying82 → zy
open Bool renaming false → vp
open Go renaming Calls → xi,bodyPost_ret → zg,World → qq,heap_alloc_new → tw
open Go.RowKit.Below renaming heap_alloc → q8,refl → fe
open Go.RowKit renaming Below → ug
open Go.Instr renaming lookup → ry
open Go.Value renaming int → rl,string → pt,pointer → om,slice → cf,bool → gf,tuple → fh
open Go.Obj renaming cells → ye
open Go.IntKind renaming i64 → tz
open Go.Ending renaming returned → pd
open Go.Proofs.Tryz
theorem G00{p:Prop}(h:p:=by
 have:=(hg3.block svb Ab (fun e=>by cases e;exact hsv rfl)).trans ((b2 svb hsvl).trans T1.blk)
 exact cellOf (j:=4) this rfl):p:=h
theorem Lod{p:Prop}(h:p:=by
 have:=(hg3.block svb Ab (fun e=>by cases e;exact hsv rfl)).trans ((b2 svb hsvl).trans T1.blk)
 exact cellOf (j:=3) this rfl):p:=h
theorem Pa4{p:Prop}(h:p:=by
 have hsz3:=hg3.size
 refine⟨⟨?_,?_,?_,Ab,fun k hk hx=>?_⟩,Ab,(hg3.block svb Ab (fun e=>by cases e;exact hsv rfl)).trans ((b2 svb hsvl).trans T1.blk),?_,hM3⟩
 ·rw [hg3.os,←hW2];exact T1.grown.os
 ·rw [hg3.tape,←hW2];exact T1.grown.tape
 ·rw [hg3.output,←hW2];exact T1.grown.output
 ·rw [hg3.block k Ab (fun e=>by cases e;exact hx (.inr rfl)),b2 k Ab]
  exact T1.grown.block k hk (fun e=>by cases e;exact hx (.inl rfl))
 ·rw [←hs1,hg3.block _ Ab (fun e=>by cases e;omega)]
  exact n2):p:=h
theorem Lah{p:Prop}(h:p:=by
 go_wp2_with (go_at_call 68;refine HF.out.mono ?_;rintro e1 w1 ⟨rfl,rfl⟩)
 go_ret
 exact⟨rfl,rfl⟩):p:=h
namespace Go.Proofs.YtjoblhlkfmeckaaGreatDoor
open Go.RowKit
theorem Wj(w:qq)(svb sm s:Nat)(num:Int)(hc:w.cell? ⟨svb,3,od⟩=lp (.map (lp sm)))(hlk:(ry 82 (.map (lp sm)) (rl tz num) vp).run ly w=.ok (om (lp ⟨s,0,od⟩)) w) :
  xi ly 28 #[om (lp ⟨svb,0,od⟩),rl tz num] w fun e w'=>e=pd (om (lp ⟨s,0,od⟩))/\w'=w:=by
 go_enter func28,ntmps28
 go_wp2
 go_ret
 exact⟨rfl,rfl⟩
theorem Mn(w:qq)(svb:Nat)(hc:w.cell? ⟨svb,5,od⟩=lp (gf vp)) :
  xi ly 29 #[om (lp ⟨svb,0,od⟩)] w fun e w'=>e=pd (gf vp)/\w'=w:=by
 go_enter func29,ntmps29
 go_wp2
 all_goals go_ret
 all_goals exact⟨rfl,rfl⟩
theorem Ob(w:qq)(b:Nat)(x:Value)(hc:w.cell? ⟨b,0,od⟩=lp x) :
  xi ly 21 #[om (lp ⟨b,0,od⟩)] w fun e w'=>e=pd x/\w'=w:=by
 go_enter func21,ntmps21
 go_wp2
 go_ret
 exact⟨rfl,rfl⟩
open Go.Maps
theorem ZO(w:qq)(svb sm s:Nat)(num:Int)(hc:w.cell? ⟨svb,3,od⟩=lp (.map (lp sm)))(hlk:(ry 82 (.map (lp sm)) (rl tz num) vp).run ly w=.ok (om (lp ⟨s,0,od⟩)) w)(n p t v e:Value)(oa:Option Addr)(ol oc:Nat)(hb:w.heap[s]? = lp (ye #[n,p,t,v,e,cf oa ol oc] 75)) :
  xi ly 23 #[om (lp ⟨svb,0,od⟩),rl tz num] w fun e' w'=>e'=pd (fh #[cf oa ol oc,rl tz 0])/\w'=w.setCell ⟨s,5,od⟩ (cf od 0 0):=by
 have c5:=Kl (w:=w) 5 hb
 have f5:=EX (w:=w) 5 hb
 have HF:=Bc (Wj w svb sm s num hc hlk)
 clear hlk
 go_enter func23,ntmps23
 go_wp2_with (go_at_call 28;refine HF.out.mono ?_;rintro e1 w1 ⟨rfl,rfl⟩)
 exact zg (v:=fh #[cf oa ol oc,rl tz 0]) (by simp [results,results23,go_sem]) rfl ⟨rfl,rfl⟩
theorem EH(w:qq)(Cp svb sm s:Nat)(num:Int)(hi:w.cell? ⟨Cp,0,od⟩=lp (om (lp ⟨svb,0,od⟩)))(hc:w.cell? ⟨svb,3,od⟩=lp (.map (lp sm)))(hlk:(ry 82 (.map (lp sm)) (rl tz num) vp).run ly w=.ok (om (lp ⟨s,0,od⟩)) w)(n p t v e:Value)(oa:Option Addr)(ol oc:Nat)(hb:w.heap[s]? = lp (ye #[n,p,t,v,e,cf oa ol oc] 75)) :
  xi ly 14 #[om (lp ⟨Cp,0,od⟩),rl tz num] w fun e' w'=>e'=pd (fh #[cf oa ol oc,rl tz 0])/\w'=w.setCell ⟨s,5,od⟩ (cf od 0 0):=by
 have HI:=Bc (Ob w Cp _ hi)
 have HT:=Bc (ZO w svb sm s num hc hlk n p t v e oa ol oc hb)
 clear hlk hb hc hi
 go_enter func14,ntmps14
 go_wp2_with (first|(go_at_call 21;refine HI.out.mono ?_;rintro e1 w1 ⟨rfl,rfl⟩)|(go_at_call 23;refine HT.out.mono ?_;rintro e1 w1 ⟨rfl,rfl⟩))
 exact zg (v:=fh #[cf oa ol oc,rl tz 0]) (by simp [results,results14,go_sem]) rfl ⟨rfl,rfl⟩
theorem ZZ(w:qq)(svb tb mb:Nat)(num:Int)(ns:List (ByteArray×Nd))(hc:w.cell? ⟨svb,1,od⟩=lp (om (lp ⟨tb,0,od⟩)))(Cg:svb<w.heap.size)(h:Ca w tb mb num ns)(h32:ns.length<=1000) :
  xi ly 24 #[om (lp ⟨svb,0,od⟩)] w fun e w'=>(∃v,e=pd (fh #[rl tz num,v]))/\ug w.heap.size w w':=by
 have H31:Hid (∀W,ug w.heap.size w W->xi ly 31 #[om (lp ⟨tb,0,od⟩)] W fun e w'=>e=pd (rl tz num)/\w'=W):=fun W hb=>Kb W tb mb num ns (h.below hb (ltOf h.blk) h.map.lt)
 have H32:Hid (∀W,ug w.heap.size w W->xi ly 32 #[om (lp ⟨tb,0,od⟩)] W fun e w'=>(∃v,e=pd v)/\ug w.heap.size w w'):=fun W hb=>(IW W tb mb num ns (h.below hb (ltOf h.blk) h.map.lt) h32).mono fun e w' ⟨h1,h2⟩=>⟨h1,hb.trans (h2.mono hb.size)⟩
 have HB:Hid (ug w.heap.size w w):=fe _ _
 have HCC:Hid (∀W,ug w.heap.size w W->W.cell? ⟨svb,1,od⟩=lp (om (lp ⟨tb,0,od⟩))):=fun W hb=>(hb.cell (p:=⟨svb,1,od⟩) Cg).trans hc
 go_enter func24,ntmps24
 go_wp2_with fail
 go_region_held3 (fun w'=>w'.cell? ⟨svb,1,od⟩=lp (om (lp ⟨tb,0,od⟩))) (first|(go_keep;done)|assumption) (first|(go_at_call 31;refine(H31.out _ (by first|exact fe _ _|exact(fe _ _).drew|exact(fe _ _).drew.drew)).mono ?_;rintro e w1 ⟨rfl,rfl⟩)|(go_at_call 32;refine(H32.out _ (by first|exact fe _ _|exact(fe _ _).drew|exact(fe _ _).drew.drew)).mono ?_;rintro e w1 ⟨⟨v,rfl⟩,B9⟩;have Cs:=Bc B9;have hc1:=HCC.out _ B9;clear B9))
 go_wp2_with fail
 exact zg (v:=fh #[rl tz num,v]) (by simp [results,results24,go_sem]) rfl ⟨⟨v,rfl⟩,Cs.out⟩
theorem ZY(w:qq)(Cp svb tb mb:Nat)(num:Int)(ns:List (ByteArray×Nd))(hi:w.cell? ⟨Cp,0,od⟩=lp (om (lp ⟨svb,0,od⟩)))(hc:w.cell? ⟨svb,1,od⟩=lp (om (lp ⟨tb,0,od⟩)))(Cg:svb<w.heap.size)(h:Ca w tb mb num ns)(h32:ns.length<=1000) :
  xi ly 15 #[om (lp ⟨Cp,0,od⟩)] w fun e w'=>(∃v,e=pd (fh #[rl tz num,v]))/\ug w.heap.size w w':=by
 have HI:=Bc (Ob w Cp _ hi)
 have HT:=Bc (ZZ w svb tb mb num ns hc Cg h h32)
 clear h hc hi Cg
 go_enter func15,ntmps15
 go_wp2_with (first|(go_at_call 21;refine HI.out.mono ?_;rintro e1 w1 ⟨rfl,rfl⟩)|(go_at_call 24;refine HT.out.mono ?_;rintro e1 w1 ⟨⟨v,rfl⟩,hb⟩;have HB:=Bc hb;clear hb))
 exact zg (v:=fh #[rl tz num,v]) (by simp [results,results15,go_sem]) rfl ⟨⟨v,rfl⟩,HB.out⟩
theorem MS(w:qq)(svb D tb wm sm:Nat)(m:List (Value×Value))(hv:w.heap[svb]? = lp (ye #[om (lp ⟨D,0,od⟩),om (lp ⟨tb,0,od⟩),.map (lp wm),.map (lp sm),rl tz 0,gf vp] 84))(hm:Bm ly 3 w sm m)(hml:m.length<8)(hno:∀p∈m,p.1≠rl tz 1) :
  xi ly 27 #[om (lp ⟨svb,0,od⟩)] w fun e w'=>e=pd (fh #[rl tz 1,rl tz 0])/\Ar w w' (fun i=>i=svb∨i=sm)/\w.heap.size<w'.heap.size/\w'.heap[svb]? = lp (ye #[om (lp ⟨D,0,od⟩),om (lp ⟨tb,0,od⟩),.map (lp wm),.map (lp sm),rl tz 1,gf vp] 84) /\
   w'.heap[w.heap.size]? = lp (ye #[rl tz 1,cf od 0 0,gf vp,rl tz 0,gf vp,cf od 0 0] 75)/\Bm ly 3 w' sm (m ++ [(rl tz 1,om (lp ⟨w.heap.size,0,od⟩))]):=by
 have HD:=Bc (Mn w svb (cellOf (j:=5) hv rfl))
 obtain⟨c3,c4⟩:=BH (w:=w) 3 4 hv
 have f4:=EX (w:=w) 4 hv
 have hlen:=hm.len (t:=82) zy 3
 have hsv:svb≠sm:=fun e=>by
  obtain⟨es,ck,h⟩:=hm.ex
  rw [←e,hv] at h
  cases h.1
 have hge:decide ((8:Int)<=(m.length:Int))=vp:=Ag
 obtain⟨w1,hw1⟩:∃w1,w.setCell ⟨svb,4,od⟩ (rl tz 1)=w1:=⟨_,rfl⟩
 have T1:Bn w w1 svb #[om (lp ⟨D,0,od⟩),om (lp ⟨tb,0,od⟩),.map (lp wm),.map (lp sm),rl tz 1,gf vp] 84:=by rw [←hw1];exact(Bn.refl hv).set 4 (rl tz 1)
 obtain⟨d3,d4⟩:=BH (w:=w1) 3 4 T1.blk
 have hs1:w1.heap.size=w.heap.size:=by rw [←hw1];simp
 have hm1:w1.heap[sm]? = w.heap[sm]?:=T1.grown.block sm hm.lt (fun e=>by cases e;exact hsv rfl)
 obtain⟨W2,hW2⟩:∃W2,w1.drew.alloc (ye #[rl tz 1,cf od 0 0,gf vp,rl tz 0,gf vp,cf od 0 0] 75)=W2:=⟨_,rfl⟩
 have b2:∀k,k<w1.heap.size->W2.heap[k]? = w1.heap[k]?:=fun k hk=>by rw [←hW2];exact q8 _ _ _ hk
 have n2:W2.heap[w1.heap.size]? = lp (ye #[rl tz 1,cf od 0 0,gf vp,rl tz 0,gf vp,cf od 0 0] 75):=by rw [←hW2];exact tw _ _
 have s2:W2.heap.size=w1.heap.size+1:=by rw [←hW2];simp
 have hml1:sm<w1.heap.size:=by rw [hs1];exact hm.lt
 obtain⟨W3,hu,hM3,hg3⟩:=(hm.of_block ((b2 sm hml1).trans hm1)).put_new (val:=om (lp ⟨w.heap.size,0,od⟩)) CW zy (key:=.int .i64 1) (kl:=.int tz 1) Aa hno
 have hsvl:svb<w1.heap.size:=ltOf T1.blk
 have f3:W3.cell? ⟨svb,4,od⟩=lp (rl tz 1):=by
  exact G00
 have g3:W3.cell? ⟨svb,3,od⟩=lp (.map (lp sm)):=by
  exact Lod
 obtain⟨e3,e4⟩:=BH (w:=W2) 3 4 ((b2 svb hsvl).trans T1.blk)
 have HR:Hid (Ar w W3 (fun i=>i=svb∨i=sm)/\w.heap.size<W3.heap.size/\W3.heap[svb]? = lp (ye #[om (lp ⟨D,0,od⟩),om (lp ⟨tb,0,od⟩),.map (lp wm),.map (lp sm),rl tz 1,gf vp] 84) /\
   W3.heap[w.heap.size]? = lp (ye #[rl tz 1,cf od 0 0,gf vp,rl tz 0,gf vp,cf od 0 0] 75)/\Bm ly 3 W3 sm (m ++ [(rl tz 1,om (lp ⟨w.heap.size,0,od⟩))])):=by
  exact Pa4
 clear hM3 hg3 n2 b2 T1 hm hm1 hno hv
 go_enter func27,ntmps27
 go_wp2_with (go_at_call 29;refine HD.out.mono ?_;rintro e1 w1' ⟨rfl,rfl⟩)
 go_region_held3 (fun w'=>w'.cell? ⟨svb,3,od⟩=lp (.map (lp sm))/\w'.cell? ⟨svb,4,od⟩=lp (rl tz 1)) (first|(go_keep;done)|exact⟨d3,d4⟩|exact⟨e3,e4⟩|exact⟨g3,f3⟩) (fail)
 go_wp2_with fail
 exact zg (v:=fh #[rl tz 1,rl tz 0]) (by simp [results,results27,go_sem]) rfl ⟨rfl,HR.out⟩
theorem MT(w:qq)(svb D tb wm sm:Nat)(m:List (Value×Value))(hv:w.heap[svb]? = lp (ye #[om (lp ⟨D,0,od⟩),om (lp ⟨tb,0,od⟩),.map (lp wm),.map (lp sm),rl tz 1,gf vp] 84))(hm:Bm ly 3 w sm m)(hml:m.length<8)(hno:∀p∈m,p.1≠rl tz 2) :
  xi ly 27 #[om (lp ⟨svb,0,od⟩)] w fun e w'=>e=pd (fh #[rl tz 2,rl tz 0])/\Ar w w' (fun i=>i=svb∨i=sm)/\w.heap.size<w'.heap.size/\w'.heap[svb]? = lp (ye #[om (lp ⟨D,0,od⟩),om (lp ⟨tb,0,od⟩),.map (lp wm),.map (lp sm),rl tz 2,gf vp] 84) /\
   w'.heap[w.heap.size]? = lp (ye #[rl tz 2,cf od 0 0,gf vp,rl tz 0,gf vp,cf od 0 0] 75)/\Bm ly 3 w' sm (m ++ [(rl tz 2,om (lp ⟨w.heap.size,0,od⟩))]):=by
 have HD:=Bc (Mn w svb (cellOf (j:=5) hv rfl))
 obtain⟨c3,c4⟩:=BH (w:=w) 3 4 hv
 have f4:=EX (w:=w) 4 hv
 have hlen:=hm.len (t:=82) zy 3
 have hsv:svb≠sm:=fun e=>by
  obtain⟨es,ck,h⟩:=hm.ex
  rw [←e,hv] at h
  cases h.1
 have hge:decide ((8:Int)<=(m.length:Int))=vp:=Ag
 obtain⟨w1,hw1⟩:∃w1,w.setCell ⟨svb,4,od⟩ (rl tz 2)=w1:=⟨_,rfl⟩
 have T1:Bn w w1 svb #[om (lp ⟨D,0,od⟩),om (lp ⟨tb,0,od⟩),.map (lp wm),.map (lp sm),rl tz 2,gf vp] 84:=by rw [←hw1];exact(Bn.refl hv).set 4 (rl tz 2)
 obtain⟨d3,d4⟩:=BH (w:=w1) 3 4 T1.blk
 have hs1:w1.heap.size=w.heap.size:=by rw [←hw1];simp
 have hm1:w1.heap[sm]? = w.heap[sm]?:=T1.grown.block sm hm.lt (fun e=>by cases e;exact hsv rfl)
 obtain⟨W2,hW2⟩:∃W2,w1.drew.alloc (ye #[rl tz 2,cf od 0 0,gf vp,rl tz 0,gf vp,cf od 0 0] 75)=W2:=⟨_,rfl⟩
 have b2:∀k,k<w1.heap.size->W2.heap[k]? = w1.heap[k]?:=fun k hk=>by rw [←hW2];exact q8 _ _ _ hk
 have n2:W2.heap[w1.heap.size]? = lp (ye #[rl tz 2,cf od 0 0,gf vp,rl tz 0,gf vp,cf od 0 0] 75):=by rw [←hW2];exact tw _ _
 have s2:W2.heap.size=w1.heap.size+1:=by rw [←hW2];simp
 have hml1:sm<w1.heap.size:=by rw [hs1];exact hm.lt
 obtain⟨W3,hu,hM3,hg3⟩:=(hm.of_block ((b2 sm hml1).trans hm1)).put_new (val:=om (lp ⟨w.heap.size,0,od⟩)) CW zy (key:=.int .i64 2) (kl:=.int tz 2) Aa hno
 have hsvl:svb<w1.heap.size:=ltOf T1.blk
 have f3:W3.cell? ⟨svb,4,od⟩=lp (rl tz 2):=by
  exact G00
 have g3:W3.cell? ⟨svb,3,od⟩=lp (.map (lp sm)):=by
  exact Lod
 obtain⟨e3,e4⟩:=BH (w:=W2) 3 4 ((b2 svb hsvl).trans T1.blk)
 have HR:Hid (Ar w W3 (fun i=>i=svb∨i=sm)/\w.heap.size<W3.heap.size/\W3.heap[svb]? = lp (ye #[om (lp ⟨D,0,od⟩),om (lp ⟨tb,0,od⟩),.map (lp wm),.map (lp sm),rl tz 2,gf vp] 84) /\
   W3.heap[w.heap.size]? = lp (ye #[rl tz 2,cf od 0 0,gf vp,rl tz 0,gf vp,cf od 0 0] 75)/\Bm ly 3 W3 sm (m ++ [(rl tz 2,om (lp ⟨w.heap.size,0,od⟩))])):=by
  exact Pa4
 clear hM3 hg3 n2 b2 T1 hm hm1 hno hv
 go_enter func27,ntmps27
 go_wp2_with (go_at_call 29;refine HD.out.mono ?_;rintro e1 w1' ⟨rfl,rfl⟩)
 go_region_held3 (fun w'=>w'.cell? ⟨svb,3,od⟩=lp (.map (lp sm))/\w'.cell? ⟨svb,4,od⟩=lp (rl tz 2)) (first|(go_keep;done)|exact⟨d3,d4⟩|exact⟨e3,e4⟩|exact⟨g3,f3⟩) (fail)
 go_wp2_with fail
 exact zg (v:=fh #[rl tz 2,rl tz 0]) (by simp [results,results27,go_sem]) rfl ⟨rfl,HR.out⟩
theorem GY(w:qq)(Cp svb:Nat)(k:Int)(R:qq->Prop)(hi:w.cell? ⟨Cp,0,od⟩=lp (om (lp ⟨svb,0,od⟩)))(H:xi ly 27 #[om (lp ⟨svb,0,od⟩)] w fun e w'=>e=pd (fh #[rl tz k,rl tz 0])/\R w') :
  xi ly 19 #[om (lp ⟨Cp,0,od⟩)] w fun e w'=>e=pd (fh #[rl tz k,rl tz 0])/\R w':=by
 have HI:=Bc (Ob w Cp _ hi)
 have HT:=Bc H
 clear hi H
 go_enter func19,ntmps19
 go_wp2_with (first|(go_at_call 21;refine HI.out.mono ?_;rintro e1 w1 ⟨rfl,rfl⟩)|(go_at_call 27;refine HT.out.mono ?_;rintro e1 w1 ⟨rfl,hb⟩;have HB:=Bc hb;clear hb))
 exact zg (v:=fh #[rl tz k,rl tz 0]) (by simp [results,results19,go_sem]) rfl ⟨rfl,HB.out⟩
theorem Zx(w:qq):xi ly 4 #[] w fun e w'=>e=pd (fh #[om (lp ⟨w.heap.size+1,0,od⟩),om (lp ⟨w.heap.size+2,0,od⟩)])/\w'=((w.alloc (ye #[cf od 0 0,rl tz (-1)] 52)).alloc (ye #[om (lp ⟨w.heap.size,0,od⟩)] 54)).alloc (ye #[om (lp ⟨w.heap.size,0,od⟩)] 56):=by
 go_enter func4,ntmps4
 go_wp2
 exact zg (v:=fh #[om (lp ⟨w.heap.size+1,0,od⟩),om (lp ⟨w.heap.size+2,0,od⟩)]) (by simp [results,results4,go_sem]) rfl ⟨rfl,rfl⟩
section
variable (w:qq) (D K:Nat) (hd:w.cell? ⟨D,0,od⟩=lp (om (lp ⟨K,0,od⟩))) (hk:w.cell? ⟨K,0,od⟩=lp (cf od 0 0)) (H0:w.cell? ⟨K,1,od⟩=lp (rl tz (-1)))
include hk in
theorem Ts(s:ByteArray):xi ly 68 #[om (lp ⟨K,0,od⟩),pt s] w fun e w'=>e=pd (rl tz (-1))/\w'=w:=by
 go_enter func68,ntmps68
 go_wp2
 refine wp_loop_rounds 1 ?_
 rw [rounds_succ]
 go_wp2
 go_ret
 exact⟨rfl,rfl⟩
include hd hk in
theorem Tt(s:ByteArray):xi ly 61 #[om (lp ⟨D,0,od⟩),pt s] w fun e w'=>e=pd (pt ⟨#[]⟩)/\w'=w:=by
 have HF:=Bc (Ts w K hk s)
 go_enter func61,ntmps61
 exact Lah
include hd hk in
theorem HJ(s:ByteArray):xi ly 43 #[om (lp ⟨D,0,od⟩),pt s] w fun e w'=>e=pd (gf vp)/\w'=w:=by
 have HF:=Bc (Ts w K hk s)
 go_enter func43,ntmps43
 exact Lah
include hd H0 in
theorem Vj:xi ly 45 #[om (lp ⟨D,0,od⟩)] w fun e w'=>e=pd (gf vp)/\w'=w:=by
 go_enter func45,ntmps45
 go_wp2
 go_ret
 exact⟨rfl,rfl⟩
end
theorem Si(w:qq)(a:Option Addr)(c:Nat):xi ly 117 #[cf a 0 c] w fun e w'=>e=pd (fh #[cf od 0 0,gf vp])/\w'=w:=by
 go_enter func117,ntmps117
 go_wp2
 exact zg (v:=fh #[cf od 0 0,gf vp]) (by simp [results,results117,go_sem]) rfl ⟨rfl,rfl⟩
abbrev Ir:Nd:=⟨⟨#[47]⟩,⟨#[]⟩,⟨#[]⟩,0,0,0⟩
theorem Aaa(w:qq)(g:Nat)(hg:w.heap[g]? = lp (ye Ir.cs 96)) :
  xi ly 63 #[rl tz 0,cf (lp ⟨g,0,od⟩) 1 1] w fun e w'=>e=pd (om (lp ⟨w.heap.size+1,0,od⟩))/\Ca w' (w.heap.size+1) w.heap.size 0 [(⟨#[47]⟩,Ir)]/\ug w.heap.size w w':=by
 obtain⟨W1,hW1⟩:∃W1,w.alloc (.map #[] 0)=W1:=⟨_,rfl⟩
 have hmk:(Instr.makeMap 92 od).run ly w=.ok (.map (lp w.heap.size)) W1:=by rw [←hW1];simp [Instr.makeMap,runUnderlying92,go_sem]
 have s1:W1.heap.size=w.heap.size+1:=by rw [←hW1];simp
 have hm1:Bm ly 9 W1 w.heap.size []:=by rw [←hW1];exact Bm.made w
 obtain⟨W2,hW2⟩:∃W2,W1.alloc (ye #[rl tz 0,.map (lp w.heap.size)] 94)=W2:=⟨_,rfl⟩
 have s2:W2.heap.size=w.heap.size+2:=by rw [←hW2];simp;omega
 have b2:∀k,k<W1.heap.size->W2.heap[k]? = W1.heap[k]?:=fun k hk=>by rw [←hW2];exact q8 _ _ _ hk
 have t2:W2.heap[w.heap.size+1]? = lp (ye #[rl tz 0,.map (lp w.heap.size)] 94):=by rw [←hW2,←s1];exact tw _ _
 have g1:W1.heap[g]? = lp (ye Ir.cs 96):=by rw [←hW1];exact(q8 _ _ _ (ltOf hg)).trans hg
 have g2:W2.heap[g]? = lp (ye Ir.cs 96):=(b2 g (ltOf g1)).trans g1
 obtain⟨x0,x1,x2,x3,x4,x5⟩:=WO (w:=W2) 0 1 2 3 4 5 g2
 obtain⟨W3,hW3⟩:∃W3,W2.alloc (ye #[pt ⟨#[]⟩,pt ⟨#[]⟩,pt ⟨#[]⟩,rl tz 0,rl tz 0,rl tz 0] 96)=W3:=⟨_,rfl⟩
 have HZ3:W3.heap[W2.heap.size]? = lp (ye #[pt ⟨#[]⟩,pt ⟨#[]⟩,pt ⟨#[]⟩,rl tz 0,rl tz 0,rl tz 0] 96):=by rw [←hW3];exact tw _ _
 have b3:∀k,k<W2.heap.size->W3.heap[k]? = W2.heap[k]?:=fun k hk=>by rw [←hW3];exact q8 _ _ _ hk
 have c30:=Kl (w:=W3) 0 HZ3
 have f30:=Ay (j:=0) HZ3
 have c31:=Kl (w:=W3) 1 HZ3
 have f31:=Ay (j:=1) HZ3
 have c32:=Kl (w:=W3) 2 HZ3
 have f32:=Ay (j:=2) HZ3
 have c33:=Kl (w:=W3) 3 HZ3
 have f33:=Ay (j:=3) HZ3
 have c34:=Kl (w:=W3) 4 HZ3
 have f34:=Ay (j:=4) HZ3
 have c35:=Kl (w:=W3) 5 HZ3
 have f35:=Ay (j:=5) HZ3
 obtain⟨W4,hW4⟩:∃W4,((((((W3.setCell ⟨W2.heap.size,0,od⟩ (pt ⟨#[47]⟩)).setCell ⟨W2.heap.size,1,od⟩ (pt ⟨#[]⟩)).setCell ⟨W2.heap.size,2,od⟩ (pt ⟨#[]⟩)).setCell ⟨W2.heap.size,3,od⟩ (rl tz 0)).setCell ⟨W2.heap.size,4,od⟩ (rl tz 0)).setCell ⟨W2.heap.size,5,od⟩ (rl tz 0))=W4:=⟨_,rfl⟩
 have T4:Bn W3 W4 W2.heap.size Ir.cs 96:=by rw [←hW4];exact(((((((Bn.refl HZ3).set 0 (pt ⟨#[47]⟩)).set 1 (pt ⟨#[]⟩)).set 2 (pt ⟨#[]⟩)).set 3 (rl tz 0)).set 4 (rl tz 0)).set 5 (rl tz 0))
 have s3:W3.heap.size=w.heap.size+3:=by rw [←hW3];simp;omega
 have o4:∀k,k<W2.heap.size->W4.heap[k]? = W2.heap[k]?:=fun k hk=>(T4.grown.block k Ab (fun e=>by have:=aC e;omega)).trans (b3 k hk)
 have t4:W4.heap[w.heap.size+1]? = lp (ye #[rl tz 0,.map (lp w.heap.size)] 94):=(o4 _ Ab).trans t2
 have m4:Bm ly 9 W4.drew w.heap.size []:=hm1.of_block ((o4 _ Ab).trans (b2 _ Ab))
 obtain⟨W5,hu,hM5,hg5⟩:=m4.put_new (val:=Ir.val) Xm underlying92 (key:=.string ⟨#[47]⟩) (kl:=.string [47]) Aa Ae
 have hS4:W4.cell? ⟨w.heap.size+1,1,od⟩=lp (.map (lp w.heap.size))/\W4.cell? ⟨W2.heap.size,0,od⟩=lp (pt ⟨#[47]⟩)/\W4.cell? ⟨W2.heap.size,1,od⟩=lp (pt ⟨#[]⟩)/\W4.cell? ⟨W2.heap.size,2,od⟩=lp (pt ⟨#[]⟩)/\W4.cell? ⟨W2.heap.size,3,od⟩=lp (rl tz 0)/\W4.cell? ⟨W2.heap.size,4,od⟩=lp (rl tz 0)/\W4.cell? ⟨W2.heap.size,5,od⟩=lp (rl tz 0):=
  ⟨cellOf (j:=1) t4 rfl,cellOf (j:=0) T4.blk rfl,cellOf (j:=1) T4.blk rfl,cellOf (j:=2) T4.blk rfl,cellOf (j:=3) T4.blk rfl,cellOf (j:=4) T4.blk rfl,cellOf (j:=5) T4.blk rfl⟩
 have t5:W5.heap[w.heap.size+1]? = lp (ye #[rl tz 0,.map (lp w.heap.size)] 94):=(hg5.block _ (by show _<W4.heap.size;have:=T4.grown.size;omega) (fun e=>by have:=aC e;omega)).trans t4
 have n5:W5.heap[W2.heap.size]? = lp (ye Ir.cs 96):=(hg5.block _ (ltOf T4.blk) (fun e=>by have:=aC e;omega)).trans T4.blk
 have hS5:W5.cell? ⟨w.heap.size+1,1,od⟩=lp (.map (lp w.heap.size))/\W5.cell? ⟨W2.heap.size,0,od⟩=lp (pt ⟨#[47]⟩)/\W5.cell? ⟨W2.heap.size,1,od⟩=lp (pt ⟨#[]⟩)/\W5.cell? ⟨W2.heap.size,2,od⟩=lp (pt ⟨#[]⟩)/\W5.cell? ⟨W2.heap.size,3,od⟩=lp (rl tz 0)/\W5.cell? ⟨W2.heap.size,4,od⟩=lp (rl tz 0)/\W5.cell? ⟨W2.heap.size,5,od⟩=lp (rl tz 0):=
  ⟨cellOf (j:=1) t5 rfl,cellOf (j:=0) n5 rfl,cellOf (j:=1) n5 rfl,cellOf (j:=2) n5 rfl,cellOf (j:=3) n5 rfl,cellOf (j:=4) n5 rfl,cellOf (j:=5) n5 rfl⟩
 have HR:Hid (Ca W5 (w.heap.size+1) w.heap.size 0 [(⟨#[47]⟩,Ir)]/\ug w.heap.size w W5):=by
  refine⟨⟨t5,hM5⟩,?_,?_,?_,?_,fun k hk=>?_⟩
  ·rw [hg5.os];show W4.os=_;rw [T4.grown.os,←hW3,←hW2,←hW1];rfl
  ·rw [hg5.tape];show W4.tape=_;rw [T4.grown.tape,←hW3,←hW2,←hW1];rfl
  ·rw [hg5.output];show W4.output=_;rw [T4.grown.output,←hW3,←hW2,←hW1];rfl
  ·have h1:=hg5.size;have h2:=T4.grown.size;have h3:W4.drew.heap.size=W4.heap.size:=rfl;omega
  ·rw [hg5.block k (by show _<W4.heap.size;have:=T4.grown.size;omega) (fun e=>by have:=aC e;omega)]
   show W4.heap[k]? = _
   rw [o4 k Ab,b2 k Ab,←hW1]
   exact q8 _ _ _ hk
 clear hM5 hg5 m4 T4 hm1 b2 b3 o4 t4 t5 n5 HZ3 g1 g2 t2 hg
 rw [s2] at c30 f30 c31 f31 c32 f32 c33 f33 c34 f34 c35 f35 hW4 hS4 hS5
 clear s3
 go_enter func63,ntmps63
 go_wp2
 refine wp_loop_rounds 2 ?_
 rw [rounds_succ]
 go_wp2
 go_region_held3 (fun w'=>w'.cell? ⟨w.heap.size+1,1,od⟩=lp (.map (lp w.heap.size))/\w'.cell? ⟨w.heap.size+2,0,od⟩=lp (pt ⟨#[47]⟩)/\w'.cell? ⟨w.heap.size+2,1,od⟩=lp (pt ⟨#[]⟩)/\w'.cell? ⟨w.heap.size+2,2,od⟩=lp (pt ⟨#[]⟩)/\w'.cell? ⟨w.heap.size+2,3,od⟩=lp (rl tz 0)/\w'.cell? ⟨w.heap.size+2,4,od⟩=lp (rl tz 0)/\w'.cell? ⟨w.heap.size+2,5,od⟩=lp (rl tz 0)) (first|(go_keep;done)|exact hS4|exact hS5) (fail)
 go_wp2
 rw [rounds_succ]
 go_wp2
 go_ret
 exact⟨rfl,HR.out⟩
theorem TF(w:qq):xi ly 62 #[] w fun e w'=>e=pd (om (lp ⟨w.heap.size+2,0,od⟩))/\Ca w' (w.heap.size+2) (w.heap.size+1) 0 [(⟨#[47]⟩,Ir)]/\ug w.heap.size w w':=by
 obtain⟨W1,hW1⟩:∃W1,w.alloc (ye #[pt ⟨#[47]⟩,pt ⟨#[]⟩,pt ⟨#[]⟩,rl tz 0,rl tz 0,rl tz 0] 96)=W1:=⟨_,rfl⟩
 have s1:W1.heap.size=w.heap.size+1:=by rw [←hW1];simp
 have HT:=Aaa W1 w.heap.size (by rw [←hW1];exact tw _ _)
 have hb:ug w.heap.size w W1:=by rw [←hW1];exact Bh _ _
 rw [s1] at HT
 have HT':Hid (xi ly 63 #[rl tz 0,cf (lp ⟨w.heap.size,0,od⟩) 1 1] W1 fun e w'=>e=pd (om (lp ⟨w.heap.size+2,0,od⟩))/\Ca w' (w.heap.size+2) (w.heap.size+1) 0 [(⟨#[47]⟩,Ir)]/\ug w.heap.size w w'):=HT.mono fun e w' ⟨h1,h2,h3⟩=>⟨h1,h2,hb.trans (h3.mono Ab)⟩
 clear HT hb s1
 go_enter func62,ntmps62
 go_wp2_with (go_at_call 63;refine HT'.out.mono ?_;rintro e1 w1 ⟨rfl,hh⟩;have HH:=Bc hh;clear hh)
 go_ret
 exact⟨rfl,HH.out⟩
end Go.Proofs.YtjoblhlkfmeckaaGreatDoor
