package commit_test

import "math/big"

// What follows was worked out apart from the program, by the document's words: by
// numbers of any length, from X on, point by point.

// The generator's coordinates, by 16.
const (
	genX = "8848defe740a67c8fc6225bf87ff5485951e2caa9d41bb188282c8bd37cb5cd5481512ffcd394eeab9b16eb21be9ef"
	genY = "1914a69c5102eff1f674f5d30afeec4bd7fb348ca3e52d96d182ad44fb82305c2fe3d3634a9591afd82de55559c8ea6"
)

// Two great scalars.
const (
	great1 = "123456789abcdef0fedcba98765432100112233445566778899aabbccddeeff"
	great2 = "fedcba9876543210123456789abcdefffeeddccbbaa99887766554433221100"
)

// setupsApart are the setups of what was worked out: three of two scalars, and one whose
// powers are 7^50, 7^100, .. times the generator, and whose blinds 11^40, 11^80, .. times.
func setupsApart() map[string]exps {
	return map[string]exps{
		"small": expsOf(whole(2), whole(3), 2),
		"minus": expsOf(minus(1), minus(1), 3),
		"great": expsOf(number(great1), number(great2), 6),
		"loose": {raisedBy(7, 50, 6), raisedBy(11, 40, 6)},
	}
}

// pApart is a polynomial of n scalars, bApart a blinding one.
func pApart(n int) []*big.Int { return raisedBy(3, 60, n) }
func bApart(n int) []*big.Int { return raisedBy(5, 70, n) }

// commitApart is a commitment by a setup to pApart and bApart of so many scalars.
type commitApart struct {
	name string
	p, b int
	text string
}

func commitsApart() []commitApart {
	return []commitApart{
		{"small", 3, 3, "40c8a7e08c477e57792056ad4e7fb6210f1791c21a9a4dec2f673182293b815d52a129e340848b745f463917d55db325"},
		{"small", 1, 0, "00cb48e900755bc4ad9b69b14b1665a33b08feca6fd6ff5e2d4fe5c42c05529e44088aca8120ea59f7451c5e284f55e8"},
		{"small", 0, 2, "40bb27d4887f6bd74216c27587fd129df00a9328564c1770cf77f5d7e1e72e57ce9aea32dafa105d0c33e47c52a831f2"},
		{"minus", 4, 4, "00ce3ab9f15683f2e8c11fdab1289d083f94047907f6b0560c1431f6949f5e3334d34388416d2b70d67ddaceee6b1884"},
		{"minus", 2, 3, "0094aa27a6aac10fe519cd37dacb87a6beb0e7419de0dc171aff558b9171fb07353771bd4f9cbacbf3ad22692dda30d1"},
		{"great", 7, 7, "419be7575d846e001e69d6a2ed4e02d0cfadd2b7e016968ea004ac32b290cb0d62584855ce7b5f6e7b530da1c388de99"},
		{"great", 7, 2, "40b8e9e4d2e2c90709985fc60f962fe7940d383c4e9b6a157b00bc274f8f2b6d414f56da46a716d05a2b6a2b930daa3a"},
		{"great", 0, 7, "016e58bc69d946e0f83d437cbe71596e1453c70b4a570f0531a599c0fc920edb77b70dedb5b1b98a4408ce8d4de35f91"},
		{"great", 5, 0, "40e3f55630de03e8ab3d8db2bb6a44a61f78d43e4d92f243dc6451bcfc4453f1096db395118768202ed4e35ddb3b6feb"},
		{"loose", 6, 6, "00b9e181e7cbc5f507df1f67862f49bfd347afd60ea5a6f34f10eac12dc705ec361ed0e48e8420f184c2f2abbffb337e"},
		{"loose", 6, 0, "016bb7cd64d5d5d14206b1549b0728a0c659bbf1c1ee74494fb927c8c45fbb39ef8c5bc06be4a3c8cea73e751f795c7a"},
		{"loose", 0, 6, "402f08423490a0c11e5c9c550a393a66a9602adc15a86cf9d61d54126d54377393da17e16a3713a1dadc6e7670ca2e2b"},
		{"loose", 2, 5, "001c5ab972f1e04e5757f52d32f7dc5df95d91bb318e4268211839b15aed71a7b8d177a24c4f52b2f8409d4c92731ad4"},
	}
}

// shiftedApart is a shifted one to pApart of so many scalars, by the bound d.
type shiftedApart struct {
	name string
	p, d int
	text string
}

func shiftsApart() []shiftedApart {
	return []shiftedApart{
		{"small", 1, 0, "409d586f8111bddacfa2ed67abe2ea646fe4bf8f3dde44f876773cc75dffab754c63529462199321e3dacad13dac1ed9"},
		{"small", 2, 1, "0013110aa442d007854ad01da512d3cf93f48e73190e13ded164cc909d7896d21a44fa48d078fbcd970f5bd3de045be2"},
		{"small", 1, 2, "00cb48e900755bc4ad9b69b14b1665a33b08feca6fd6ff5e2d4fe5c42c05529e44088aca8120ea59f7451c5e284f55e8"},
		{"minus", 3, 2, "0144993b2332c528ebd33e60a9dc691db5c82fcd2a67e923bdcde4b47d9b76111f207f6ea4ec1577fbbaf3d297559b31"},
		{"great", 1, 0, "00076fb8ea45728cf0e9f6cdc239111db3be062ddee47b313a4c684f4acfbe9544e17b8ca2cb2647c2e68c0a985bc033"},
		{"great", 3, 2, "4039c3191eced851de56cbf1e14e48c769d683b573411e117589a2b6ee8dc09a92560387ea48749bcde041dd1aa7df73"},
		{"great", 2, 5, "412bc4364f2fab79d36b61bfb050242afa48f61299ef49490087b07f5c29575c132d81508d8a03877a580a13973b15f3"},
		{"great", 7, 6, "001963f96d30af2be2a881dccc968cb5417dd5a31ba3029f4399d41062c57a78847f5f57e3aeee77ae8cd1e50aecf902"},
		{"loose", 1, 0, "408475d487cdf88ca0ad263c3c163bcfe6a184b4ec6df4773c2ead22df2f9fbdddaf2bcef525970a991c0d188778c7b5"},
		{"loose", 2, 3, "007dceaa08a8af639951e98d6198ccef5911a458545dde2300eeba6104f03d692e85f12477068910d9df083376c7bf83"},
		{"loose", 4, 4, "009c434ef9025ad77b718d0ddcd5ad546f57346a9843fd3fb5191ff8e68e6416551fb2afdd4d6b4432037d393c1f1fd2"},
		{"loose", 6, 5, "016bb7cd64d5d5d14206b1549b0728a0c659bbf1c1ee74494fb927c8c45fbb39ef8c5bc06be4a3c8cea73e751f795c7a"},
	}
}

// foldApart are folds by x: of the points 7^50, 7^100, .. times the generator, none and
// then more and more of them; of the scalars 13^90, 13^180, .., as many; and of the
// polynomials that foldedApart tells.
type foldApart struct {
	x           string
	points, els []string
	poly        []string
}

const farText = "800000000000000000000000000000000000000000000000000000000000000000000000000000000000000000000000"

func foldedApart() [][]*big.Int {
	return [][]*big.Int{pApart(3), bApart(5), nil, raisedBy(7, 50, 2), raisedBy(11, 40, 4)}
}

func foldsApart() []foldApart {
	return []foldApart{
		{
			"2",
			[]string{
				farText,
				"40d6a9ee55996f3165999242c3dd70688ad353f90774be6c5d6db2478d4a88ea9169c8554c7d1ac96db1f40ba4617803",
				"4084f670acdd6a3b1dd6ab5d4afff4777b2bfb3268ca1bcd567359957e447ee7bf743cb3d7d08f264f856aaf88938d64",
				"0088e13d559e1ad5be867fc364e67c9106b8a41e0c56397db1b95e9ab94f6c1c0162f1ca9be1a2cd43bbe4c39093f88f",
				"40cf47006420a6684dcac04096a6cad8a34966889e505251788a8cb6e1ffcb6b4c0c95188ac6cd8b40c72afe05930bd2",
				"4098a221e366e2460e09e0a811702d30b23af755177038a1d6c0b3c040d38c7358d7146c1464442b7f2d95071e0c8839",
			},
			[]string{
				"0",
				"5b3f4be828b8f1c40f54ba211f12f50beafd9be8e6b951285a1f83f6f668e59",
				"fb2b9bdcea9a5ce2d0c69b9b2a52e818e98dbdccbcad4c2e04af23861578b7e",
				"d90b5aeaadc7a1287184909fec8c0ad6deb82fb047ba8b862da6dd617d48b59",
				"cdd78f913e6f4c2283ebe563f045542ac85955c2535604793b824e2694f07cb",
				"118aa4e37e5c6fca58d2f62b166cde93176d239d6e81c28b1395812ceb4fc85b",
			},
			[]string{
				"b975e63b96616de6aa54f1a003e3ef911a480315b",
				"28291f88699606a482889b3f3aa849c675370ff3f04b37606f0248d8c01594f",
				"d97ce5b768bb2761b0caa252390a7d7ba5192cf18d5fee830f5278814a8c21c",
				"b7eed39aa5601bef63a45d1419d634411b7b6e187ca3c4e2c3f927d6bec5b5b",
				"83150286fd4409dbb58498f70fea94fa5a51283129de4ea300c52e2558e39f3",
			},
		},
		{
			"12ab655e9a2ca55660b44d1e5c37b00159aa76fed00000010a11800000000000",
			[]string{
				farText,
				"40d6a9ee55996f3165999242c3dd70688ad353f90774be6c5d6db2478d4a88ea9169c8554c7d1ac96db1f40ba4617803",
				"013345c97f8778524690e7cf833f24c56883c4b57116d52060021ac2764907879b8dd1d67d8e09a976132076d8268a93",
				"0022aa898b98b3cd18ad1e2efeaa0ae0e43ef53f8532d8141673101626b9e47c6273252a7d5bc772ff6aa5f162a31537",
				"008a8a77cf1cc785ccbe0622407a912d0807360de6fca9673be042728a7ef154463383285baab77cc2d72d61ef96f2f8",
				"401caa7723e34866b1e13995b22ed25bfa992cbd17c76a3901562d91bf40189aac6a7cf52059a24fd86230fe8056665b",
			},
			[]string{
				"0",
				"5b3f4be828b8f1c40f54ba211f12f50beafd9be8e6b951285a1f83f6f668e59",
				"a0a44ee2992d66e7b43e3256fb307b90390942ed7bbf53add563b42f66e0fc7",
				"e2c9d42072ab4d529f3ee4119c9d84451cfdbb619e82a38807e7a2a640d4fbe",
				"4278d1c667e97e6d47e5c0cc98a1b0a6bcc02ad9d0f345d2d5a348d9de002f",
				"8d4b906d0f412ef051293e1a0f2a45ad6b390eee65b96a0ad3790d81fe0c38",
			},
			[]string{
				"12ab655e9a2ca55660b44d189088ead6bdeeef8d4280d0a410a25db812ed01d9",
				"6944c90d7cd93db7931bf7a638c7c697b9851016b5a97388d03d189fbce6f73",
				"5b0619c8904776d2e797af4dcd09912bedaf7ff3e875d4f82dad83fca6f95a8",
				"9fbd2e3f35d900a82c10ca90dfa26fa2a63f1e99fa38fe668cee68cfe85ed1d",
				"53d0a9b152c325c52ae01c7759c8358da02b23ddeb10d8b6d02968ed538e307",
			},
		},
		{
			great1,
			[]string{
				farText,
				"40d6a9ee55996f3165999242c3dd70688ad353f90774be6c5d6db2478d4a88ea9169c8554c7d1ac96db1f40ba4617803",
				"416901326cc668324548bf8b8ff5828a245092f8c54728b66d58bec9e9f59e13504c0f521b6760fc85ec2bfbdec1437f",
				"417bf805ac82c296dadcd29ec1ba4f4e9ecfb880fa7c698e3638e83b9512c436f690f1d14a35c58cbbf2ed2de1e6eb57",
				"00dbbb923de6805d3b7364ff310977b82f21fa25efc72d2cf331c91d24afbc1b1b90a2eae72f9674616cfd0d285e6dcc",
				"002abe86e6d98018f30248800da65482b79a60ff4c5189462dd312ebbff0096f0c0a9f8032425a17f787def5e349af57",
			},
			[]string{
				"0",
				"5b3f4be828b8f1c40f54ba211f12f50beafd9be8e6b951285a1f83f6f668e59",
				"a71b3ff6d1ee5cc142bc231a2f5de81b5886ce8e7085fb1d595c172ecdfce77",
				"a4f4a4d00ba41a9170693fb8636359e356860cfa4e694333cd3a6249863b49b",
				"d737fb4a22c3145473b0a56ca2361c817f8d6a54424fbf2dc57035a6c8e5cd4",
				"51f727cfd9698555ba164a89589f03cc5ace8c0a66413bfaf13c72ecb6b24b1",
			},
			[]string{
				"2d074ecef6da049282d7df433adf26202220a42b27d15e56a99f370c437bd11",
				"11db85540e3d9d23b2d768d9ccc9f1c35bea9f82a756f306cec82d7ec63951a8",
				"775da74afa445f257f77f30c49f04e621343f81cd77aa39827822ec10300a88",
				"2a3d805b115cbd35414ead4cbc7dd7cb5624f246486a15a4f0d52b63f59f3db",
				"b164daa3a6fc70d4a1a2340ef324badf382ee6dc22c959f62e656e26c281c2c",
			},
		},
	}
}
